/- The library's Grow by its contract, and the walk of its Concat, at rows. -/
import Derived.Test.YtgdkfbgehbdkjabDoorW37
import Derived.Test.YtgdkfbgehbdkjabDoorSpI
import Derived.Test.YtgdkfbgehbdkjabDoorSpN
import Derived.Test.YtgdkfbgehbdkjabDoorDOw
import Derived.Test.YtgdkfbgehbdkjabDoorC1
import Derived.Test.YtgdkfbgehbdkjabDoorW10
import Derived.Deep.RegionHeld3
import Derived.WalkMore
import Derived.Shelf.Spec.SlicesGrow
import Derived.Maps.AppendAt
import Derived.Deep.AppendLies
import Derived.Deep.MidRow
/- The walk of the room's normal. -/
/- Rows of one's own in blocks of their own; the walks of the library's Clone and IndexFunc at rows, and of lead. -/
/- The walks of the room's checkRows and of open. -/
/- A room: a field that is one and a number of places; the walks of its order, times, plus and less. -/
namespace Go.Proofs.YtgdkfbgehbdkjabDoor.Fd
variable {P K : Nat} {m : Nat → Int}
theorem less_one (hF : FieldQ P K m) : addQ P K (P - 1) 1 = 0 := by
  have hR := hF.toRing1
  have hP := hR.two
  refine vec_inj hR (addQ_lt hR _ _) (by have := one_lt hR; omega) ?_
  refine (addQ_vec hR _ _).trans fun t ht => ?_
  show (P : Int) ∣ digF (P - 1) P t + digF 1 P t - digF 0 P t
  rw [digF_zero]
  cases t with
  | zero =>
    unfold digF
    rw [Nat.pow_zero, Nat.div_one, Nat.div_one, Nat.mod_eq_of_lt (by omega), Nat.mod_eq_of_lt (by omega)]
    exact ⟨1, by omega⟩
  | succ t =>
    have h1 : P ≤ P ^ (t + 1) := by
      have := Nat.pow_le_pow_right (show 0 < P by omega) (show 1 ≤ t + 1 by omega)
      rwa [Nat.pow_one] at this
    unfold digF
    rw [Nat.div_eq_of_lt (by omega), Nat.div_eq_of_lt (by omega)]
    exact ⟨0, by simp⟩
theorem one_le (hF : FieldQ P K m) : P ≤ P ^ K := by
  have h1 := hF.toRing1.one
  have := Nat.pow_le_pow_right (show 0 < P by have := hF.toRing1.two; omega) h1
  rwa [Nat.pow_one] at this
theorem less_is (hF : FieldQ P K m) {a : Nat} (ha : a < P ^ K) : mulQ P K m (P - 1) a = ngQ P K a := by
  have h := field_fqr hF
  have h1 := one_le hF
  have hP := hF.toRing1.two
  have hp : P - 1 < P ^ K := by omega
  have e : P - 1 = ngQ P K 1 := h.ng_eq hp h.one (less_one hF)
  rw [e, h.ng_mu h.one ha, h.one_mu ha]
end Go.Proofs.YtgdkfbgehbdkjabDoor.Fd
namespace Go.Proofs.YtgdkfbgehbdkjabDoor
open Go.RowKit

/-- A field that is one, in memory. -/
structure Fld (P K : Nat) (l : List Int) (v : Value) (w : World) : Prop where
  tab : Fd.Tab w
  sl : Fd.Sl w v l
  len : l.length ≤ maxLen
  good : Fd.GoodF P K l
theorem Fld.below {P K : Nat} {l : List Int} {v : Value} {w w' : World} (h : Fld P K l v w) (hb : Below w.heap.size w w') : Fld P K l v w' := ⟨h.tab.below hb, h.sl.below hb, h.len, h.good⟩
abbrev adF (P K : Nat) : Nat → Nat → Nat := Fd.addQ P K
abbrev muF (P K : Nat) (l : List Int) : Nat → Nat → Nat := Fd.mulQ P K (Fd.monL l)
abbrev ngF (P K : Nat) : Nat → Nat := Fd.ngQ P K
theorem Fld.fqr {P K : Nat} {l : List Int} {v : Value} {w : World} (h : Fld P K l v w) : FqR (P ^ K) (adF P K) (muF P K l) (ngF P K) := Fd.field_fqr h.good.field
/-- A room by value. -/
abbrev rmV (P K : Nat) (v : Value) (n : Nat) : Value := .agg #[.int .i64 (P : Int), .int .i64 (K : Int), v, .int .i64 (n : Int)]
/-- A room in a box, as it is read later. -/
theorem rm_box (P K n : Nat) (v : Value) (w : World) : ∀ W, Below (w.alloc (.cells #[.int .i64 (P : Int), .int .i64 (K : Int), v, .int .i64 (n : Int)] 74)).heap.size (w.alloc (.cells #[.int .i64 (P : Int), .int .i64 (K : Int), v, .int .i64 (n : Int)] 74)) W →
    W.cell? ⟨w.heap.size, 0, none⟩ = some (.int .i64 (P : Int)) ∧ W.cell? ⟨w.heap.size, 1, none⟩ = some (.int .i64 (K : Int)) ∧ W.cell? ⟨w.heap.size, 2, none⟩ = some v ∧ W.cell? ⟨w.heap.size, 3, none⟩ = some (.int .i64 (n : Int)) := fun W b => by
  have k1 := (b.block w.heap.size (by simp)).trans (heap_alloc_new w (.cells #[.int .i64 (P : Int), .int .i64 (K : Int), v, .int .i64 (n : Int)] 74))
  exact ⟨by rw [cell_of_row _ _ _ _ _ _ k1]; rfl, by rw [cell_of_row _ _ _ _ _ _ k1]; rfl, by rw [cell_of_row _ _ _ _ _ _ k1]; rfl, by rw [cell_of_row _ _ _ _ _ _ k1]; rfl⟩
set_option maxRecDepth 100000 in
set_option maxHeartbeats 2000000 in
theorem rtimes_any (P K n a b : Nat) (l : List Int) (v : Value) (w : World) (hF : Fld P K l v w) (ha : a < P ^ K) (hb : b < P ^ K) (s : Nat) (hs : Hid (muF P K l a b = s)) :
    Calls Tryd.prog 75 #[rmV P K v n, .int .i64 (a : Int), .int .i64 (b : Int)] w fun e w' => e = .returned (.int .i64 (s : Int)) ∧ Below w.heap.size w w' := by
  have hbx := balloc w (.cells #[.int .i64 (P : Int), .int .i64 (K : Int), v, .int .i64 (n : Int)] 74)
  obtain ⟨x0, x1, x2, x3⟩ := rm_box P K n v w _ (Below.refl _ _)
  have hF' := hF.below hbx
  have C := Fd.MulG P K a b l v _ hF'.tab hF'.sl hF'.len hF'.good ha hb s hs.out.symm
  obtain ⟨A, ca, rfl, _⟩ := id hF.sl
  go_enter Tryd.func75, Tryd.ntmps75
  go_wp2_with (go_at_call 82; refine C.mono ?_; rintro e w1 ⟨rfl, b1⟩)
  go_ret
  exact ⟨rfl, Below.next hbx b1⟩
set_option maxRecDepth 100000 in
set_option maxHeartbeats 2000000 in
theorem rplus_any (P K n a b : Nat) (l : List Int) (v : Value) (w : World) (hF : Fld P K l v w) (ha : a < P ^ K) (hb : b < P ^ K) (s : Nat) (hs : Hid (adF P K a b = s)) :
    Calls Tryd.prog 77 #[rmV P K v n, .int .i64 (a : Int), .int .i64 (b : Int)] w fun e w' => e = .returned (.int .i64 (s : Int)) ∧ Below w.heap.size w w' := by
  have hbx := balloc w (.cells #[.int .i64 (P : Int), .int .i64 (K : Int), v, .int .i64 (n : Int)] 74)
  obtain ⟨x0, x1, x2, x3⟩ := rm_box P K n v w _ (Below.refl _ _)
  have hF' := hF.below hbx
  have C := Fd.AddG P K a b l v _ hF'.tab hF'.sl hF'.len hF'.good ha hb s hs.out.symm
  obtain ⟨A, ca, rfl, _⟩ := id hF.sl
  go_enter Tryd.func77, Tryd.ntmps77
  go_wp2_with (go_at_call 83; refine C.mono ?_; rintro e w1 ⟨rfl, b1⟩)
  go_ret
  exact ⟨rfl, Below.next hbx b1⟩
set_option maxRecDepth 100000 in
set_option maxHeartbeats 2000000 in
theorem rless_any (P K n a : Nat) (l : List Int) (v : Value) (w : World) (hF : Fld P K l v w) (ha : a < P ^ K) (s : Nat) (hs : Hid (ngF P K a = s)) :
    Calls Tryd.prog 76 #[rmV P K v n, .int .i64 (a : Int)] w fun e w' => e = .returned (.int .i64 (s : Int)) ∧ Below w.heap.size w w' := by
  have hbx := balloc w (.cells #[.int .i64 (P : Int), .int .i64 (K : Int), v, .int .i64 (n : Int)] 74)
  obtain ⟨x0, x1, x2, x3⟩ := rm_box P K n v w _ (Below.refl _ _)
  have hF' := hF.below hbx
  have hP := hF.good.field.toRing1.two
  have hP61 := hF.good.le61
  have h1 := Fd.one_le hF.good.field
  obtain ⟨p1, Hp⟩ : ∃ p1, Hid (P = p1 + 1) := ⟨P - 1, by show _ = _; omega⟩
  have hpi : (P : Int) - 1 = (p1 : Int) := by have := Hp.out; omega
  have hp1 : p1 < P ^ K := by have := Hp.out; omega
  have C := rtimes_any P K n p1 a l v _ hF' hp1 ha s (by
    show _ = _
    have e := Fd.less_is hF.good.field ha
    rw [← hs.out, show p1 = P - 1 by have := Hp.out; omega]
    exact e)
  obtain ⟨A, ca, rfl, _⟩ := id hF.sl
  clear hF' h1
  go_enter Tryd.func76, Tryd.ntmps76
  go_wp2_with (go_at_call 75; refine C.mono ?_; rintro e w1 ⟨rfl, b1⟩)
  go_ret
  exact ⟨rfl, Below.next hbx b1⟩
end Go.Proofs.YtgdkfbgehbdkjabDoor

/- The walks of the room's order, checkRow and checkRows. -/
namespace Go.Proofs.YtgdkfbgehbdkjabDoor
open Go.RowKit

set_option maxRecDepth 100000 in
set_option maxHeartbeats 2000000 in
theorem order_any (P K n : Nat) (l : List Int) (v : Value) (w : World) (hF : Fld P K l v w) (q : Nat) (hq : Hid (P ^ K = q)) :
    Calls Tryd.prog 56 #[rmV P K v n] w fun e w' => e = .returned (.int .i64 (q : Int)) ∧ Below w.heap.size w w' := by
  have hbx := balloc w (.cells #[.int .i64 (P : Int), .int .i64 (K : Int), v, .int .i64 (n : Int)] 74)
  obtain ⟨x0, x1, x2, x3⟩ := rm_box P K n v w _ (Below.refl _ _)
  have h61 := hF.good.le61
  have h6 := hF.good.le6
  have h64 := hF.good.le64
  have C := fun W => power_any P K W (by omega) (by omega) q (by
    show _ = _
    rw [cO_small (by omega)]; exact hq.out)
  obtain ⟨A, ca, rfl, _⟩ := id hF.sl
  clear h64 hq
  go_enter Tryd.func56, Tryd.ntmps56
  go_wp2_with (go_at_call 43; refine (C _).mono ?_; rintro e w1 ⟨rfl, h1⟩; replace h1 := h1.symm; subst h1)
  go_ret
  exact ⟨rfl, hbx⟩
/-- What is wrong with a row. -/
def rwE (q n : Nat) (r : List Int) : Nat := if r.length ≠ n then 2 else if (List.range r.length).all (fun j => decide (0 ≤ r.getD j 0) && decide (r.getD j 0 < (q : Int))) then 0 else 1
theorem rwE_len {q n : Nat} {r : List Int} (h : r.length ≠ n) : rwE q n r = 2 := by unfold rwE; rw [if_pos h]
theorem rwE_out {q n : Nat} {r : List Int} (h : r.length = n) {j : Nat} (hj : j < r.length) (hb : ¬ (0 ≤ r.getD j 0 ∧ r.getD j 0 < (q : Int))) : rwE q n r = 1 := by
  unfold rwE
  rw [if_neg (fun k => k h), if_neg]
  intro k
  have := List.all_eq_true.1 k j (List.mem_range.2 hj)
  rw [Bool.and_eq_true, decide_eq_true_eq, decide_eq_true_eq] at this
  exact hb this
theorem rwE_in {q n : Nat} {r : List Int} (h : r.length = n) (hb : ∀ j, j < r.length → 0 ≤ r.getD j 0 ∧ r.getD j 0 < (q : Int)) : rwE q n r = 0 := by
  unfold rwE
  rw [if_neg (fun k => k h), if_pos]
  refine List.all_eq_true.2 fun j hj => ?_
  rw [Bool.and_eq_true, decide_eq_true_eq, decide_eq_true_eq]
  exact hb j (List.mem_range.1 hj)
theorem rwE_ok {q n : Nat} {r : List Int} (h : rwE q n r = 0) : r.length = n ∧ ∀ j, j < r.length → 0 ≤ r.getD j 0 ∧ r.getD j 0 < (q : Int) := by
  unfold rwE at h
  by_cases h1 : r.length ≠ n
  · rw [if_pos h1] at h; omega
  · rw [if_neg h1] at h
    refine ⟨by omega, fun j hj => ?_⟩
    split at h
    · rename_i k
      have := List.all_eq_true.1 k j (List.mem_range.2 hj)
      rwa [Bool.and_eq_true, decide_eq_true_eq, decide_eq_true_eq] at this
    · omega
/-- Rows of elements, as numbers. -/
theorem rwE_nat {q n : Nat} {r : List Int} (h : rwE q n r = 0) : ∃ s : List Nat, Vc q n s ∧ r = s.map Int.ofNat := by
  obtain ⟨h1, h2⟩ := rwE_ok h
  refine ⟨r.map Int.toNat, ⟨by simpa using h1, fun x hx => ?_⟩, ?_⟩
  · obtain ⟨y, hy, rfl⟩ := List.mem_map.1 hx
    obtain ⟨j, hj, rfl⟩ := List.getElem_of_mem hy
    have := h2 j hj
    simp [hj] at this
    omega
  · rw [List.map_map]
    refine List.ext_getElem (by simp) fun j h3 h4 => ?_
    have := h2 j h3
    simp [h3] at this
    simp
    omega
/-- What is wrong with rows. -/
def rlE (q n : Nat) : List (List Int) → Nat
  | [] => 0
  | r :: rs => if rwE q n r ≠ 0 then rwE q n r else rlE q n rs
def rsE (q n : Nat) (rs : List (List Int)) : Nat := if 12 < rs.length then 3 else rlE q n rs
theorem rlE_at {q n : Nat} : ∀ {rs : List (List Int)} {i : Nat} {r : List Int}, rs[i]? = some r → (∀ j s, j < i → rs[j]? = some s → rwE q n s = 0) → rwE q n r ≠ 0 → rlE q n rs = rwE q n r
  | [], i, r, h, _, _ => by simp at h
  | s :: rs, 0, r, h, _, h2 => by
    simp only [List.getElem?_cons_zero, Option.some.injEq] at h
    subst h
    rw [rlE, if_pos h2]
  | s :: rs, i + 1, r, h, h1, h2 => by
    have h0 := h1 0 s (by omega) rfl
    rw [rlE, if_neg (by rw [h0]; exact fun k => k rfl)]
    exact rlE_at (by simpa using h) (fun j t hj ht => h1 (j + 1) t (by omega) (by simpa using ht)) h2
theorem rlE_all {q n : Nat} : ∀ {rs : List (List Int)}, (∀ (j : Nat) s, rs[j]? = some s → rwE q n s = 0) → rlE q n rs = 0
  | [], _ => rfl
  | s :: rs, h => by
    rw [rlE, if_neg (by rw [h 0 s rfl]; exact fun k => k rfl)]
    exact rlE_all fun j t ht => h (j + 1) t (by simpa using ht)
theorem rlE_ok {q n : Nat} : ∀ {rs : List (List Int)}, rlE q n rs = 0 → ∀ r ∈ rs, rwE q n r = 0
  | [], _, r, hr => by cases hr
  | s :: rs, h, r, hr => by
    rw [rlE] at h
    by_cases h0 : rwE q n s = 0
    · rw [if_neg (fun k => k h0)] at h
      rcases List.mem_cons.1 hr with e | e
      · rw [e]; exact h0
      · exact rlE_ok h r e
    · rw [if_pos h0] at h; exact absurd h h0
theorem rwE_le (q n : Nat) (r : List Int) : rwE q n r ≤ 2 := by unfold rwE; split; omega; split <;> omega
set_option maxRecDepth 100000 in
set_option maxHeartbeats 4000000 in
theorem checkRow_any (P K n : Nat) (l r : List Int) (v u : Value) (w : World) (hF : Fld P K l v w) (hu : Sl w u r) (_hr : r.length ≤ maxLen) (_hn : n ≤ 6) (z : Nat) (hz : Hid (rwE (P ^ K) n r = z)) :
    Calls Tryd.prog 73 #[rmV P K v n, u] w fun e w' => e = .returned (.int .i64 (z : Int)) ∧ Below w.heap.size w w' := by
  have hbx := balloc w (.cells #[.int .i64 (P : Int), .int .i64 (K : Int), v, .int .i64 (n : Int)] 74)
  have HX := rm_box P K n v w
  obtain ⟨w0, Hw0⟩ : ∃ w0, Hid (w.alloc (.cells #[.int .i64 (P : Int), .int .i64 (K : Int), v, .int .i64 (n : Int)] 74) = w0) := ⟨_, rfl⟩
  rw [Hw0.out] at hbx HX
  obtain ⟨q, Hq⟩ : ∃ q, Hid (P ^ K = q) := ⟨_, rfl⟩
  have HC : Hid (∀ W, Below w.heap.size w W → Calls Tryd.prog 56 #[rmV P K v n] W fun e w' => e = .returned (.int .i64 (q : Int)) ∧ Below W.heap.size W w') := fun W b => order_any P K n l v W (hF.below b) q Hq
  have hq64 : q ≤ 64 := by rw [← Hq.out]; exact hF.good.le64
  rw [Hq.out] at hz
  have HX2 : Hid (∀ W, Below w0.heap.size w0 W → W.cell? ⟨w.heap.size, 0, none⟩ = some (.int .i64 (P : Int)) ∧ W.cell? ⟨w.heap.size, 1, none⟩ = some (.int .i64 (K : Int)) ∧ W.cell? ⟨w.heap.size, 2, none⟩ = some v ∧ W.cell? ⟨w.heap.size, 3, none⟩ = some (.int .i64 (n : Int))) := HX
  have HB0 : Hid (Below w.heap.size w w0) := hbx
  obtain ⟨A, ca, rfl, _⟩ := id hF.sl
  obtain ⟨a, cap, rfl, hc⟩ := hu
  unfold maxLen at _hr
  have hx0 := HX _ (Below.refl _ _)
  by_cases hl : r.length = n
  · have HA : Hid (∀ W, Below w.heap.size w W → ∀ j, j < n → ∃ b off, a = some ⟨b, off, none⟩ ∧ W.cell? ⟨b, off + j, none⟩ = some (.int .i64 (r.getD j 0))) := fun W bW j hj => by
      obtain ⟨b, off, e, h⟩ := hc j (by omega)
      exact ⟨b, off, e, (bW.cell (p := ⟨b, off + j, none⟩) (block_lt_of_cell h)).trans h⟩
    have HO : Hid (∀ j, j < n → ¬ (0 ≤ r.getD j 0 ∧ r.getD j 0 < (q : Int)) → z = 1) := fun j hj h => by rw [← hz.out]; exact rwE_out hl (by omega) h
    have HI : Hid ((∀ j, j < n → 0 ≤ r.getD j 0 ∧ r.getD j 0 < (q : Int)) → z = 0) := fun h => by rw [← hz.out]; exact rwE_in hl fun j hj => h j (by omega)
    obtain ⟨x0, x1, x2, x3⟩ := hx0
    have hne : ((n : Int) != (n : Int)) = false := by simp
    rw [← Hw0.out] at x0 x1 x2 x3
    rw [hl]
    clear hc hl hz hF HX hbx
    go_enter Tryd.func73, Tryd.ntmps73
    go_wp2
    go_loopw [6, 14] (fun _ jv wr => ∃ j : Nat, jv = .int .i64 (j : Int) ∧ j ≤ n ∧ Hid (∀ i, i < j → 0 ≤ r.getD i 0 ∧ r.getD i 0 < (q : Int)) ∧ Below w0.heap.size w0 wr) (fun _ jv _ => (n - intOf jv).toNat)
    case atStart => exact ⟨0, rfl, by omega, (fun i h => by omega : ∀ i, i < 0 → _), by rw [Hw0.out]; exact Below.refl _ _⟩
    case round =>
      clear x0 x1 x2 x3
      obtain ⟨j, rfl, hj, HJ, hB⟩ := hrel
      have hBB : Below w.heap.size w wr := Below.next HB0.out hB
      by_cases hlt : j < n
      · have hji : (j : Int) < n := by omega
        have hdj : decide ((j : Int) < (n : Int)) = true := by simp; omega
        obtain ⟨b, off, rfl, hcj⟩ := HA.out wr hBB j hlt
        obtain ⟨x0, x1, x2, x3⟩ := HX2.out wr hB
        have C := HC.out wr hBB
        have HO1 := HO.out j hlt
        have HJ1 : Hid (0 ≤ r.getD j 0 ∧ r.getD j 0 < (q : Int) → ∀ i, i < j + 1 → 0 ≤ r.getD i 0 ∧ r.getD i 0 < (q : Int)) := fun h i hi => by
          by_cases e : i = j
          · rw [e]; exact h
          · exact HJ.out i (by omega)
        obtain ⟨y, hy⟩ : ∃ y, r.getD j 0 = y := ⟨_, rfl⟩
        rw [hy] at hcj HO1 HJ1
        have HO2 : Hid (¬ (0 ≤ y ∧ y < (q : Int)) → z = 1) := HO1
        clear hy HO1 HJ
        by_cases h1 : y < 0
        · obtain rfl : z = 1 := HO2.out (by omega)
          have d1 : decide (y < 0) = true := by simpa using h1
          clear HO2 HI HO
          go_wp2
          go_ret
          exact ⟨rfl, hBB⟩
        · have d1 : decide (y < 0) = false := by simpa using h1
          by_cases h2 : (q : Int) ≤ y
          · obtain rfl : z = 1 := HO2.out (by omega)
            have d2 : decide ((q : Int) ≤ y) = true := by simpa using h2
            clear HO2 HI HO
            go_wp2_with (go_at_call 56; refine C.mono ?_; rintro e w1 ⟨rfl, b1⟩)
            go_ret
            exact ⟨rfl, Below.next hBB b1⟩
          · have d2 : decide ((q : Int) ≤ y) = false := by simpa using h2
            have HJ2 := HJ1.out (by omega)
            have HJ3 : Hid (∀ i, i < j + 1 → 0 ≤ r.getD i 0 ∧ r.getD i 0 < (q : Int)) := HJ2
            clear HO2 HJ1 HJ2
            go_wp2_with (go_at_call 56; refine C.mono ?_; rintro e w1 ⟨rfl, b1⟩)
            go_roundw
            case rel => exact ⟨j + 1, by go_num, by omega, HJ3, Below.next hB b1⟩
            case measure => simp [intOf]; omega
      · have hdj : decide ((j : Int) < (n : Int)) = false := by simp; omega
        obtain rfl : j = n := by omega
        obtain rfl : z = 0 := HI.out HJ.out
        go_wp2
        go_ret
        exact ⟨rfl, hBB⟩
  · obtain rfl : z = 2 := by rw [← hz.out]; exact rwE_len hl
    obtain ⟨x0, x1, x2, x3⟩ := hx0
    have hne : ((r.length : Int) != (n : Int)) = true := by simp; omega
    rw [← Hw0.out] at x0 x1 x2 x3 hbx
    generalize r.length = m at *
    clear hc hl hz
    go_enter Tryd.func73, Tryd.ntmps73
    go_wp2
    go_ret
    exact ⟨rfl, hbx⟩
end Go.Proofs.YtgdkfbgehbdkjabDoor

namespace Go.Proofs.YtgdkfbgehbdkjabDoor
open Go.RowKit

set_option maxRecDepth 100000 in
set_option maxHeartbeats 4000000 in
theorem checkRows_any (P K n : Nat) (l : List Int) (rs : List (List Int)) (v u : Value) (w : World) (hF : Fld P K l v w) (hu : Rw w u rs) (hr : rs.length ≤ maxLen) (hrl : ∀ r ∈ rs, r.length ≤ maxLen) (hn : n ≤ 6) (z : Nat) (hz : Hid (rsE (P ^ K) n rs = z)) :
    Calls Tryd.prog 57 #[rmV P K v n, u] w fun e w' => e = .returned (.int .i64 (z : Int)) ∧ Below w.heap.size w w' := by
  have hbx := balloc w (.cells #[.int .i64 (P : Int), .int .i64 (K : Int), v, .int .i64 (n : Int)] 74)
  have HX := rm_box P K n v w
  obtain ⟨w0, Hw0⟩ : ∃ w0, Hid (w.alloc (.cells #[.int .i64 (P : Int), .int .i64 (K : Int), v, .int .i64 (n : Int)] 74) = w0) := ⟨_, rfl⟩
  rw [Hw0.out] at hbx HX
  obtain ⟨q, Hq⟩ : ∃ q, Hid (P ^ K = q) := ⟨_, rfl⟩
  rw [Hq.out] at hz
  have HX2 : Hid (∀ W, Below w0.heap.size w0 W → W.cell? ⟨w.heap.size, 0, none⟩ = some (.int .i64 (P : Int)) ∧ W.cell? ⟨w.heap.size, 1, none⟩ = some (.int .i64 (K : Int)) ∧ W.cell? ⟨w.heap.size, 2, none⟩ = some v ∧ W.cell? ⟨w.heap.size, 3, none⟩ = some (.int .i64 (n : Int))) := HX
  have HB0 : Hid (Below w.heap.size w w0) := hbx
  have HC : Hid (∀ W, Below w.heap.size w W → ∀ (x : Value) (r : List Int), r ∈ rs → Sl W x r → ∀ y, Hid (rwE q n r = y) → Calls Tryd.prog 73 #[rmV P K v n, x] W fun e w' => e = .returned (.int .i64 (y : Int)) ∧ Below W.heap.size W w') := fun W b x r hm hs y hy =>
    checkRow_any P K n l r v x W (hF.below b) hs (hrl r hm) hn y (by rw [Hq.out]; exact hy)
  have HR : Hid (∀ W, Below w.heap.size w W → Rw W u rs) := fun W b => hu.below b
  obtain ⟨A, ca, rfl, _⟩ := id hF.sl
  obtain ⟨a, cap, rfl, _⟩ := id hu
  unfold maxLen at hr
  obtain ⟨x0, x1, x2, x3⟩ := HX _ (Below.refl _ _)
  rw [← Hw0.out] at x0 x1 x2 x3
  obtain ⟨m, Hm⟩ : ∃ m, Hid (rs.length = m) := ⟨_, rfl⟩
  rw [Hm.out] at hr ⊢
  by_cases hl : 12 < m
  · obtain rfl : z = 3 := by rw [← hz.out]; unfold rsE; rw [if_pos (by rw [Hm.out]; exact hl)]
    have d1 : decide ((12 : Int) < (m : Int)) = true := by simp; omega
    rw [← Hw0.out] at hbx
    clear hz hu hF hrl
    go_enter Tryd.func57, Tryd.ntmps57
    go_wp2
    go_ret
    exact ⟨rfl, hbx⟩
  · have d1 : decide ((12 : Int) < (m : Int)) = false := by simp; omega
    have d1n : decide (12 < m) = false := by simp; omega
    have HZ : Hid (rlE q n rs = z) := by
      show _ = _
      rw [← hz.out]; unfold rsE; rw [if_neg (by rw [Hm.out]; exact hl)]
    have HAt : Hid (∀ i, i < m → ∃ r, rs[i]? = some r) := fun i hi => ⟨rs[i]'(by rw [Hm.out]; exact hi), by simp⟩
    clear hz hu hF hrl HX hbx
    go_enter Tryd.func57, Tryd.ntmps57
    go_wp2
    go_loopw [6, 7, 13] (fun _ _ jv wr => ∃ j : Nat, jv = .int .i64 (j : Int) ∧ j ≤ m ∧ Hid (∀ i r, i < j → rs[i]? = some r → rwE q n r = 0) ∧ Below w0.heap.size w0 wr) (fun _ _ jv _ => (m - intOf jv).toNat)
    case atStart => exact ⟨0, rfl, by omega, (fun i r h => by omega : ∀ i r, i < 0 → _), by rw [Hw0.out]; exact Below.refl _ _⟩
    case round =>
      clear x0 x1 x2 x3
      obtain ⟨j, rfl, hj, HJ, hB⟩ := hrel
      have hBB : Below w.heap.size w wr := Below.next HB0.out hB
      by_cases hlt : j < m
      · have hji : (j : Int) < m := by omega
        have hdj : decide ((j : Int) < (m : Int)) = true := by simp; omega
        obtain ⟨r, hrj⟩ := HAt.out j hlt
        obtain ⟨a', cap', e', hr'⟩ := HR.out wr hBB
        cases e'
        obtain ⟨b, off, x, rfl, hcj, hs⟩ := hr' j r hrj
        obtain ⟨x0, x1, x2, x3⟩ := HX2.out wr hB
        obtain ⟨y, Hy⟩ : ∃ y, Hid (rwE q n r = y) := ⟨_, rfl⟩
        have C := HC.out wr hBB x r (List.mem_of_getElem? hrj) hs y Hy
        obtain ⟨xa, xc, rfl, _⟩ := id hs
        have HRJ : Hid (rs[j]? = some r) := hrj
        obtain ⟨rl, Hrl⟩ : ∃ rl, Hid (r.length = rl) := ⟨_, rfl⟩
        rw [Hrl.out] at C hcj
        clear hr' hs hrj
        by_cases hy0 : y = 0
        · have HJ2 : Hid (∀ i r, i < j + 1 → rs[i]? = some r → rwE q n r = 0) := fun i s hi hs => by
            by_cases e : i = j
            · subst e
              have := HRJ.out.symm.trans hs
              cases this
              rw [Hy.out, hy0]
            · exact HJ.out i s (by omega) hs
          have hd0 : ((y : Int) != 0) = false := by simp; omega
          clear HJ
          go_wp2_with (go_at_call 73; refine C.mono ?_; rintro e w1 ⟨rfl, b1⟩)
          go_roundw
          case rel => exact ⟨j + 1, by go_num, by omega, HJ2, Below.next hB b1⟩
          case measure => simp [intOf]; omega
        · have hd0 : ((y : Int) != 0) = true := by simp; omega
          have hyz : y = z := by
            rw [← HZ.out, ← Hy.out]
            exact (rlE_at HRJ.out (fun i s hi hs => HJ.out i s hi hs) (by rw [Hy.out]; exact hy0)).symm
          subst hyz
          clear HJ HZ
          go_wp2_with (go_at_call 73; refine C.mono ?_; rintro e w1 ⟨rfl, b1⟩)
          go_ret
          exact ⟨rfl, Below.next hBB b1⟩
      · have hdj : decide ((j : Int) < (m : Int)) = false := by simp; omega
        obtain rfl : j = m := by omega
        obtain rfl : z = 0 := by
          rw [← HZ.out]
          exact rlE_all fun i s hs => HJ.out i s (by rw [← Hm.out]; exact (List.getElem?_eq_some_iff.1 hs).1) hs
        go_wp2
        go_ret
        exact ⟨rfl, hBB⟩
end Go.Proofs.YtgdkfbgehbdkjabDoor

/- The walk of open: a room and lists of its rows. -/
/- The walk of the field's Check. -/
namespace Go.Proofs.YtgdkfbgehbdkjabDoor.Fd
open Go.RowKit

set_option maxRecDepth 100000 in
set_option maxHeartbeats 1000000 in
theorem FCheck_any (p k : Int) (l : List Int) (v : Value) (w : World) (hT : Tab w) (hl : Sl w v l) (hll : l.length ≤ maxLen) :
    Calls Tryd.prog 12 #[.agg #[.int .i64 p, .int .i64 k, v]] w fun e w' => ∃ z : Int, e = .returned (.int .i64 z) ∧ FaultIs p k l z ∧ Below w.heap.size w w' := by
  obtain ⟨A, ca, rfl, _⟩ := id hl
  have hbx : Below w.heap.size w (w.alloc (.cells #[.int .i64 p, .int .i64 k, .slice A l.length ca] 24)) := (Below.refl _ _).alloc (Nat.le_refl _) _
  go_enter Tryd.func12, Tryd.ntmps12
  go_wp2_with fail
  refine (open_any p k l [] _ _ _ (hT.below hbx) (hl.below hbx) (Sl.nil _) hll (by simp)).mono ?_
  rintro e w1 ⟨z, x, y, c, f, rfl, hO, HZ, hb1⟩
  have hB1 : Below w.heap.size w w1 := hbx.trans (hb1.mono hbx.size)
  have HO : Hid (FaultIs p k l z) := open_nil hO
  have hnew : RB (w1.alloc (.cells #[.int .i64 0, .int .i64 0, .int .i64 0, .int .i64 0, .int .i64 0, .int .i64 0, .int .i64 0, .int .i64 0, .int .i64 0, .int .i64 0, .int .i64 0, .int .i64 0, .int .i64 0, .int .i64 0] 69)) w1.heap.size 0 0 0 (fun _ => 0) := RB.made w1 0 0 0 (fun _ => 0)
  have hBA : Below w.heap.size w ((w1.alloc (.cells #[.int .i64 0, .int .i64 0, .int .i64 0, .int .i64 0, .int .i64 0, .int .i64 0, .int .i64 0, .int .i64 0, .int .i64 0, .int .i64 0, .int .i64 0, .int .i64 0, .int .i64 0, .int .i64 0] 69)).setRow w1.heap.size (ringRow x y c f)) := bsetRow (hB1.alloc hB1.size _) hB1.size _
  clear hO HZ
  go_wp2_with (first
    | (refine wpList_store_row rfl 69 _ _ rfl w1.heap.size _ rfl rfl 69 _ hnew (inf53 _ _ _ _) rfl (ringRow_one _ _ _ _) ?_))
  go_ret
  exact ⟨z, rfl, HO.out, hBA⟩
end Go.Proofs.YtgdkfbgehbdkjabDoor.Fd

namespace Go.Proofs.YtgdkfbgehbdkjabDoor
open Go.RowKit

/-- Some lists of rows. -/
def LsR (w : World) (u : Value) (vs : List Value) (rss : List (List (List Int))) : Prop :=
  ∃ b c, u = .slice (some ⟨b, 0, none⟩) rss.length c ∧ vs.length = rss.length ∧ ∀ (i : Nat) x rs, vs[i]? = some x → rss[i]? = some rs → w.cell? ⟨b, i, none⟩ = some x ∧ Rw w x rs ∧ rs.length ≤ maxLen ∧ ∀ r ∈ rs, r.length ≤ maxLen
theorem LsR.below {w w' : World} {u : Value} {vs : List Value} {rss : List (List (List Int))} (h : LsR w u vs rss) (hb : Below w.heap.size w w') : LsR w' u vs rss := by
  obtain ⟨b, c, e, h1, h2⟩ := h
  refine ⟨b, c, e, h1, fun i x rs hx hr => ?_⟩
  obtain ⟨h3, h4, h5⟩ := h2 i x rs hx hr
  exact ⟨(hb.cell (p := ⟨b, i, none⟩) (block_lt_of_cell h3)).trans h3, h4.below hb, h5⟩
/-- What is wrong with lists of rows. -/
def lsE (q n : Nat) : List (List (List Int)) → Nat
  | [] => 0
  | rs :: rss => if rsE q n rs ≠ 0 then rsE q n rs else lsE q n rss
theorem lsE_at {q n : Nat} : ∀ {rss : List (List (List Int))} {i : Nat} {rs : List (List Int)}, rss[i]? = some rs → (∀ j s, j < i → rss[j]? = some s → rsE q n s = 0) → rsE q n rs ≠ 0 → lsE q n rss = rsE q n rs
  | [], i, r, h, _, _ => by simp at h
  | s :: rs, 0, r, h, _, h2 => by
    simp only [List.getElem?_cons_zero, Option.some.injEq] at h
    subst h
    rw [lsE, if_pos h2]
  | s :: rs, i + 1, r, h, h1, h2 => by
    have h0 := h1 0 s (by omega) rfl
    rw [lsE, if_neg (by rw [h0]; exact fun k => k rfl)]
    exact lsE_at (by simpa using h) (fun j t hj ht => h1 (j + 1) t (by omega) (by simpa using ht)) h2
theorem lsE_all {q n : Nat} : ∀ {rss : List (List (List Int))}, (∀ (j : Nat) s, rss[j]? = some s → rsE q n s = 0) → lsE q n rss = 0
  | [], _ => rfl
  | s :: rs, h => by
    rw [lsE, if_neg (by rw [h 0 s rfl]; exact fun k => k rfl)]
    exact lsE_all fun j t ht => h (j + 1) t (by simpa using ht)
/-- What open answers: what is wrong, and the room. -/
def OpA (z : Int) (rv : Value) (e : Ending) : Prop := ∃ (p k n : Int) (a : Option Addr) (m c : Nat), e = .returned (.tuple #[.agg #[.int .i64 p, .int .i64 k, .slice a m c, .int .i64 n], .int .i64 z]) ∧ (z = 0 → Value.agg #[.int .i64 p, .int .i64 k, .slice a m c, .int .i64 n] = rv)
theorem fl_box (p k : Int) (v : Value) (w : World) : ∀ W, Below (w.alloc (.cells #[.int .i64 p, .int .i64 k, v] 24)).heap.size (w.alloc (.cells #[.int .i64 p, .int .i64 k, v] 24)) W →
    W.cell? ⟨w.heap.size, 0, none⟩ = some (.int .i64 p) ∧ W.cell? ⟨w.heap.size, 1, none⟩ = some (.int .i64 k) ∧ W.cell? ⟨w.heap.size, 2, none⟩ = some v := fun W b => by
  have k1 := (b.block w.heap.size (by simp)).trans (heap_alloc_new w (.cells #[.int .i64 p, .int .i64 k, v] 24))
  exact ⟨by rw [cell_of_row _ _ _ _ _ _ k1]; rfl, by rw [cell_of_row _ _ _ _ _ _ k1]; rfl, by rw [cell_of_row _ _ _ _ _ _ k1]; rfl⟩
/-- The four cells of a room. -/
def rmC (p k : Int) (v : Value) (n : Int) : Array Value := #[.int .i64 p, .int .i64 k, v, .int .i64 n]
def RmB (w : World) (g : Nat) (p k : Int) (v : Value) (n : Int) : Prop := w.heap[g]? = some (.cells (rmC p k v n) 74 (0, 0))
theorem RmB.lt {w : World} {g : Nat} {p k n : Int} {v : Value} (h : RmB w g p k v n) : g < w.heap.size := (Array.getElem?_eq_some_iff.1 h).1
theorem RmB.below {w w' : World} {g : Nat} {p k n : Int} {v : Value} (h : RmB w g p k v n) (hb : Below w.heap.size w w') : RmB w' g p k v n := (hb.block g h.lt).trans h
theorem RmB.whole {w : World} {g : Nat} {p k n : Int} {v : Value} (h : RmB w g p k v n) (p' k' n' : Int) (v' : Value) : RmB (w.setRow g (rmC p' k' v' n')) g p' k' v' n' := setRow_heap w g _ _ _ _ h
theorem RmB.other {w : World} {g : Nat} {p k n : Int} {v : Value} (h : RmB w g p k v n) (j : Nat) (cs : Array Value) (hne : g ≠ j) : RmB (w.setRow j cs) g p k v n := (setRow_other w j g cs hne).trans h
set_option maxRecDepth 100000 in
theorem inf74 (p k n : Int) (v : Value) : (Tryd.prog.info? 74).map (·.size) = some (rmC p k v n).size := by kernel_rfl
theorem rmC_one (p k n : Int) (a : Option Addr) (m c : Nat) : (rmC p k (.slice a m c) n).all (·.oneCell') = true := by
  have h1 : ∀ z : Int, (Value.int .i64 z).oneCell' = true := fun _ => rfl
  have h2 : (Value.slice a m c).oneCell' = true := rfl
  simp [rmC, h1, h2]
set_option maxRecDepth 100000 in
theorem und74 : ∃ fs, Tryd.prog.underlying 74 = some (.struct fs) := by
  have h : (match Tryd.prog.underlying 74 with | some (.struct _) => true | _ => false) = true := by kernel_rfl
  split at h
  · exact ⟨_, by assumption⟩
  · cases h
set_option maxRecDepth 100000 in
theorem post_room {fn : Func} {R : Ending → World → Prop} {a : Act} {w : World} {g : Nat} {p k n z : Int} {v : Value} (hres : fn.results = #[.cell 6 74, .tmp 7])
    (hp : a.tmps.getD 6 undef = .pointer (some ⟨g, 0, none⟩)) (hz : a.tmps.getD 7 undef = .int .i64 z) (hr : RmB w g p k v n) (hd : a.defers = []) (hR : R (.returned (.tuple #[.agg (rmC p k v n), .int .i64 z])) w) : bodyPost Tryd.prog fn R .ret a w := by
  obtain ⟨fs, hu⟩ := und74
  refine bodyPost_ret ?_ hd hR
  have hp' : a.tmps[6]?.getD undef = .pointer (some ⟨g, 0, none⟩) := by simpa using hp
  have hz' : a.tmps[7]?.getD undef = .int .i64 z := by simpa using hz
  simp [results, hres, hp', hz', asAddr, run_loadVar_row w g 74 74 (rmC p k v n) (0, 0) _ hr hu rfl (inf74 p k n v)]
/-- The two boxes that open begins with. -/
theorem open_boxes (p k : Int) (v : Value) (w : World) : Below w.heap.size w ((w.alloc (.cells #[.int .i64 p, .int .i64 k, v] 24)).alloc (.cells #[.int .i64 0, .int .i64 0, .slice none 0 0, .int .i64 0] 74)) ∧
    RmB ((w.alloc (.cells #[.int .i64 p, .int .i64 k, v] 24)).alloc (.cells #[.int .i64 0, .int .i64 0, .slice none 0 0, .int .i64 0] 74)) (w.heap.size + 1) 0 0 (.slice none 0 0) 0 :=
  ⟨Below.next (balloc w _) (balloc _ _), heap_alloc2_new w _ _⟩
set_option maxRecDepth 100000 in
set_option maxHeartbeats 4000000 in
theorem open_fault (p k n z : Int) (l : List Int) (v u rv : Value) (w : World) (hT : Fd.Tab w) (hl : Fd.Sl w v l) (hll : l.length ≤ maxLen) (hz : Fd.FaultIs p k l z) (h0 : z ≠ 0) :
    Calls Tryd.prog 31 #[.agg #[.int .i64 p, .int .i64 k, v], .int .i64 n, u] w fun e w' => OpA z rv e ∧ Below w.heap.size w w' := by
  have b2 := balloc (w.alloc (.cells #[.int .i64 p, .int .i64 k, v] 24)) (.cells #[.int .i64 0, .int .i64 0, .slice none 0 0, .int .i64 0] 74)
  obtain ⟨b3, hr⟩ := open_boxes p k v w
  obtain ⟨x0, x1, x2⟩ := fl_box p k v w _ b2
  have C := Fd.FCheck_any p k l v _ (hT.below b3) (hl.below b3) hll
  have HZ : Hid (∀ y, Fd.FaultIs p k l y → y = z) := fun y hy => hy.one hz
  have hne : (z != 0) = true := by simpa using h0
  obtain ⟨A, ca, rfl, _⟩ := id hl
  obtain ⟨W, HW⟩ : ∃ W, Hid ((w.alloc (.cells #[.int .i64 p, .int .i64 k, .slice A l.length ca] 24)).alloc (.cells #[.int .i64 0, .int .i64 0, .slice none 0 0, .int .i64 0] 74) = W) := ⟨_, rfl⟩
  have HRM : Hid (∀ w1, Below W.heap.size W w1 → RmB w1 (w.heap.size + 1) 0 0 (.slice none 0 0) 0) := fun w1 b => by rw [HW.out] at hr; exact hr.below b
  have HB3 : Hid (Below w.heap.size w W) := by rw [← HW.out]; exact b3
  clear hr b3
  go_enter Tryd.func31, Tryd.ntmps31
  go_wp2_with (first
    | (go_at_call 12; refine C.mono ?_; rintro e w1 ⟨y, rfl, hy, b4⟩; obtain rfl := HZ.out y hy; rw [HW.out] at b4; clear C)
    | (refine wpList_store_row rfl 74 _ _ rfl (w.heap.size + 1) (rmC 0 0 (.slice none 0 0) 0) rfl rfl 74 _ (HRM.out w1 b4) (inf74 _ _ _ _) rfl (rmC_one _ _ _ _ _ _) ?_))
  refine post_room rfl rfl rfl ((HRM.out w1 b4).whole 0 0 0 (.slice none 0 0)) rfl ⟨⟨0, 0, 0, none, 0, 0, rfl, fun h => absurd h h0⟩, Fd.bsetRow (Below.next HB3.out b4) (by omega) _⟩
set_option maxRecDepth 100000 in
set_option maxHeartbeats 4000000 in
theorem open_farS (P K : Nat) (n : Int) (l : List Int) (v u rv : Value) (w : World) (hF : Fld P K l v w) (hn : ¬ (1 ≤ n ∧ n ≤ 6)) :
    Calls Tryd.prog 31 #[.agg #[.int .i64 (P : Int), .int .i64 (K : Int), v], .int .i64 n, u] w fun e w' => OpA 1 rv e ∧ Below w.heap.size w w' := by
  have b2 := balloc (w.alloc (.cells #[.int .i64 (P : Int), .int .i64 (K : Int), v] 24)) (.cells #[.int .i64 0, .int .i64 0, .slice none 0 0, .int .i64 0] 74)
  obtain ⟨b3, hr⟩ := open_boxes (P : Int) (K : Int) v w
  obtain ⟨x0, x1, x2⟩ := fl_box (P : Int) (K : Int) v w _ b2
  have C := Fd.FCheck_any (P : Int) (K : Int) l v _ (hF.tab.below b3) (hF.sl.below b3) hF.len
  have HZ : Hid (∀ y, Fd.FaultIs (P : Int) (K : Int) l y → y = 0) := fun y hy => hy.one hF.good.fault
  have HFl : Hid (∀ W, Below w.heap.size w W → Fld P K l v W) := fun W b => hF.below b
  have hbox := fl_box (P : Int) (K : Int) v w
  obtain ⟨A, ca, rfl, _⟩ := id hF.sl
  obtain ⟨W, HW⟩ : ∃ W, Hid ((w.alloc (.cells #[.int .i64 (P : Int), .int .i64 (K : Int), .slice A l.length ca] 24)).alloc (.cells #[.int .i64 0, .int .i64 0, .slice none 0 0, .int .i64 0] 74) = W) := ⟨_, rfl⟩
  have HRM : Hid (∀ w1, Below W.heap.size W w1 → RmB w1 (w.heap.size + 1) 0 0 (.slice none 0 0) 0) := fun w1 b => by rw [HW.out] at hr; exact hr.below b
  have HB3 : Hid (Below w.heap.size w W) := by rw [← HW.out]; exact b3
  have HBX : Hid (∀ w1, Below W.heap.size W w1 → w1.cell? ⟨w.heap.size, 0, none⟩ = some (.int .i64 (P : Int)) ∧ w1.cell? ⟨w.heap.size, 1, none⟩ = some (.int .i64 (K : Int)) ∧ w1.cell? ⟨w.heap.size, 2, none⟩ = some (.slice A l.length ca)) := fun w1 b => by
    rw [HW.out] at b2
    exact hbox w1 (Below.next b2 b)
  clear hr b3 hbox
  by_cases h1 : n < 1
  · have d1 : decide (n < 1) = true := by simpa using h1
    go_enter Tryd.func31, Tryd.ntmps31
    go_wp2_with (first
      | (go_at_call 12; refine C.mono ?_; rintro e w1 ⟨y, rfl, hy, b4⟩; obtain rfl := HZ.out y hy; rw [HW.out] at b4; obtain ⟨z0, z1, z2⟩ := HBX.out w1 b4; clear C)
      | (refine wpList_store_row rfl 74 _ _ rfl (w.heap.size + 1) (rmC 0 0 (.slice none 0 0) 0) rfl rfl 74 _ (HRM.out w1 b4) (inf74 _ _ _ _) rfl (rmC_one _ _ _ _ _ _) ?_))
    refine post_room rfl rfl rfl ((HRM.out w1 b4).whole 0 0 0 (.slice none 0 0)) rfl ⟨⟨0, 0, 0, none, 0, 0, rfl, fun h => absurd h (by decide)⟩, Fd.bsetRow (Below.next HB3.out b4) (by omega) _⟩
  · have d1 : decide (n < 1) = false := by simpa using h1
    have d2 : decide (6 < n) = true := by simp; omega
    go_enter Tryd.func31, Tryd.ntmps31
    go_wp2_with (first
      | (go_at_call 12; refine C.mono ?_; rintro e w1 ⟨y, rfl, hy, b4⟩; obtain rfl := HZ.out y hy; rw [HW.out] at b4; obtain ⟨z0, z1, z2⟩ := HBX.out w1 b4; clear C)
      | (refine wpList_store_row rfl 74 _ _ rfl (w.heap.size + 1) (rmC 0 0 (.slice none 0 0) 0) rfl rfl 74 _ (HRM.out w1 b4) (inf74 _ _ _ _) rfl (rmC_one _ _ _ _ _ _) ?_))
    refine post_room rfl rfl rfl ((HRM.out w1 b4).whole 0 0 0 (.slice none 0 0)) rfl ⟨⟨0, 0, 0, none, 0, 0, rfl, fun h => absurd h (by decide)⟩, Fd.bsetRow (Below.next HB3.out b4) (by omega) _⟩
theorem RmB.cells {w : World} {g : Nat} {p k n : Int} {v : Value} (h : RmB w g p k v n) : w.cell? ⟨g, 0, none⟩ = some (.int .i64 p) ∧ w.cell? ⟨g, 1, none⟩ = some (.int .i64 k) ∧ w.cell? ⟨g, 2, none⟩ = some v ∧ w.cell? ⟨g, 3, none⟩ = some (.int .i64 n) :=
  ⟨by rw [cell_of_row _ _ _ _ _ _ h]; rfl, by rw [cell_of_row _ _ _ _ _ _ h]; rfl, by rw [cell_of_row _ _ _ _ _ _ h]; rfl, by rw [cell_of_row _ _ _ _ _ _ h]; rfl⟩
theorem rm_made (w : World) : RmB (w.alloc (.cells #[.int .i64 0, .int .i64 0, .slice none 0 0, .int .i64 0] 74)) w.heap.size 0 0 (.slice none 0 0) 0 := heap_alloc_new w _
set_option maxRecDepth 100000 in
set_option maxHeartbeats 8000000 in
theorem open_full (P K n : Nat) (l : List Int) (v u rv : Value) (w : World) (hF : Fld P K l v w) (h1 : 1 ≤ n) (h6 : n ≤ 6) (hf : 4096 < (P ^ K) ^ n) :
    Calls Tryd.prog 31 #[.agg #[.int .i64 (P : Int), .int .i64 (K : Int), v], .int .i64 (n : Int), u] w fun e w' => OpA 3 rv e ∧ Below w.heap.size w w' := by
  have b2 := balloc (w.alloc (.cells #[.int .i64 (P : Int), .int .i64 (K : Int), v] 24)) (.cells #[.int .i64 0, .int .i64 0, .slice none 0 0, .int .i64 0] 74)
  obtain ⟨b3, hr⟩ := open_boxes (P : Int) (K : Int) v w
  obtain ⟨x0, x1, x2⟩ := fl_box (P : Int) (K : Int) v w _ b2
  have C := Fd.FCheck_any (P : Int) (K : Int) l v _ (hF.tab.below b3) (hF.sl.below b3) hF.len
  have HZ : Hid (∀ y, Fd.FaultIs (P : Int) (K : Int) l y → y = 0) := fun y hy => hy.one hF.good.fault
  have HFl : Hid (∀ W, Below w.heap.size w W → Fld P K l v W) := fun W b => hF.below b
  have hbox := fl_box (P : Int) (K : Int) v w
  obtain ⟨A, ca, rfl, _⟩ := id hF.sl
  obtain ⟨W, HW⟩ : ∃ W, Hid ((w.alloc (.cells #[.int .i64 (P : Int), .int .i64 (K : Int), .slice A l.length ca] 24)).alloc (.cells #[.int .i64 0, .int .i64 0, .slice none 0 0, .int .i64 0] 74) = W) := ⟨_, rfl⟩
  have HRM : Hid (∀ w1, Below W.heap.size W w1 → RmB w1 (w.heap.size + 1) 0 0 (.slice none 0 0) 0) := fun w1 b => by rw [HW.out] at hr; exact hr.below b
  have HB3 : Hid (Below w.heap.size w W) := by rw [← HW.out]; exact b3
  have HBX : Hid (∀ w1, Below W.heap.size W w1 → w1.cell? ⟨w.heap.size, 0, none⟩ = some (.int .i64 (P : Int)) ∧ w1.cell? ⟨w.heap.size, 1, none⟩ = some (.int .i64 (K : Int)) ∧ w1.cell? ⟨w.heap.size, 2, none⟩ = some (.slice A l.length ca)) := fun w1 b => by
    rw [HW.out] at b2
    exact hbox w1 (Below.next b2 b)
  clear hr b3 hbox
  have d1 : decide ((n : Int) < 1) = false := by simp; omega
  have d1n : decide (n < 1) = false := by simp; omega
  have d2 : decide ((6 : Int) < (n : Int)) = false := by simp; omega
  have d2n : decide (6 < n) = false := by simp; omega
  obtain ⟨q, Hq⟩ : ∃ q, Hid (P ^ K = q) := ⟨_, rfl⟩
  have HO : Hid (∀ W, Below w.heap.size w W → Calls Tryd.prog 56 #[rmV P K (.slice A l.length ca) n] W fun e w' => e = .returned (.int .i64 (q : Int)) ∧ Below W.heap.size W w') := fun W b => order_any P K n l _ W (HFl.out W b) q Hq
  obtain ⟨s, Hs⟩ : ∃ s, Hid (cO (q ^ n) = s) := ⟨_, rfl⟩
  have hq64 : q ≤ 64 := by rw [← Hq.out]; exact hF.good.le64
  have CP := fun W => power_any q n W hq64 (by omega) s Hs
  have hs4 : 4096 < s := by
    rw [Hq.out] at hf
    rw [← Hs.out]; unfold cO; omega
  have d3 : decide ((4096 : Int) < (s : Int)) = true := by simp; omega
  clear hF hf
  go_enter Tryd.func31, Tryd.ntmps31
  go_wp2_with (first
    | (go_at_call 12; refine C.mono ?_; rintro e w1 ⟨y, rfl, hy, b4⟩; obtain rfl := HZ.out y hy; rw [HW.out] at b4; obtain ⟨z0, z1, z2⟩ := HBX.out w1 b4; clear C)
    | (refine wpList_store_row rfl 74 _ _ rfl w1.heap.size (rmC P K (.slice A l.length ca) n) rfl rfl 74 _ (rm_made w1) (inf74 _ _ _ _) rfl (rmC_one _ _ _ _ _ _) ?_; have r2 := (rm_made w1).whole P K n (.slice A l.length ca); have b5 : Below W.heap.size W ((w1.alloc (.cells #[.int .i64 0, .int .i64 0, .slice none 0 0, .int .i64 0] 74)).setRow w1.heap.size (rmC P K (.slice A l.length ca) n)) := Fd.bsetRow (b4.alloc b4.size _) b4.size _; revert r2 b5; generalize ((w1.alloc (.cells #[.int .i64 0, .int .i64 0, .slice none 0 0, .int .i64 0] 74)).setRow w1.heap.size (rmC P K (.slice A l.length ca) n)) = W2; intro r2 b5; obtain ⟨c0, c1, c2, c3⟩ := r2.cells)
    | (go_at_call 56; refine (HO.out W2 (Below.next HB3.out b5)).mono ?_; rintro e w3 ⟨rfl, b6⟩)
    | (go_at_call 43; refine (CP _).mono ?_; rintro e w4 ⟨rfl, h4⟩; replace h4 := h4.symm; subst h4)
    | (refine wpList_store_row rfl 74 _ _ rfl (w.heap.size + 1) (rmC 0 0 (.slice none 0 0) 0) rfl rfl 74 _ (HRM.out w3 (Below.next b5 b6)) (inf74 _ _ _ _) rfl (rmC_one _ _ _ _ _ _) ?_))
  refine post_room rfl rfl rfl ((HRM.out w3 (Below.next b5 b6)).whole 0 0 0 (.slice none 0 0)) rfl ⟨⟨0, 0, 0, none, 0, 0, rfl, fun h => absurd h (by decide)⟩, Fd.bsetRow (Below.next HB3.out (Below.next b5 b6)) (by omega) _⟩
set_option maxRecDepth 100000 in
set_option maxHeartbeats 8000000 in
theorem open_rows (P K n : Nat) (l : List Int) (v u : Value) (vs : List Value) (rss : List (List (List Int))) (w : World) (hF : Fld P K l v w) (h1 : 1 ≤ n) (h6 : n ≤ 6) (hf : (P ^ K) ^ n ≤ 4096) (hu : LsR w u vs rss) (hm2 : rss.length ≤ 2) (z : Nat) (hz : Hid (lsE (P ^ K) n rss = z)) :
    Calls Tryd.prog 31 #[.agg #[.int .i64 (P : Int), .int .i64 (K : Int), v], .int .i64 (n : Int), u] w fun e w' => OpA (z : Int) (rmV P K v n) e ∧ Below w.heap.size w w' := by
  have b2 := balloc (w.alloc (.cells #[.int .i64 (P : Int), .int .i64 (K : Int), v] 24)) (.cells #[.int .i64 0, .int .i64 0, .slice none 0 0, .int .i64 0] 74)
  obtain ⟨b3, hr⟩ := open_boxes (P : Int) (K : Int) v w
  obtain ⟨x0, x1, x2⟩ := fl_box (P : Int) (K : Int) v w _ b2
  have C := Fd.FCheck_any (P : Int) (K : Int) l v _ (hF.tab.below b3) (hF.sl.below b3) hF.len
  have HZ : Hid (∀ y, Fd.FaultIs (P : Int) (K : Int) l y → y = 0) := fun y hy => hy.one hF.good.fault
  have HFl : Hid (∀ W, Below w.heap.size w W → Fld P K l v W) := fun W b => hF.below b
  have hbox := fl_box (P : Int) (K : Int) v w
  obtain ⟨A, ca, rfl, _⟩ := id hF.sl
  obtain ⟨W, HW⟩ : ∃ W, Hid ((w.alloc (.cells #[.int .i64 (P : Int), .int .i64 (K : Int), .slice A l.length ca] 24)).alloc (.cells #[.int .i64 0, .int .i64 0, .slice none 0 0, .int .i64 0] 74) = W) := ⟨_, rfl⟩
  have HRM : Hid (∀ w1, Below W.heap.size W w1 → RmB w1 (w.heap.size + 1) 0 0 (.slice none 0 0) 0) := fun w1 b => by rw [HW.out] at hr; exact hr.below b
  have HB3 : Hid (Below w.heap.size w W) := by rw [← HW.out]; exact b3
  have HBX : Hid (∀ w1, Below W.heap.size W w1 → w1.cell? ⟨w.heap.size, 0, none⟩ = some (.int .i64 (P : Int)) ∧ w1.cell? ⟨w.heap.size, 1, none⟩ = some (.int .i64 (K : Int)) ∧ w1.cell? ⟨w.heap.size, 2, none⟩ = some (.slice A l.length ca)) := fun w1 b => by
    rw [HW.out] at b2
    exact hbox w1 (Below.next b2 b)
  clear hr b3 hbox
  have d1 : decide ((n : Int) < 1) = false := by simp; omega
  have d1n : decide (n < 1) = false := by simp; omega
  have d2 : decide ((6 : Int) < (n : Int)) = false := by simp; omega
  have d2n : decide (6 < n) = false := by simp; omega
  obtain ⟨q, Hq⟩ : ∃ q, Hid (P ^ K = q) := ⟨_, rfl⟩
  have HO : Hid (∀ W, Below w.heap.size w W → Calls Tryd.prog 56 #[rmV P K (.slice A l.length ca) n] W fun e w' => e = .returned (.int .i64 (q : Int)) ∧ Below W.heap.size W w') := fun W b => order_any P K n l _ W (HFl.out W b) q Hq
  obtain ⟨s, Hs⟩ : ∃ s, Hid (cO (q ^ n) = s) := ⟨_, rfl⟩
  have hq64 : q ≤ 64 := by rw [← Hq.out]; exact hF.good.le64
  have CP := fun W => power_any q n W hq64 (by omega) s Hs
  have hs4 : ¬ 4096 < s := by
    rw [Hq.out] at hf
    rw [← Hs.out]; unfold cO; omega
  have d3 : decide ((4096 : Int) < (s : Int)) = false := by simp; omega
  have d3n : decide (4096 < s) = false := by simpa using hs4
  have HCR : Hid (∀ W, Below w.heap.size w W → ∀ (x : Value) (rs : List (List Int)), Rw W x rs → rs.length ≤ maxLen → (∀ r ∈ rs, r.length ≤ maxLen) → ∀ y, Hid (rsE q n rs = y) → Calls Tryd.prog 57 #[rmV P K (.slice A l.length ca) n, x] W fun e w' => e = .returned (.int .i64 (y : Int)) ∧ Below W.heap.size W w') := fun W b x rs hx h1 h2 y hy =>
    checkRows_any P K n l rs _ x W (HFl.out W b) hx h1 h2 h6 y (by rw [Hq.out]; exact hy)
  have HLS : Hid (∀ W, Below w.heap.size w W → LsR W u vs rss) := fun W b => hu.below b
  rw [Hq.out] at hz
  obtain ⟨m, Hm⟩ : ∃ m, Hid (rss.length = m) := ⟨_, rfl⟩
  rw [Hm.out] at hm2
  have HAt : Hid (∀ i, i < m → ∃ x rs, vs[i]? = some x ∧ rss[i]? = some rs) := fun i hi => by
    obtain ⟨b, c, e, h3, h4⟩ := hu
    exact ⟨vs[i]'(by rw [h3, Hm.out]; exact hi), rss[i]'(by rw [Hm.out]; exact hi), by simp, by simp⟩
  obtain ⟨ub, uc, rfl, _⟩ := id hu
  rw [Hm.out] at HLS ⊢
  clear hF hf hu
  go_enter Tryd.func31, Tryd.ntmps31
  go_wp2_with (first
    | (go_at_call 12; refine C.mono ?_; rintro e w1 ⟨y, rfl, hy, b4⟩; obtain rfl := HZ.out y hy; rw [HW.out] at b4; obtain ⟨z0, z1, z2⟩ := HBX.out w1 b4; clear C)
    | (refine wpList_store_row rfl 74 _ _ rfl w1.heap.size (rmC P K (.slice A l.length ca) n) rfl rfl 74 _ (rm_made w1) (inf74 _ _ _ _) rfl (rmC_one _ _ _ _ _ _) ?_; have r2 := (rm_made w1).whole P K n (.slice A l.length ca); have b5 : Below W.heap.size W ((w1.alloc (.cells #[.int .i64 0, .int .i64 0, .slice none 0 0, .int .i64 0] 74)).setRow w1.heap.size (rmC P K (.slice A l.length ca) n)) := Fd.bsetRow (b4.alloc b4.size _) b4.size _; revert r2 b5; generalize ((w1.alloc (.cells #[.int .i64 0, .int .i64 0, .slice none 0 0, .int .i64 0] 74)).setRow w1.heap.size (rmC P K (.slice A l.length ca) n)) = W2; intro r2 b5; obtain ⟨c0, c1, c2, c3⟩ := r2.cells)
    | (go_at_call 56; refine (HO.out W2 (Below.next HB3.out b5)).mono ?_; rintro e w3 ⟨rfl, b6⟩)
    | (go_at_call 43; refine (CP _).mono ?_; rintro e w4 ⟨rfl, h4⟩; replace h4 := h4.symm; subst h4))
  have BW : Hid (∀ W', Below w3.heap.size w3 W' → Below W.heap.size W W') := fun W' b => Below.next (Below.next b5 b6) b
  have HR2 : Hid (∀ W', Below w3.heap.size w3 W' → RmB W' w1.heap.size (P : Int) (K : Int) (.slice A l.length ca) (n : Int)) := fun W' b => r2.below (Below.next b6 b)
  clear c0 c1 c2 c3 r2 x0 x1 x2 b2
  go_loopw [11, 12, 37] (fun _ _ jv wr => ∃ j : Nat, jv = .int .i64 (j : Int) ∧ j ≤ m ∧ Hid (∀ i rs, i < j → rss[i]? = some rs → rsE q n rs = 0) ∧ Below w3.heap.size w3 wr) (fun _ _ jv _ => (m - intOf jv).toNat)
  case atStart => exact ⟨0, rfl, by omega, (fun i r h => by omega : ∀ i r, i < 0 → _), Below.refl _ _⟩
  case round =>
    obtain ⟨j, rfl, hj, HJ, hB⟩ := hrel
    have hBW := BW.out wr hB
    have hBB : Below w.heap.size w wr := Below.next HB3.out hBW
    have r2 := HR2.out wr hB
    obtain ⟨c0, c1, c2, c3⟩ := r2.cells
    by_cases hlt : j < m
    · have hji : (j : Int) < m := by omega
      have hdj : decide ((j : Int) < (m : Int)) = true := by simp; omega
      obtain ⟨x, rs, hx, hrs⟩ := HAt.out j hlt
      obtain ⟨b', c', e', _, h9⟩ := HLS.out wr hBB
      obtain ⟨rfl, rfl⟩ : ub = b' ∧ uc = c' := by
        simp only [Value.slice.injEq, Option.some.injEq, Addr.mk.injEq] at e'
        exact ⟨e'.1.1, e'.2.2⟩
      obtain ⟨hcj, hw, hl1, hl2⟩ := h9 j x rs hx hrs
      obtain ⟨y, Hy⟩ : ∃ y, Hid (rsE q n rs = y) := ⟨_, rfl⟩
      have CC := HCR.out wr hBB x rs hw hl1 hl2 y Hy
      obtain ⟨xa, xc, rfl, _⟩ := id hw
      have HRJ : Hid (rss[j]? = some rs) := hrs
      obtain ⟨rl, Hrl⟩ : ∃ rl, Hid (rs.length = rl) := ⟨_, rfl⟩
      rw [Hrl.out] at CC hcj
      clear h9 hw hrs hx hl1 hl2 e'
      by_cases hy0 : y = 0
      · have HJ2 : Hid (∀ i rs, i < j + 1 → rss[i]? = some rs → rsE q n rs = 0) := fun i s hi hs => by
          by_cases e : i = j
          · subst e
            have := HRJ.out.symm.trans hs
            cases this
            rw [Hy.out, hy0]
          · exact HJ.out i s (by omega) hs
        have hd0 : ((y : Int) != 0) = false := by simp; omega
        clear HJ
        go_wp2_with (go_at_call 57; refine CC.mono ?_; rintro e w5 ⟨rfl, b7⟩)
        go_roundw
        case rel => exact ⟨j + 1, by go_num, by omega, HJ2, Below.next hB b7⟩
        case measure => simp [intOf]; omega
      · have hd0 : ((y : Int) != 0) = true := by simp; omega
        have hyz : y = z := by
          rw [← hz.out, ← Hy.out]
          exact (lsE_at HRJ.out (fun i s hi hs => HJ.out i s hi hs) (by rw [Hy.out]; exact hy0)).symm
        subst hyz
        clear HJ hz
        go_wp2_with (first
          | (go_at_call 57; refine CC.mono ?_; rintro e w5 ⟨rfl, b7⟩; clear CC)
          | (refine wpList_store_row rfl 74 _ _ rfl (w.heap.size + 1) (rmC 0 0 (.slice none 0 0) 0) rfl rfl 74 _ (HRM.out w5 (Below.next hBW b7)) (inf74 _ _ _ _) rfl (rmC_one _ _ _ _ _ _) ?_))
        refine post_room rfl rfl rfl ((HRM.out w5 (Below.next hBW b7)).whole 0 0 0 (.slice none 0 0)) rfl ⟨⟨0, 0, 0, none, 0, 0, rfl, fun h => absurd h (by omega)⟩, Fd.bsetRow (Below.next hBB b7) (by omega) _⟩
    · have hdj : decide ((j : Int) < (m : Int)) = false := by simp; omega
      obtain rfl : j = m := by omega
      obtain rfl : z = 0 := by
        rw [← hz.out]
        exact lsE_all fun i s hs => HJ.out i s (by rw [← Hm.out]; exact (List.getElem?_eq_some_iff.1 hs).1) hs
      go_wp2_with (first
        | (refine wpList_store_row rfl 74 _ _ rfl (w.heap.size + 1) (rmC P K (.slice A l.length ca) n) rfl rfl 74 _ (HRM.out wr hBW) (inf74 _ _ _ _) rfl (rmC_one _ _ _ _ _ _) ?_))
      refine post_room rfl rfl rfl ((HRM.out wr hBW).whole P K n (.slice A l.length ca)) rfl ⟨⟨P, K, n, A, l.length, ca, rfl, fun _ => rfl⟩, Fd.bsetRow hBB (by omega) _⟩
end Go.Proofs.YtgdkfbgehbdkjabDoor

namespace Go.Proofs.YtgdkfbgehbdkjabDoor
open Go.RowKit

def swpI (A : Nat → Nat → Int) (a k : Nat) : Nat → Nat → Int := fun i => if i = a then A k else if i = k then A a else A i
/-! ### Rows in memory -/
/-- Block g holds R slices, each of a row of its own of n numbers. -/
structure Mat (w : World) (base g R n : Nat) (B cp : Nat → Nat) (A : Nat → Nat → Int) : Prop where
  out : ∃ cur, w.heap[g]? = some (.cells cur 22 (0, 0)) ∧ ∀ i, i < R → cur[i]? = some (.slice (some ⟨B i, 0, none⟩) n (cp i))
  row : ∀ i, i < R → Own w (B i) n (A i)
  sep : ∀ i j, i < R → j < R → B i = B j → i = j
  lo : ∀ i, i < R → base ≤ B i ∧ B i ≠ g
theorem Mat.hd {w : World} {base g R n : Nat} {B cp : Nat → Nat} {A : Nat → Nat → Int} (h : Mat w base g R n B cp A) {i : Nat} (hi : i < R) : w.cell? ⟨g, i, none⟩ = some (.slice (some ⟨B i, 0, none⟩) n (cp i)) := by
  obtain ⟨cur, h1, h2⟩ := h.out
  rw [cell_of_row w g i _ _ _ h1, h2 i hi]
theorem Mat.hdf {w : World} {base g R n : Nat} {B cp : Nat → Nat} {A : Nat → Nat → Int} (h : Mat w base g R n B cp A) (i : Nat) : w.frozen? ⟨g, i, none⟩ = false := by
  obtain ⟨cur, h1, _⟩ := h.out
  exact frozen_of_row w g i _ _ h1
theorem Mat.cell {w : World} {base g R n : Nat} {B cp : Nat → Nat} {A : Nat → Nat → Int} (h : Mat w base g R n B cp A) {i j : Nat} (hi : i < R) (hj : j < n) : w.cell? ⟨B i, j, none⟩ = some (.int .i64 (A i j)) := (h.row i hi).cell j hj
theorem Mat.frozen {w : World} {base g R n : Nat} {B cp : Nat → Nat} {A : Nat → Nat → Int} (h : Mat w base g R n B cp A) {i : Nat} (hi : i < R) (j : Nat) : w.frozen? ⟨B i, j, none⟩ = false := (h.row i hi).frozen j
theorem Mat.congr {w : World} {base g R n : Nat} {B cp : Nat → Nat} {A A' : Nat → Nat → Int} (h : Mat w base g R n B cp A) (e : ∀ i j, i < R → j < n → A i j = A' i j) : Mat w base g R n B cp A' :=
  ⟨h.out, fun i hi => (h.row i hi).congr (fun j hj => e i j hi hj), h.sep, h.lo⟩
theorem Mat.drew {w : World} {base g R n : Nat} {B cp : Nat → Nat} {A : Nat → Nat → Int} (h : Mat w base g R n B cp A) : Mat w.drew base g R n B cp A := ⟨h.out, h.row, h.sep, h.lo⟩
theorem Mat.glt {w : World} {base g R n : Nat} {B cp : Nat → Nat} {A : Nat → Nat → Int} (h : Mat w base g R n B cp A) : g < w.heap.size := by
  obtain ⟨cur, h1, _⟩ := h.out
  exact (Array.getElem?_eq_some_iff.1 h1).1
theorem Mat.set {w : World} {base g R n : Nat} {B cp : Nat → Nat} {A : Nat → Nat → Int} (h : Mat w base g R n B cp A) {i : Nat} (hi : i < R) (j : Nat) (v : Int) :
    Mat (w.setCell ⟨B i, j, none⟩ (.int .i64 v)) base g R n B cp (fun r => if r = i then upd (A r) j v else A r) := by
  obtain ⟨cur, h1, h2⟩ := h.out
  refine ⟨⟨cur, (heap_setCell_other w _ g _ (fun e => (h.lo i hi).2 e.symm)).trans h1, h2⟩, fun r hr => ?_, h.sep, h.lo⟩
  by_cases e : r = i
  · subst e
    rw [if_pos rfl]
    exact (h.row r hr).set j v
  · rw [if_neg e]
    exact (h.row r hr).other _ _ (fun e' => e (h.sep r i hr hi e'))
/-- Blocks that stay as they were. -/
theorem Mat.kept {w w' : World} {base g R n : Nat} {B cp : Nat → Nat} {A : Nat → Nat → Int} (h : Mat w base g R n B cp A) (hk : ∀ k, (k = g ∨ ∃ i, i < R ∧ k = B i) → w'.heap[k]? = w.heap[k]?) : Mat w' base g R n B cp A := by
  obtain ⟨cur, h1, h2⟩ := h.out
  refine ⟨⟨cur, (hk g (.inl rfl)).trans h1, h2⟩, fun i hi => ?_, h.sep, h.lo⟩
  obtain ⟨c, h3, h4⟩ := h.row i hi
  exact ⟨c, (hk _ (.inr ⟨i, hi, rfl⟩)).trans h3, h4⟩
theorem Mat.swap {w : World} {base g R n : Nat} {B cp : Nat → Nat} {A : Nat → Nat → Int} (h : Mat w base g R n B cp A) {a k : Nat} (ha : a < R) (hk : k < R) :
    Mat ((w.setCell ⟨g, a, none⟩ (.slice (some ⟨B k, 0, none⟩) n (cp k))).setCell ⟨g, k, none⟩ (.slice (some ⟨B a, 0, none⟩) n (cp a))) base g R n
      (fun i => if i = a then B k else if i = k then B a else B i) (fun i => if i = a then cp k else if i = k then cp a else cp i) (swpI A a k) := by
  obtain ⟨cur, h1, h2⟩ := h.out
  have hB : ∀ i, i < R → ∃ i', i' < R ∧ (if i = a then B k else if i = k then B a else B i) = B i' ∧ swpI A a k i = A i' ∧ (i = a ∧ i' = k ∨ i ≠ a ∧ i = k ∧ i' = a ∨ i ≠ a ∧ i ≠ k ∧ i' = i) := by
    intro i hi
    unfold swpI
    by_cases e1 : i = a
    · exact ⟨k, hk, by rw [if_pos e1], by rw [if_pos e1], .inl ⟨e1, rfl⟩⟩
    · by_cases e2 : i = k
      · exact ⟨a, ha, by rw [if_neg e1, if_pos e2], by rw [if_neg e1, if_pos e2], .inr (.inl ⟨e1, e2, rfl⟩)⟩
      · exact ⟨i, hi, by rw [if_neg e1, if_neg e2], by rw [if_neg e1, if_neg e2], .inr (.inr ⟨e1, e2, rfl⟩)⟩
  refine ⟨⟨_, heap_setCell_same _ _ _ _ _ _ (heap_setCell_same _ _ _ _ _ _ h1), fun i hi => ?_⟩, fun i hi => ?_, fun i j hi hj e => ?_, fun i hi => ?_⟩
  · have hs : i < cur.size := (Array.getElem?_eq_some_iff.1 (h2 i hi)).1
    rw [Array.getElem?_setIfInBounds, Array.getElem?_setIfInBounds]
    by_cases e2 : k = i
    · subst e2
      rw [if_pos rfl, if_pos (by simp [hs])]
      by_cases e1 : k = a
      · subst e1; simp
      · simp [e1]
    · rw [if_neg e2]
      by_cases e1 : a = i
      · subst e1; rw [if_pos rfl, if_pos hs]; simp
      · rw [if_neg e1, h2 i hi]; simp [Ne.symm e1, Ne.symm e2]
  · obtain ⟨i', hi', e1, e2, _⟩ := hB i hi
    rw [e1, e2]
    exact ((h.row i' hi').other _ _ (h.lo i' hi').2).other _ _ (h.lo i' hi').2
  · obtain ⟨i', hi', e1, _, c1⟩ := hB i hi
    obtain ⟨j', hj', e2, _, c2⟩ := hB j hj
    have e' : (if i = a then B k else if i = k then B a else B i) = (if j = a then B k else if j = k then B a else B j) := e
    rw [e1, e2] at e'
    have := h.sep i' j' hi' hj' e'
    omega
  · obtain ⟨i', hi', e1, _, _⟩ := hB i hi
    show base ≤ (if i = a then B k else if i = k then B a else B i) ∧ (if i = a then B k else if i = k then B a else B i) ≠ g
    rw [e1]
    exact h.lo i' hi'
theorem ownsRow_other {w : World} {base n : Nat} {e : TypeId} {size : Nat} {v : Value} {xs : List Value} (h : w.ownsRow base e size v n xs) (a : Addr) (u : Value) (hb : a.block < base) : (w.setCell a u).ownsRow base e size v n xs := by
  obtain ⟨h1, h2 | ⟨g, cap, cur, h3, h4, h5, h6⟩⟩ := h
  · exact ⟨h1, .inl h2⟩
  · exact ⟨h1, .inr ⟨g, cap, cur, h3, h4, (heap_setCell_other w a g u (by omega)).trans h5, h6⟩⟩


set_option maxRecDepth 100000 in
set_option maxHeartbeats 2000000 in
/-- A copy of a row that has one element or more. -/
theorem CloneI_any (l : List Int) (v : Value) (w : World) (hv : Sl w v l) (h0 : 1 ≤ l.length) (hl : l.length ≤ 99) :
    Calls Tryd.prog 58 #[v] w fun e w' => ∃ y, e = .returned y ∧ w'.ownsRow w.heap.size 3 1 y l.length (l.map (Value.int .i64)) ∧ Below w.heap.size w w' := by
  obtain ⟨i3, ti, tz0, tz1, tz2⟩ := info3
  obtain ⟨b, off, cap, rfl, hb, hc⟩ := hv.form rfl (by omega)
  have q22 : ∀ (w : World) (a : Option Addr) (n c : Nat), (binOp .eql 22 (.slice a n c) (.slice none 0 0)).run Tryd.prog w = .ok (.bool a.isNone) w := fun w a n c => by
    have h := run_equal_slice_nil (P := Tryd.prog) w 22 3 a n c und22
    simp only [binOp]
    simp [h]
  obtain ⟨n, Hn⟩ : ∃ n, Hid (l.length = n) := ⟨_, rfl⟩
  rw [Hn.out] at hl h0 ⊢
  have HN : Hid (∀ (j : Nat) (u : Value), (l.map (Value.int .i64))[j]? = some u → (w.alloc (.cells #[] 3)).cell? (Addr.add ⟨b, off, none⟩ j) = some u) := fun j u hj => by
    have hjl : j < l.length := by have := (List.getElem?_eq_some_iff.1 hj).1; simpa using this
    have h := hc j hjl
    rw [Addr.add_mid, (balloc w (.cells #[] 3)).cell (p := ⟨b, off + j, none⟩) hb, h]
    simpa [hjl] using hj
  clear hc
  go_enter Tryd.func58, Tryd.ntmps58
  go_wp2_with (first
    | (at_builtin; refine wpList_append_own _ rfl _ _ 22 rfl w.heap.size 3 i3 (.int .i64 0) 1 8 und22 ti tz0 tz1 tz2 rfl (by decide) _ 0 [] rfl ?o1 ⟨b, off, none⟩ n _ (l.map (Value.int .i64)) rfl (by simpa using Hn.out) ?o2 ?o3 ?o4 ?o5 ?o6 ?_)
    | go_in)
  case o1 => exact ⟨rfl, .inr ⟨w.heap.size, 0, #[], rfl, Nat.le_refl _, heap_alloc_new w _, Nat.le_refl _, by unfold maxLen; omega, rfl, rfl⟩⟩
  case o2 => exact HN.out
  case o3 => intro u hu; obtain ⟨z, _, rfl⟩ := List.mem_map.1 hu; rfl
  case o4 => unfold maxLen; omega
  case o5 => omega
  case o6 => simp
  intro v' w' hO hg _
  have hB : Below w.heap.size w w' := (balloc w (.cells #[] 3)).grown hg (by simp) (fun j hj => by cases hj; exact Nat.le_refl _)
  have HO : Hid (w'.ownsRow w.heap.size 3 1 v' n (l.map (Value.int .i64))) := hO
  clear hO hg q22
  go_wp2
  go_ret
  exact ⟨_, rfl, HO.out, hB⟩
/-- The question that basis asks of a row. -/
theorem ask50 (c : Nat) (b : Nat) (r : List Int) (u : Value) (w : World) (hb : w.cell? ⟨b, 0, none⟩ = some (.int .i64 (c : Int))) (hu : Sl w u r) (hc : c < r.length) (_hr : r.length ≤ 99) :
    Calls Tryd.prog 60 #[u, .pointer (some ⟨b, 0, none⟩)] w fun e w' => e = .returned (.bool (r.getD c 0 != 0)) ∧ w' = w := by
  obtain ⟨a, cap, rfl, h⟩ := hu
  obtain ⟨b', off, rfl, hcc⟩ := h c hc
  have hci : (c : Int) < (r.length : Int) := by omega
  obtain ⟨x, Hx⟩ : ∃ x, Hid (r.getD c 0 = x) := ⟨_, rfl⟩
  rw [Hx.out] at hcc ⊢
  generalize r.length = n at *
  clear h
  go_enter Tryd.func60, Tryd.ntmps60
  go_wp2
  go_ret
  exact ⟨rfl, rfl⟩
/-- What IndexFunc tells of rows. -/
def IfIs (ls : List (List Int)) (p : List Int → Bool) (z : Int) : Prop :=
  (z = -1 ∧ ∀ (i : Nat) l, ls[i]? = some l → p l = false) ∨ ∃ (j : Nat) (l : List Int), z = (j : Int) ∧ ls[j]? = some l ∧ p l = true ∧ ∀ (i : Nat) l', i < j → ls[i]? = some l' → p l' = false
set_option maxRecDepth 100000 in
set_option maxHeartbeats 4000000 in
theorem IndexR_any (c b : Nat) (ls : List (List Int)) (v : Value) (w : World) (hb : w.cell? ⟨b, 0, none⟩ = some (.int .i64 (c : Int))) (hv : Rw w v ls) (hl : ls.length ≤ 99) (hc : ∀ l ∈ ls, c < l.length ∧ l.length ≤ 99) :
    Calls Tryd.prog 59 #[v, .func (.func 60) #[] #[.pointer (some ⟨b, 0, none⟩)]] w fun e w' => (∃ z : Int, e = .returned (.int .i64 z) ∧ IfIs ls (fun r => r.getD c 0 != 0) z) ∧ w' = w := by
  obtain ⟨a, cap, rfl, hr⟩ := hv
  have HR : Hid (∀ (i : Nat) l, ls[i]? = some l → ∃ b off u, a = some ⟨b, off, none⟩ ∧ w.cell? ⟨b, off + i, none⟩ = some u ∧ Sl w u l) := hr
  have HC : Hid (∀ l ∈ ls, ∀ u, Sl w u l → Calls Tryd.prog 60 #[u, .pointer (some ⟨b, 0, none⟩)] w fun e w' => e = .returned (.bool (l.getD c 0 != 0)) ∧ w' = w) := fun l hm u hs => ask50 c b l u w hb hs (hc l hm).1 (hc l hm).2
  obtain ⟨n, hn⟩ : ∃ n, n = ls.length := ⟨_, rfl⟩
  have HN : Hid (n = ls.length) := hn
  rw [← hn] at hl ⊢
  clear hr hn hb hc
  go_enter Tryd.func59, Tryd.ntmps59
  go_wp2
  go_loopw [5, 8] (fun _ i wr => ∃ j : Nat, i = .int .i64 (j : Int) ∧ j ≤ n ∧ Hid (∀ (t : Nat) l, t < j → ls[t]? = some l → (l.getD c 0 != 0) = false) ∧ wr = w) (fun _ i _ => (n - intOf i).toNat)
  case atStart => exact ⟨0, rfl, by omega, (fun t l h => by omega : ∀ t l, t < 0 → _), rfl⟩
  case round =>
    obtain ⟨j, rfl, hj, HJ, hw⟩ := hrel
    replace hw := hw.symm
    subst hw
    by_cases hlt : j < n
    · have hdj : decide ((j : Int) < (n : Int)) = true := by simp; omega
      have hji : (j : Int) < n := by omega
      have hj0 : (0 : Int) ≤ (j : Int) := by omega
      obtain ⟨l, hl'⟩ : ∃ l, ls[j]? = some l := ⟨ls[j]'(by rw [← HN.out]; exact hlt), by simp⟩
      obtain ⟨b', off, u, rfl, hcj, hs⟩ := HR.out j l hl'
      have D := HC.out l (List.mem_of_getElem? hl') u hs
      have HLJ : Hid (ls[j]? = some l) := hl'
      obtain ⟨ua, uc, rfl, _⟩ := id hs
      obtain ⟨ul, Hul⟩ : ∃ ul, Hid (l.length = ul) := ⟨_, rfl⟩
      rw [Hul.out] at D hcj
      clear hl' hs
      cases hq : (l.getD c 0 != 0) with
      | true =>
        rw [hq] at D
        have HM : Hid ((l.getD c 0 != 0) = true) := hq
        clear hq
        go_wp2_with (go_at_call 60; refine D.mono ?_; rintro e w1 ⟨rfl, h1⟩; replace h1 := h1.symm; subst h1)
        go_ret
        exact ⟨⟨_, rfl, .inr ⟨j, l, rfl, HLJ.out, HM.out, fun i l' hi h => HJ.out i l' hi h⟩⟩, rfl⟩
      | false =>
        rw [hq] at D
        have HJ2 : Hid (∀ (t : Nat) l, t < j + 1 → ls[t]? = some l → (l.getD c 0 != 0) = false) := fun t l' ht e => by
          by_cases et : t = j
          · subst et
            have := HLJ.out.symm.trans e
            cases this
            exact hq
          · exact HJ.out t l' (by omega) e
        clear hq HJ
        go_wp2_with (go_at_call 60; refine D.mono ?_; rintro e w1 ⟨rfl, h1⟩; replace h1 := h1.symm; subst h1)
        go_roundw
        case rel => exact ⟨j + 1, by go_num, by omega, HJ2, by first | rfl | trivial⟩
        case measure => simp [intOf]; omega
    · have hdj : decide ((j : Int) < (n : Int)) = false := by simp; omega
      obtain rfl : j = n := by omega
      go_wp2
      go_ret
      exact ⟨⟨_, rfl, .inl ⟨rfl, fun i l h => HJ.out i l (by rw [HN.out]; exact (List.getElem?_eq_some_iff.1 h).1) h⟩⟩, rfl⟩
end Go.Proofs.YtgdkfbgehbdkjabDoor

/- The walk of the room's normalRow. -/
/- The walk of the room's clear. -/
namespace Go.Proofs.YtgdkfbgehbdkjabDoor
open Go.RowKit

/-- All blocks stay but some. -/
structure KpX (X : Nat → Prop) (w w' : World) : Prop where
  os : w'.os = w.os
  tape : w'.tape = w.tape
  output : w'.output = w.output
  size : w.heap.size ≤ w'.heap.size
  block : ∀ k, k < w.heap.size → ¬ X k → w'.heap[k]? = w.heap[k]?
theorem KpX.refl (X : Nat → Prop) (w : World) : KpX X w w := ⟨rfl, rfl, rfl, Nat.le_refl _, fun _ _ _ => rfl⟩
theorem KpX.trans {X : Nat → Prop} {a b c : World} (h : KpX X a b) (k : KpX X b c) : KpX X a c :=
  ⟨k.os.trans h.os, k.tape.trans h.tape, k.output.trans h.output, Nat.le_trans h.size k.size, fun i hi hx => (k.block i (Nat.lt_of_lt_of_le hi h.size) hx).trans (h.block i hi hx)⟩
theorem KpX.of {X : Nat → Prop} {w w' : World} (h : Below w.heap.size w w') : KpX X w w' := ⟨h.os, h.tape, h.output, h.size, fun k hk _ => h.block k hk⟩
theorem KpX.set {X : Nat → Prop} {a w : World} (h : KpX X a w) {p : Addr} (hp : X p.block) (u : Value) : KpX X a (w.setCell p u) :=
  h.trans ⟨rfl, rfl, rfl, by simp [World.setCell], fun k _ hx => Below.heap_setCell _ _ _ _ (fun e => hx (by rw [e]; exact hp))⟩
theorem KpX.drew {X : Nat → Prop} {a w : World} (h : KpX X a w) : KpX X a w.drew := ⟨h.os, h.tape, h.output, h.size, h.block⟩
theorem KpX.below {X : Nat → Prop} {base : Nat} {a b c : World} (h : Below base a b) (k : KpX X b c) (hX : ∀ i, X i → base ≤ i) (hb : base ≤ b.heap.size) : Below base a c :=
  ⟨k.os.trans h.os, k.tape.trans h.tape, k.output.trans h.output, Nat.le_trans h.size k.size, fun i hi => (k.block i (by omega) (fun hx => by have := hX i hx; omega)).trans (h.block i hi)⟩
theorem KpX.rm {X : Nat → Prop} {w w' : World} (h : KpX X w w') {g : Nat} {p k n : Int} {v : Value} (hr : RmB w g p k v n) (hx : ¬ X g) : RmB w' g p k v n := (h.block g hr.lt hx).trans hr
theorem KpX.mono {X Y : Nat → Prop} {w w' : World} (h : KpX X w w') (k : ∀ i, X i → Y i) : KpX Y w w' := ⟨h.os, h.tape, h.output, h.size, fun i hi hy => h.block i hi fun hx => hy (k i hx)⟩
/-- The rows' own blocks. -/
def RwX (R : Nat) (B : Nat → Nat) (k : Nat) : Prop := ∃ i, i < R ∧ k = B i
def cst (M : Nat → Nat → Nat) : Nat → Nat → Int := fun i j => (M i j : Int)
theorem Mat.below {w w' : World} {base g R n : Nat} {B cp : Nat → Nat} {A : Nat → Nat → Int} (h : Mat w base g R n B cp A) (hb : Below w.heap.size w w') : Mat w' base g R n B cp A :=
  h.kept fun k hk => hb.block k (by
    rcases hk with rfl | ⟨i, hi, rfl⟩
    · exact h.glt
    · exact (h.row i hi).lt)
/-- Row t, its first j elements multiplied. -/
def sclTo (mu : Nat → Nat → Nat) (M : Nat → Nat → Nat) (t e j : Nat) : Nat → Nat → Nat := fun r x => if r = t ∧ x < j then mu e (M t x) else M r x
theorem sclTo_zero (mu : Nat → Nat → Nat) (M : Nat → Nat → Nat) (t e r x : Nat) : cst M r x = cst (sclTo mu M t e 0) r x := by unfold cst sclTo; rw [if_neg (by omega)]
theorem sclTo_at (mu : Nat → Nat → Nat) (M : Nat → Nat → Nat) (t e j : Nat) : cst (sclTo mu M t e j) t j = (M t j : Int) := by unfold cst sclTo; rw [if_neg (by omega)]
theorem sclTo_succ {mu : Nat → Nat → Nat} {M : Nat → Nat → Nat} {t e j s : Nat} (hs : mu e (M t j) = s) (r y : Nat) : (if r = t then upd (cst (sclTo mu M t e j) r) j (s : Int) else cst (sclTo mu M t e j) r) y = cst (sclTo mu M t e (j + 1)) r y := by
  by_cases er : r = t
  · subst er
    rw [if_pos rfl]
    unfold upd cst sclTo
    by_cases ey : y = j
    · subst ey; rw [if_pos rfl, if_pos ⟨rfl, by omega⟩, hs]
    · rw [if_neg ey]
      by_cases hy : y < j
      · rw [if_pos ⟨rfl, hy⟩, if_pos ⟨rfl, by omega⟩]
      · rw [if_neg (by omega), if_neg (by omega)]
  · rw [if_neg er]
    unfold cst sclTo
    rw [if_neg (fun h => er h.1), if_neg (fun h => er h.1)]
theorem sclTo_full {mu : Nat → Nat → Nat} {M : Nat → Nat → Nat} {t e n : Nat} (r x : Nat) (hx : x < n) : cst (sclTo mu M t e n) r x = cst (sclF mu M t e) r x := by
  unfold cst sclTo sclF
  by_cases ei : r = t
  · rw [if_pos ⟨ei, hx⟩, if_pos ei]
  · rw [if_neg (fun h => ei h.1), if_neg ei]
/-- The rows ahead of i, and of row i the first j elements, cleared. -/
def clrTo (ad mu : Nat → Nat → Nat) (ng : Nat → Nat) (M : Nat → Nat → Nat) (t c i j : Nat) : Nat → Nat → Nat := fun r x => if r < i ∨ (r = i ∧ x < j) then clrF ad mu ng M t c r x else M r x
section
variable {ad mu : Nat → Nat → Nat} {ng : Nat → Nat} {M : Nat → Nat → Nat} {t c : Nat}
theorem clrTo_zero (ad mu : Nat → Nat → Nat) (ng : Nat → Nat) (M : Nat → Nat → Nat) (t c r x : Nat) : cst M r x = cst (clrTo ad mu ng M t c 0 0) r x := by unfold cst clrTo; rw [if_neg (by omega)]
theorem clrTo_at (ad mu : Nat → Nat → Nat) (ng : Nat → Nat) (M : Nat → Nat → Nat) (t c i j x : Nat) (hx : j ≤ x) : cst (clrTo ad mu ng M t c i j) i x = (M i x : Int) := by unfold cst clrTo; rw [if_neg (by omega)]
theorem clrTo_lead (ad mu : Nat → Nat → Nat) (ng : Nat → Nat) (M : Nat → Nat → Nat) (t c i j x : Nat) : cst (clrTo ad mu ng M t c i j) t x = (M t x : Int) := by
  unfold cst clrTo
  split
  · unfold clrF; rw [if_pos rfl]
  · rfl
theorem clrTo_succ {i j s : Nat} (hit : i ≠ t) (hs : ad (M i j) (mu (ng (M i c)) (M t j)) = s) (r z : Nat) :
    (if r = i then upd (cst (clrTo ad mu ng M t c i j) r) j (s : Int) else cst (clrTo ad mu ng M t c i j) r) z = cst (clrTo ad mu ng M t c i (j + 1)) r z := by
  by_cases er : r = i
  · subst er
    rw [if_pos rfl]
    unfold upd cst clrTo
    by_cases ey : z = j
    · subst ey
      rw [if_pos rfl, if_pos (by omega)]
      unfold clrF
      rw [if_neg hit, hs]
    · rw [if_neg ey]
      by_cases hz : z < j
      · rw [if_pos (by omega), if_pos (by omega)]
      · rw [if_neg (by omega), if_neg (by omega)]
  · rw [if_neg er]
    unfold cst clrTo
    by_cases hr : r < i
    · rw [if_pos (by omega), if_pos (by omega)]
    · rw [if_neg (by omega), if_neg (by omega)]
theorem clrTo_row {i n : Nat} (r x : Nat) (hx : x < n) : cst (clrTo ad mu ng M t c i n) r x = cst (clrTo ad mu ng M t c (i + 1) 0) r x := by
  unfold cst clrTo
  by_cases hr : r < i + 1
  · rw [if_pos (by omega), if_pos (by omega)]
  · rw [if_neg (by omega), if_neg (by omega)]
theorem clrTo_skip {i : Nat} (r x : Nat) (h : i = t) : cst (clrTo ad mu ng M t c i 0) r x = cst (clrTo ad mu ng M t c (i + 1) 0) r x := by
  unfold cst clrTo
  by_cases hr : r < i
  · rw [if_pos (by omega), if_pos (by omega)]
  · rw [if_neg (by omega)]
    by_cases e : r = i
    · rw [if_pos (by omega), e]
      unfold clrF
      rw [if_pos h, h]
    · rw [if_neg (by omega)]
theorem clrTo_full {R : Nat} (r x : Nat) (hr : r < R) : cst (clrTo ad mu ng M t c R 0) r x = cst (clrF ad mu ng M t c) r x := by unfold cst clrTo; rw [if_pos (by omega)]
end
set_option maxRecDepth 100000 in
set_option maxHeartbeats 16000000 in
theorem clear_any (P K n R t c g co : Nat) (l : List Int) (v : Value) (M : Nat → Nat → Nat) (B cp : Nat → Nat) (w0 w : World) (hF : Fld P K l v w0) (hB0 : Below w0.heap.size w0 w) (hM : Mat w w0.heap.size g R n B cp (cst M)) (_hg : w0.heap.size ≤ g)
    (hlt : ∀ i j, i < R → j < n → M i j < P ^ K) (ht : t < R) (hc : c < n) (hn : n ≤ 6) (hR : R ≤ 24) (hz : M t c ≠ 0) :
    Calls Tryd.prog 61 #[rmV P K v n, .slice (some ⟨g, 0, none⟩) R co, .int .i64 (t : Int), .int .i64 (c : Int)] w fun e w' => e = .returned (.tuple #[]) ∧
      (∃ e1, e1 < P ^ K ∧ muF P K l e1 (M t c) = 1 ∧ Mat w' w0.heap.size g R n B cp (cst (clrF (adF P K) (muF P K l) (ngF P K) (sclF (muF P K l) M t e1) t c))) ∧ KpX (RwX R B) w w' := by
  have hfq := hF.fqr
  have hwb : w0.heap.size ≤ w.heap.size := hB0.size
  obtain ⟨e1, He1⟩ : ∃ e1, Hid (Fd.powQ P K (Fd.monL l) (M t c) (P ^ K - 2) = e1) := ⟨_, rfl⟩
  have he1 : e1 < P ^ K := by rw [← He1.out]; exact Fd.powQ_lt hF.good.field.toRing1 _ _
  have hi1 : muF P K l e1 (M t c) = 1 := by
    have h := Fd.inv_ok hF.good.field (a := M t c) (by omega) (hlt t c ht hc)
    rw [← He1.out, hfq.mu_comm _ _ (Fd.powQ_lt hF.good.field.toRing1 _ _) (hlt t c ht hc)]
    exact h
  have HI1 : Hid (muF P K l e1 (M t c) = 1) := hi1
  have HInv : Hid (∀ W, Below w0.heap.size w0 W → Calls Tryd.prog 74 #[.agg #[.int .i64 (P : Int), .int .i64 (K : Int), v], .int .i64 ((M t c : Nat) : Int)] W fun e w' => e = .returned (.tuple #[.int .i64 (e1 : Int), .int .i64 0]) ∧ Below W.heap.size W w') := fun W b =>
    Fd.InvG P K (M t c) l v W (hF.tab.below b) (hF.sl.below b) hF.len hF.good (hlt t c ht hc) (by omega) e1 He1.out.symm
  have HTim : Hid (∀ W, Below w0.heap.size w0 W → ∀ a b, a < P ^ K → b < P ^ K → ∀ s, Hid (muF P K l a b = s) → Calls Tryd.prog 75 #[rmV P K v n, .int .i64 (a : Int), .int .i64 (b : Int)] W fun e w' => e = .returned (.int .i64 (s : Int)) ∧ Below W.heap.size W w') := fun W b x y hx hy s hs => rtimes_any P K n x y l v W (hF.below b) hx hy s hs
  have HPlu : Hid (∀ W, Below w0.heap.size w0 W → ∀ a b, a < P ^ K → b < P ^ K → ∀ s, Hid (adF P K a b = s) → Calls Tryd.prog 77 #[rmV P K v n, .int .i64 (a : Int), .int .i64 (b : Int)] W fun e w' => e = .returned (.int .i64 (s : Int)) ∧ Below W.heap.size W w') := fun W b x y hx hy s hs => rplus_any P K n x y l v W (hF.below b) hx hy s hs
  have HLes : Hid (∀ W, Below w0.heap.size w0 W → ∀ a, a < P ^ K → ∀ s, Hid (ngF P K a = s) → Calls Tryd.prog 76 #[rmV P K v n, .int .i64 (a : Int)] W fun e w' => e = .returned (.int .i64 (s : Int)) ∧ Below W.heap.size W w') := fun W b x hx s hs => rless_any P K n x l v W (hF.below b) hx s hs
  have HQm : Hid (∀ a b, a < P ^ K → b < P ^ K → muF P K l a b < P ^ K) := hfq.mu_lt
  have HQa : Hid (∀ a b, a < P ^ K → b < P ^ K → adF P K a b < P ^ K) := hfq.ad_lt
  have HQn : Hid (∀ a, a < P ^ K → ngF P K a < P ^ K) := hfq.ng_lt
  have HLT : Hid (∀ i j, i < R → j < n → M i j < P ^ K) := hlt
  obtain ⟨mu, Hmu⟩ : ∃ mu, Hid (muF P K l = mu) := ⟨_, rfl⟩
  obtain ⟨ad, Had⟩ : ∃ ad, Hid (adF P K = ad) := ⟨_, rfl⟩
  obtain ⟨ng, Hng⟩ : ∃ ng, Hid (ngF P K = ng) := ⟨_, rfl⟩
  obtain ⟨q, Hq⟩ : ∃ q, Hid (P ^ K = q) := ⟨_, rfl⟩
  rw [Hmu.out] at HTim HQm HI1 ⊢
  rw [Had.out] at HPlu HQa ⊢
  rw [Hng.out] at HLes HQn ⊢
  rw [Hq.out] at HTim HPlu HLes HQm HQa HQn HLT he1 ⊢
  obtain ⟨d, Hd⟩ : ∃ d, Hid (M t c = d) := ⟨_, rfl⟩
  rw [Hd.out] at HInv
  obtain ⟨fa, fn, fc, rfl⟩ : ∃ fa fn fc, v = .slice fa fn fc := by obtain ⟨a, c, e, _⟩ := hF.sl; exact ⟨a, _, c, e⟩
  have hbx := balloc w (.cells #[.int .i64 (P : Int), .int .i64 (K : Int), .slice fa fn fc, .int .i64 (n : Int)] 74)
  have hr0 : RmB (w.alloc (.cells #[.int .i64 (P : Int), .int .i64 (K : Int), .slice fa fn fc, .int .i64 (n : Int)] 74)) w.heap.size (P : Int) (K : Int) (.slice fa fn fc) (n : Int) := heap_alloc_new w _
  have hM0 := hM.below hbx
  have hk0 : KpX (RwX R B) w (w.alloc (.cells #[.int .i64 (P : Int), .int .i64 (K : Int), .slice fa fn fc, .int .i64 (n : Int)] 74)) := KpX.of hbx
  have HBl : Hid (∀ i, i < R → B i < w.heap.size) := fun i hi => (hM.row i hi).lt
  have HBg : Hid (∀ i, i < R → w0.heap.size ≤ B i) := fun i hi => (hM.lo i hi).1
  have hnX : ¬ RwX R B w.heap.size := fun ⟨i, hi, e⟩ => by have := HBl.out i hi; omega
  have HNX : Hid (¬ RwX R B w.heap.size) := hnX
  have HWB : Hid (∀ W, KpX (RwX R B) w W → Below w0.heap.size w0 W) := fun W k => KpX.below hB0 k (fun i ⟨j, hj, e⟩ => by have := HBg.out j hj; omega) hwb
  obtain ⟨w1, Hw1⟩ : ∃ w1, Hid (w.alloc (.cells #[.int .i64 (P : Int), .int .i64 (K : Int), .slice fa fn fc, .int .i64 (n : Int)] 74) = w1) := ⟨_, rfl⟩
  have hti : (t : Int) < (R : Int) := by omega
  have hci : (c : Int) < (n : Int) := by omega
  have c1 := hM0.hd ht
  have c2 := hM0.cell ht hc
  have e2 : cst M t c = (d : Int) := by unfold cst; rw [Hd.out]
  rw [e2] at c2
  have hS : Hid (∀ W, Below w1.heap.size w1 W → (W.cell? ⟨w.heap.size, 0, none⟩ = some (.int .i64 (P : Int)) ∧ W.cell? ⟨w.heap.size, 1, none⟩ = some (.int .i64 (K : Int)) ∧ W.cell? ⟨w.heap.size, 2, none⟩ = some (.slice fa fn fc) ∧ W.cell? ⟨w.heap.size, 3, none⟩ = some (.int .i64 (n : Int)) ∧ W.cell? ⟨B t, c, none⟩ = some (.int .i64 (d : Int)))) := fun W hW => by
    rw [Hw1.out] at c2 hr0
    obtain ⟨y0, y1, y2, y3⟩ := (hr0.below hW).cells
    exact ⟨y0, y1, y2, y3, (hW.cell (World.block_lt_of_cell? _ _ c2)).trans c2⟩
  have HM0 : Hid (Mat w1 w0.heap.size g R n B cp (cst M)) := by rw [← Hw1.out]; exact hM0
  have HK0 : Hid (KpX (RwX R B) w w1) := by rw [← Hw1.out]; exact hk0
  have HR0 : Hid (RmB w1 w.heap.size (P : Int) (K : Int) (.slice fa fn fc) (n : Int)) := by rw [← Hw1.out]; exact hr0
  have CI := fun W (hW : Below w1.heap.size w1 W) => HInv.out W (Below.trans (HWB.out w1 HK0.out) (hW.mono (by have := (HWB.out w1 HK0.out).size; exact this)))
  have p1 : Below w1.heap.size w1 w1 := Below.refl _ _
  clear hfq hF hM hlt hM0 hk0 hr0 hbx hi1 He1 hB0 hnX hz e2
  go_enter Tryd.func61, Tryd.ntmps61
  go_wp2
  rw [Hw1.out]
  refine wp_region_noPanic ?_
  refine wp_region_held_drew (S := fun W => W.cell? ⟨w.heap.size, 0, none⟩ = some (.int .i64 (P : Int)) ∧ W.cell? ⟨w.heap.size, 1, none⟩ = some (.int .i64 (K : Int)) ∧ W.cell? ⟨w.heap.size, 2, none⟩ = some (.slice fa fn fc) ∧ W.cell? ⟨w.heap.size, 3, none⟩ = some (.int .i64 (n : Int)) ∧ W.cell? ⟨B t, c, none⟩ = some (.int .i64 (d : Int))) (by kernel_rfl) (hS.out _ p1.drew) (fun hSx => ?_)
  refine wpAnyH_take (i := 0) (v := .pointer (some ⟨w.heap.size, 0, none⟩)) rfl (by kernel_rfl) (by kernel_rfl) (by kernel_rfl) (fun _ _ _ h => h) (Or.inl ⟨by rfl, fun w' hSw => by (try dsimp only at hSw); obtain ⟨hs0, hs1, hs2, hs3, hs4⟩ := hSw; go_simp⟩) hSx ?_
  try simp only [Act.put, List.setIfInBounds_toArray]
  refine wpAnyH_take (i := 1) (v := .agg #[.int .i64 (P : Int), .int .i64 (K : Int), .slice fa fn fc]) rfl (by kernel_rfl) (by kernel_rfl) (by kernel_rfl) (fun _ _ _ h => h) (Or.inl ⟨by rfl, fun w' hSw => by (try dsimp only at hSw); obtain ⟨hs0, hs1, hs2, hs3, hs4⟩ := hSw; go_simp⟩) hSx ?_
  try simp only [Act.put]
  refine wpAnyH_take (i := 2) (v := .slice (some ⟨B t, 0, none⟩) n (cp t)) rfl (by kernel_rfl) (by kernel_rfl) (by kernel_rfl) (fun _ _ _ h => h) (Or.inl ⟨by rfl, fun w' hSw => by (try dsimp only at hSw); obtain ⟨hs0, hs1, hs2, hs3, hs4⟩ := hSw; go_simp⟩) hSx ?_
  try simp only [Act.put]
  refine wpAnyH_take (i := 3) (v := .int .i64 (c : Int)) rfl (by kernel_rfl) (by kernel_rfl) (by kernel_rfl) (fun _ _ _ h => h) (Or.inl ⟨by rfl, fun w' hSw => by (try dsimp only at hSw); obtain ⟨hs0, hs1, hs2, hs3, hs4⟩ := hSw; go_simp⟩) hSx ?_
  try simp only [Act.put]
  refine wpAnyH_take (i := 4) (v := .pointer (some ⟨B t, c, none⟩)) rfl (by kernel_rfl) (by kernel_rfl) (by kernel_rfl) (fun _ _ _ h => h) (Or.inl ⟨by rfl, fun w' hSw => by (try dsimp only at hSw); obtain ⟨hs0, hs1, hs2, hs3, hs4⟩ := hSw; go_simp⟩) hSx ?_
  try simp only [Act.put]
  refine wpAnyH_take (i := 5) (v := .int .i64 (d : Int)) rfl (by kernel_rfl) (by kernel_rfl) (by kernel_rfl) (fun _ _ _ h => h) (Or.inl ⟨by rfl, fun w' hSw => by (try dsimp only at hSw); obtain ⟨hs0, hs1, hs2, hs3, hs4⟩ := hSw; go_simp⟩) hSx ?_
  try simp only [Act.put]
  refine wpAnyH_ready (rs := [6]) (by kernel_rfl) (by simp) ?_
  refine (AllReadyH.cons rfl (fun J hJ => ?_) AllReadyH.nil)
  go_simp
  refine (CI _ p1.drew).mono ?_
  rintro e w2 ⟨rfl, bv1⟩
  have p2 : Below w1.heap.size w1 w2 := Below.next p1.drew bv1
  go_wp2_with fail
  refine hJ.out _ _ (hS.out _ p2) (fun hSx => ?_)
  clear hJ J
  try simp only [Act.put, List.setIfInBounds_toArray, List.set_cons_zero, List.set_cons_succ]
  refine wpAnyH_take (i := 7) (v := .tuple #[.int .i64 (e1 : Int), .int .i64 0]) rfl (by kernel_rfl) (by kernel_rfl) (by kernel_rfl) (fun _ _ _ h => h) (Or.inl ⟨by rfl, fun w' hSw => by (try dsimp only at hSw); obtain ⟨hs0, hs1, hs2, hs3, hs4⟩ := hSw; go_simp⟩) hSx ?_
  try simp only [Act.put, List.setIfInBounds_toArray]
  refine wpAnyH_take (i := 8) (v := .int .i64 (e1 : Int)) rfl (by kernel_rfl) (by kernel_rfl) (by kernel_rfl) (fun _ _ _ h => h) (Or.inl ⟨by rfl, fun w' hSw => by (try dsimp only at hSw); obtain ⟨hs0, hs1, hs2, hs3, hs4⟩ := hSw; go_simp⟩) hSx ?_
  try simp only [Act.put]
  refine wpAnyH_take (i := 9) (v := .int .i64 0) rfl (by kernel_rfl) (by kernel_rfl) (by kernel_rfl) (fun _ _ _ h => h) (Or.inl ⟨by rfl, fun w' hSw => by (try dsimp only at hSw); obtain ⟨hs0, hs1, hs2, hs3, hs4⟩ := hSw; go_simp⟩) hSx ?_
  try simp only [Act.put]
  refine wpAnyH_ready (rs := [10]) (by kernel_rfl) (by simp) ?_
  refine (AllReadyH.cons rfl (fun J hJ => ?_) AllReadyH.nil)
  go_simp
  refine hJ.out _ _ (hS.out _ p2) (fun hSx => ?_)
  clear hJ J
  try simp only [Act.put, List.setIfInBounds_toArray, List.set_cons_zero, List.set_cons_succ]
  refine wpAnyH_ready (rs := [11]) (by kernel_rfl) (by simp) ?_
  refine (AllReadyH.cons rfl (fun J hJ => ?_) AllReadyH.nil)
  go_simp
  refine hJ.out _ _ (hS.out _ p2) (fun hSx => ?_)
  clear hJ J
  try simp only [Act.put, List.setIfInBounds_toArray, List.set_cons_zero, List.set_cons_succ]
  refine wpAnyH_done (by kernel_rfl) ?_ _
  refine NoPanic.normal ?_
  have hM2 := HM0.out.below p2
  have hK2 : KpX (RwX R B) w w2 := HK0.out.trans (KpX.of p2)
  have hR2 := HR0.out.below p2
  clear hSx hS CI HInv p1 p2 bv1 HM0 HK0 HR0 c1 c2 Hd
  go_wp2
  go_loopw [11, 12, 34] (fun _ _ jv wr => ∃ j : Nat, jv = .int .i64 (j : Int) ∧ j ≤ n ∧ Mat wr w0.heap.size g R n B cp (cst (sclTo mu M t e1 j)) ∧ KpX (RwX R B) w wr ∧ RmB wr w.heap.size (P : Int) (K : Int) (.slice fa fn fc) (n : Int)) (fun _ _ jv _ => (n - intOf jv).toNat)
  case atStart => exact ⟨0, rfl, by omega, hM2.congr (fun i j _ _ => sclTo_zero mu M t e1 i j), hK2, hR2⟩
  case round =>
    clear hM2 hK2 hR2
    obtain ⟨j, rfl, hj, hM3, hK3, hR3⟩ := hrel
    by_cases hjn : j < n
    · have hji : (j : Int) < n := by omega
      have hdj : decide ((j : Int) < (n : Int)) = true := by simp; omega
      have hcx := hM3.cell ht hjn
      rw [sclTo_at] at hcx
      have hml := HLT.out t j ht hjn
      obtain ⟨x, Hx⟩ : ∃ x, Hid (M t j = x) := ⟨_, rfl⟩
      rw [Hx.out] at hcx hml
      obtain ⟨s, Hs⟩ : ∃ s, Hid (mu e1 x = s) := ⟨_, rfl⟩
      have C := HTim.out wr (HWB.out wr hK3) e1 x he1 hml s Hs
      obtain ⟨y0, y1, y2, y3⟩ := hR3.cells
      have HNext : Hid (∀ W, Below wr.heap.size wr W → W.cell? ⟨B t, j, none⟩ = some (.int .i64 (x : Int)) ∧ W.frozen? ⟨B t, j, none⟩ = false ∧ Mat (W.setCell ⟨B t, j, none⟩ (.int .i64 (s : Int))) w0.heap.size g R n B cp (cst (sclTo mu M t e1 (j + 1))) ∧ KpX (RwX R B) w (W.setCell ⟨B t, j, none⟩ (.int .i64 (s : Int))) ∧ RmB (W.setCell ⟨B t, j, none⟩ (.int .i64 (s : Int))) w.heap.size (P : Int) (K : Int) (.slice fa fn fc) (n : Int)) := fun W b => by
        have h4 := hM3.below b
        have k4 : KpX (RwX R B) w W := hK3.trans (KpX.of b)
        refine ⟨?_, h4.frozen ht j, (h4.set ht j (s : Int)).congr (fun r y _ _ => sclTo_succ (by rw [Hx.out]; exact Hs.out) r y), k4.set (show RwX R B (B t) from ⟨t, ht, rfl⟩) _, (heap_setCell_other W _ _ _ (fun e => HNX.out ⟨t, ht, e⟩)).trans (hR3.below b)⟩
        have := h4.cell ht hjn
        rw [sclTo_at, Hx.out] at this
        exact this
      clear hM3 hK3 hR3
      go_wp2_with (go_at_call 75; refine C.mono ?_; rintro e w3 ⟨rfl, b3⟩; obtain ⟨n1, n2, n3, n4, n5⟩ := HNext.out w3 b3; clear C)
      go_roundw
      case rel => exact ⟨j + 1, by go_num, by omega, n3, n4, n5⟩
      case measure => simp [intOf]; omega
    · have hdj : decide ((j : Int) < (n : Int)) = false := by simp; omega
      have HJn : Hid (j = n) := (by omega : j = n)
      obtain ⟨N, HN⟩ : ∃ N, Hid (sclF mu M t e1 = N) := ⟨_, rfl⟩
      have hM4 : Mat wr w0.heap.size g R n B cp (cst N) := hM3.congr (fun i x _ hx => by rw [HJn.out, ← HN.out]; exact sclTo_full i x hx)
      have HLN : Hid (∀ i j, i < R → j < n → N i j < q) := fun i j hi hj => by
        rw [← HN.out]
        unfold sclF
        split
        · exact HQm.out _ _ he1 (HLT.out t j ht hj)
        · exact HLT.out i j hi hj
      clear hM3
      go_wp2
      go_loopw [13, 14, 15, 16, 17, 49, 65] (fun _ _ _ _ _ iv _ wr => ∃ i : Nat, iv = .int .i64 (i : Int) ∧ i ≤ R ∧ Mat wr w0.heap.size g R n B cp (cst (clrTo ad mu ng N t c i 0)) ∧ KpX (RwX R B) w wr ∧ RmB wr w.heap.size (P : Int) (K : Int) (.slice fa fn fc) (n : Int)) (fun _ _ _ _ _ iv _ _ => (R - intOf iv).toNat)
      case atStart => exact ⟨0, rfl, by omega, hM4.congr (fun i j _ _ => clrTo_zero ad mu ng N t c i j), hK3, hR3⟩
      case round =>
        clear hM4 hK3 hR3
        obtain ⟨i, rfl, hi, hM5, hK5, hR5⟩ := hrel
        by_cases hiR : i < R
        · have hii : (i : Int) < R := by omega
          have hdi : decide ((i : Int) < (R : Int)) = true := by simp; omega
          have hci5 := hM5.hd hiR
          by_cases hit : i = t
          · have hie : ((i : Int) == (t : Int)) = true := by simp; omega
            have hM6 := hM5.congr (fun r x _ _ => clrTo_skip r x hit)
            clear hit hM5
            go_wp2
            go_roundw
            case rel => exact ⟨i + 1, by go_num, by omega, hM6, hK5, hR5⟩
            case measure => simp [intOf]; omega
          · have hie : ((i : Int) == (t : Int)) = false := by simp; omega
            have hcf := hM5.cell hiR hc
            rw [clrTo_at _ _ _ _ _ _ _ _ _ (Nat.zero_le _)] at hcf
            have hlf := HLN.out i c hiR hc
            obtain ⟨f, Hf⟩ : ∃ f, Hid (N i c = f) := ⟨_, rfl⟩
            rw [Hf.out] at hcf hlf
            obtain ⟨u, Hu⟩ : ∃ u, Hid (ng f = u) := ⟨_, rfl⟩
            have hlu : u < q := by rw [← Hu.out]; exact HQn.out f hlf
            have CL := fun W (hW : Below wr.heap.size wr W) => HLes.out W (HWB.out W (hK5.trans (KpX.of hW))) f hlf u Hu
            have hS : Hid (∀ W, Below wr.heap.size wr W → (W.cell? ⟨w.heap.size, 0, none⟩ = some (.int .i64 (P : Int)) ∧ W.cell? ⟨w.heap.size, 1, none⟩ = some (.int .i64 (K : Int)) ∧ W.cell? ⟨w.heap.size, 2, none⟩ = some (.slice fa fn fc) ∧ W.cell? ⟨w.heap.size, 3, none⟩ = some (.int .i64 (n : Int)) ∧ W.cell? ⟨B i, c, none⟩ = some (.int .i64 (f : Int)))) := fun W hW => by
              obtain ⟨y0, y1, y2, y3⟩ := (hR5.below hW).cells
              exact ⟨y0, y1, y2, y3, (hW.cell (World.block_lt_of_cell? _ _ hcf)).trans hcf⟩
            have HM5 : Hid (Mat wr w0.heap.size g R n B cp (cst (clrTo ad mu ng N t c i 0))) := hM5
            have HK5 : Hid (KpX (RwX R B) w wr) := hK5
            have HR5 : Hid (RmB wr w.heap.size (P : Int) (K : Int) (.slice fa fn fc) (n : Int)) := hR5
            have p1 : Below wr.heap.size wr wr := Below.refl _ _
            clear hM5 hK5 hR5 hcf
            go_wp2
            refine wp_region_noPanic ?_
            refine wp_region_held_drew (S := fun W => W.cell? ⟨w.heap.size, 0, none⟩ = some (.int .i64 (P : Int)) ∧ W.cell? ⟨w.heap.size, 1, none⟩ = some (.int .i64 (K : Int)) ∧ W.cell? ⟨w.heap.size, 2, none⟩ = some (.slice fa fn fc) ∧ W.cell? ⟨w.heap.size, 3, none⟩ = some (.int .i64 (n : Int)) ∧ W.cell? ⟨B i, c, none⟩ = some (.int .i64 (f : Int))) (by kernel_rfl) (hS.out _ p1.drew) (fun hSx => ?_)
            refine wpAnyH_take (i := 0) (v := .agg #[.int .i64 (P : Int), .int .i64 (K : Int), .slice fa fn fc, .int .i64 (n : Int)]) rfl (by kernel_rfl) (by kernel_rfl) (by kernel_rfl) (fun _ _ _ h => h) (Or.inl ⟨by rfl, fun w' hSw => by (try dsimp only at hSw); obtain ⟨hs0, hs1, hs2, hs3, hs4⟩ := hSw; go_simp⟩) hSx ?_
            try simp only [Act.put, List.setIfInBounds_toArray]
            refine wpAnyH_take (i := 1) (v := .slice (some ⟨B i, 0, none⟩) n (cp i)) rfl (by kernel_rfl) (by kernel_rfl) (by kernel_rfl) (fun _ _ _ h => h) (Or.inl ⟨by rfl, fun w' hSw => by (try dsimp only at hSw); obtain ⟨hs0, hs1, hs2, hs3, hs4⟩ := hSw; go_simp⟩) hSx ?_
            try simp only [Act.put]
            refine wpAnyH_take (i := 2) (v := .int .i64 (c : Int)) rfl (by kernel_rfl) (by kernel_rfl) (by kernel_rfl) (fun _ _ _ h => h) (Or.inl ⟨by rfl, fun w' hSw => by (try dsimp only at hSw); obtain ⟨hs0, hs1, hs2, hs3, hs4⟩ := hSw; go_simp⟩) hSx ?_
            try simp only [Act.put]
            refine wpAnyH_take (i := 3) (v := .pointer (some ⟨B i, c, none⟩)) rfl (by kernel_rfl) (by kernel_rfl) (by kernel_rfl) (fun _ _ _ h => h) (Or.inl ⟨by rfl, fun w' hSw => by (try dsimp only at hSw); obtain ⟨hs0, hs1, hs2, hs3, hs4⟩ := hSw; go_simp⟩) hSx ?_
            try simp only [Act.put]
            refine wpAnyH_take (i := 4) (v := .int .i64 (f : Int)) rfl (by kernel_rfl) (by kernel_rfl) (by kernel_rfl) (fun _ _ _ h => h) (Or.inl ⟨by rfl, fun w' hSw => by (try dsimp only at hSw); obtain ⟨hs0, hs1, hs2, hs3, hs4⟩ := hSw; go_simp⟩) hSx ?_
            try simp only [Act.put]
            refine wpAnyH_ready (rs := [5]) (by kernel_rfl) (by simp) ?_
            refine (AllReadyH.cons rfl (fun J hJ => ?_) AllReadyH.nil)
            go_simp
            refine (CL _ p1.drew).mono ?_
            rintro e w3 ⟨rfl, bv1⟩
            have p2 : Below wr.heap.size wr w3 := Below.next p1.drew bv1
            go_wp2_with fail
            refine hJ.out _ _ (hS.out _ p2) (fun hSx => ?_)
            clear hJ J
            try simp only [Act.put, List.setIfInBounds_toArray, List.set_cons_zero, List.set_cons_succ]
            refine wpAnyH_ready (rs := [6]) (by kernel_rfl) (by simp) ?_
            refine (AllReadyH.cons rfl (fun J hJ => ?_) AllReadyH.nil)
            go_simp
            refine hJ.out _ _ (hS.out _ p2) (fun hSx => ?_)
            clear hJ J
            try simp only [Act.put, List.setIfInBounds_toArray, List.set_cons_zero, List.set_cons_succ]
            refine wpAnyH_done (by kernel_rfl) ?_ _
            refine NoPanic.normal ?_
            have hM6 := HM5.out.below p2
            have hK6 : KpX (RwX R B) w w3 := HK5.out.trans (KpX.of p2)
            have hR6 := HR5.out.below p2
            clear hSx hS CL p1 p2 bv1 HM5 HK5 HR5
            go_wp2
            go_loopw [16, 17, 65] (fun _ _ jv wr => ∃ j : Nat, jv = .int .i64 (j : Int) ∧ j ≤ n ∧ Mat wr w0.heap.size g R n B cp (cst (clrTo ad mu ng N t c i j)) ∧ KpX (RwX R B) w wr ∧ RmB wr w.heap.size (P : Int) (K : Int) (.slice fa fn fc) (n : Int)) (fun _ _ jv _ => (n - intOf jv).toNat)
            case atStart => exact ⟨0, rfl, by omega, hM6, hK6, hR6⟩
            case round =>
              clear hM6 hK6 hR6
              obtain ⟨x, rfl, hx, hM7, hK7, hR7⟩ := hrel
              by_cases hxn : x < n
              · have hxi : (x : Int) < n := by omega
                have hdx : decide ((x : Int) < (n : Int)) = true := by simp; omega
                have k1 := hM7.cell hiR hxn
                rw [clrTo_at _ _ _ _ _ _ _ _ _ (Nat.le_refl _)] at k1
                have k2 := hM7.cell ht hxn
                rw [clrTo_lead] at k2
                have l1 := HLN.out i x hiR hxn
                have l2 := HLN.out t x ht hxn
                obtain ⟨y, Hy⟩ : ∃ y, Hid (N i x = y) := ⟨_, rfl⟩
                obtain ⟨z, Hz⟩ : ∃ z, Hid (N t x = z) := ⟨_, rfl⟩
                rw [Hy.out] at k1 l1
                rw [Hz.out] at k2 l2
                obtain ⟨s1, Hs1⟩ : ∃ s, Hid (mu u z = s) := ⟨_, rfl⟩
                have ls1 : s1 < q := by rw [← Hs1.out]; exact HQm.out _ _ hlu l2
                obtain ⟨s2, Hs2⟩ : ∃ s, Hid (ad y s1 = s) := ⟨_, rfl⟩
                have CT := fun W (hW : Below wr.heap.size wr W) => HTim.out W (HWB.out W (hK7.trans (KpX.of hW))) u z hlu l2 s1 Hs1
                have CA := fun W (hW : Below wr.heap.size wr W) => HPlu.out W (HWB.out W (hK7.trans (KpX.of hW))) y s1 l1 ls1 s2 Hs2
                have hS : Hid (∀ W, Below wr.heap.size wr W → (W.cell? ⟨w.heap.size, 0, none⟩ = some (.int .i64 (P : Int)) ∧ W.cell? ⟨w.heap.size, 1, none⟩ = some (.int .i64 (K : Int)) ∧ W.cell? ⟨w.heap.size, 2, none⟩ = some (.slice fa fn fc) ∧ W.cell? ⟨w.heap.size, 3, none⟩ = some (.int .i64 (n : Int)))) := fun W hW => (hR7.below hW).cells
                have HNext : Hid (∀ W, Below wr.heap.size wr W → W.cell? ⟨B i, x, none⟩ = some (.int .i64 (y : Int)) ∧ W.frozen? ⟨B i, x, none⟩ = false ∧ Mat (W.setCell ⟨B i, x, none⟩ (.int .i64 (s2 : Int))) w0.heap.size g R n B cp (cst (clrTo ad mu ng N t c i (x + 1))) ∧ KpX (RwX R B) w (W.setCell ⟨B i, x, none⟩ (.int .i64 (s2 : Int))) ∧ RmB (W.setCell ⟨B i, x, none⟩ (.int .i64 (s2 : Int))) w.heap.size (P : Int) (K : Int) (.slice fa fn fc) (n : Int)) := fun W b => by
                  have h4 := hM7.below b
                  have k4 : KpX (RwX R B) w W := hK7.trans (KpX.of b)
                  refine ⟨(b.cell (World.block_lt_of_cell? _ _ k1)).trans k1, h4.frozen hiR x, (h4.set hiR x (s2 : Int)).congr (fun r y' _ _ => clrTo_succ hit (by rw [Hy.out, Hf.out, Hu.out, Hz.out, Hs1.out]; exact Hs2.out) r y'), k4.set (show RwX R B (B i) from ⟨i, hiR, rfl⟩) _, (heap_setCell_other W _ _ _ (fun e => HNX.out ⟨i, hiR, e⟩)).trans (hR7.below b)⟩
                have p1 : Below wr.heap.size wr wr := Below.refl _ _
                clear hM7 hK7 hR7
                go_wp2
                refine wp_region_noPanic ?_
                refine wp_region_held_drew (S := fun W => W.cell? ⟨w.heap.size, 0, none⟩ = some (.int .i64 (P : Int)) ∧ W.cell? ⟨w.heap.size, 1, none⟩ = some (.int .i64 (K : Int)) ∧ W.cell? ⟨w.heap.size, 2, none⟩ = some (.slice fa fn fc) ∧ W.cell? ⟨w.heap.size, 3, none⟩ = some (.int .i64 (n : Int))) (by kernel_rfl) (hS.out _ p1.drew) (fun hSx => ?_)
                refine wpAnyH_take (i := 0) (v := .slice (some ⟨B i, 0, none⟩) n (cp i)) rfl (by kernel_rfl) (by kernel_rfl) (by kernel_rfl) (fun _ _ _ h => h) (Or.inl ⟨by rfl, fun w' hSw => by (try dsimp only at hSw); obtain ⟨hs0, hs1, hs2, hs3⟩ := hSw; go_simp⟩) hSx ?_
                try simp only [Act.put, List.setIfInBounds_toArray]
                refine wpAnyH_take (i := 1) (v := .int .i64 (x : Int)) rfl (by kernel_rfl) (by kernel_rfl) (by kernel_rfl) (fun _ _ _ h => h) (Or.inl ⟨by rfl, fun w' hSw => by (try dsimp only at hSw); obtain ⟨hs0, hs1, hs2, hs3⟩ := hSw; go_simp⟩) hSx ?_
                try simp only [Act.put]
                refine wpAnyH_take (i := 2) (v := .agg #[.int .i64 (P : Int), .int .i64 (K : Int), .slice fa fn fc, .int .i64 (n : Int)]) rfl (by kernel_rfl) (by kernel_rfl) (by kernel_rfl) (fun _ _ _ h => h) (Or.inl ⟨by rfl, fun w' hSw => by (try dsimp only at hSw); obtain ⟨hs0, hs1, hs2, hs3⟩ := hSw; go_simp⟩) hSx ?_
                try simp only [Act.put]
                refine wpAnyH_take (i := 3) (v := .slice (some ⟨B i, 0, none⟩) n (cp i)) rfl (by kernel_rfl) (by kernel_rfl) (by kernel_rfl) (fun _ _ _ h => h) (Or.inl ⟨by rfl, fun w' hSw => by (try dsimp only at hSw); obtain ⟨hs0, hs1, hs2, hs3⟩ := hSw; go_simp⟩) hSx ?_
                try simp only [Act.put]
                refine wpAnyH_take (i := 4) (v := .int .i64 (x : Int)) rfl (by kernel_rfl) (by kernel_rfl) (by kernel_rfl) (fun _ _ _ h => h) (Or.inl ⟨by rfl, fun w' hSw => by (try dsimp only at hSw); obtain ⟨hs0, hs1, hs2, hs3⟩ := hSw; go_simp⟩) hSx ?_
                try simp only [Act.put]
                refine wpAnyH_take (i := 5) (v := .pointer (some ⟨B i, x, none⟩)) rfl (by kernel_rfl) (by kernel_rfl) (by kernel_rfl) (fun _ _ _ h => h) (Or.inl ⟨by rfl, fun w' hSw => by (try dsimp only at hSw); obtain ⟨hs0, hs1, hs2, hs3⟩ := hSw; go_simp⟩) hSx ?_
                try simp only [Act.put]
                refine wpAnyH_take (i := 7) (v := .agg #[.int .i64 (P : Int), .int .i64 (K : Int), .slice fa fn fc, .int .i64 (n : Int)]) rfl (by kernel_rfl) (by kernel_rfl) (by kernel_rfl) (fun _ _ _ h => h) (Or.inl ⟨by rfl, fun w' hSw => by (try dsimp only at hSw); obtain ⟨hs0, hs1, hs2, hs3⟩ := hSw; go_simp⟩) hSx ?_
                try simp only [Act.put]
                refine wpAnyH_take (i := 8) (v := .int .i64 (u : Int)) rfl (by kernel_rfl) (by kernel_rfl) (by kernel_rfl) (fun _ _ _ h => h) (Or.inl ⟨by rfl, fun w' hSw => by (try dsimp only at hSw); obtain ⟨hs0, hs1, hs2, hs3⟩ := hSw; go_simp⟩) hSx ?_
                try simp only [Act.put]
                refine wpAnyH_take (i := 9) (v := .int .i64 (z : Int)) rfl (by kernel_rfl) (by kernel_rfl) (by kernel_rfl) (fun _ _ _ h => h) (Or.inl ⟨by rfl, fun w' hSw => by (try dsimp only at hSw); obtain ⟨hs0, hs1, hs2, hs3⟩ := hSw; go_simp⟩) hSx ?_
                try simp only [Act.put]
                refine wpAnyH_ready (rs := [6, 10]) (by kernel_rfl) (by simp) ?_
                refine (AllReadyH.cons rfl (fun J hJ => ?_) (AllReadyH.cons rfl (fun J hJ => ?_) AllReadyH.nil))
                · have m1 := (HNext.out _ p1.drew).1
                  go_simp
                  refine hJ.out _ _ (hS.out _ p1.drew) (fun hSx => ?_)
                  clear hJ J
                  try simp only [Act.put, List.setIfInBounds_toArray, List.set_cons_zero, List.set_cons_succ]
                  refine wpAnyH_ready (rs := [10]) (by kernel_rfl) (by simp) ?_
                  refine (AllReadyH.cons rfl (fun J hJ => ?_) AllReadyH.nil)
                  go_simp
                  refine (CT _ p1.drew).mono ?_
                  rintro e v1 ⟨rfl, b1⟩
                  have pb1 : Below wr.heap.size wr v1 := Below.next p1.drew b1
                  go_wp2_with fail
                  refine hJ.out _ _ (hS.out _ pb1) (fun hSx => ?_)
                  clear hJ J
                  try simp only [Act.put, List.setIfInBounds_toArray, List.set_cons_zero, List.set_cons_succ]
                  refine wpAnyH_ready (rs := [11]) (by kernel_rfl) (by simp) ?_
                  refine (AllReadyH.cons rfl (fun J hJ => ?_) AllReadyH.nil)
                  go_simp
                  refine (CA _ pb1).mono ?_
                  rintro e v2 ⟨rfl, b2⟩
                  have pb2 : Below wr.heap.size wr v2 := Below.next pb1 b2
                  go_wp2_with fail
                  refine hJ.out _ _ (hS.out _ pb2) (fun hSx => ?_)
                  clear hJ J
                  try simp only [Act.put, List.setIfInBounds_toArray, List.set_cons_zero, List.set_cons_succ]
                  refine wpAnyH_take (i := 12) (v := .pointer (some ⟨B i, x, none⟩)) rfl (by kernel_rfl) (by kernel_rfl) (by kernel_rfl) (fun _ _ _ h => h) (Or.inl ⟨by rfl, fun w' hSw => by (try dsimp only at hSw); obtain ⟨hs0, hs1, hs2, hs3⟩ := hSw; go_simp⟩) hSx ?_
                  try simp only [Act.put, List.setIfInBounds_toArray]
                  obtain ⟨n1, n2, n3, n4, n5⟩ := HNext.out _ pb2
                  refine wpAnyH_ready (rs := [13]) (by kernel_rfl) (by simp) ?_
                  refine (AllReadyH.cons rfl (fun J hJ => ?_) AllReadyH.nil)
                  go_simp
                  refine hJ.out _ _ (n5.cells) (fun hSx => ?_)
                  clear hJ J
                  try simp only [Act.put, List.setIfInBounds_toArray, List.set_cons_zero, List.set_cons_succ]
                  refine wpAnyH_done (by kernel_rfl) ?_ _
                  refine NoPanic.normal ?_
                  clear hSx hS CT CA
                  go_wp2
                  go_roundw
                  case rel => exact ⟨x + 1, by go_num, by omega, n3, n4, n5⟩
                  case measure => simp [intOf]; omega
                · go_simp
                  refine (CT _ p1.drew).mono ?_
                  rintro e v1 ⟨rfl, b1⟩
                  have pb1 : Below wr.heap.size wr v1 := Below.next p1.drew b1
                  go_wp2_with fail
                  refine hJ.out _ _ (hS.out _ pb1) (fun hSx => ?_)
                  clear hJ J
                  try simp only [Act.put, List.setIfInBounds_toArray, List.set_cons_zero, List.set_cons_succ]
                  refine wpAnyH_ready (rs := [6]) (by kernel_rfl) (by simp) ?_
                  refine (AllReadyH.cons rfl (fun J hJ => ?_) AllReadyH.nil)
                  have m1 := (HNext.out _ pb1).1
                  go_simp
                  refine hJ.out _ _ (hS.out _ pb1) (fun hSx => ?_)
                  clear hJ J
                  try simp only [Act.put, List.setIfInBounds_toArray, List.set_cons_zero, List.set_cons_succ]
                  refine wpAnyH_ready (rs := [11]) (by kernel_rfl) (by simp) ?_
                  refine (AllReadyH.cons rfl (fun J hJ => ?_) AllReadyH.nil)
                  go_simp
                  refine (CA _ pb1).mono ?_
                  rintro e v2 ⟨rfl, b2⟩
                  have pb2 : Below wr.heap.size wr v2 := Below.next pb1 b2
                  go_wp2_with fail
                  refine hJ.out _ _ (hS.out _ pb2) (fun hSx => ?_)
                  clear hJ J
                  try simp only [Act.put, List.setIfInBounds_toArray, List.set_cons_zero, List.set_cons_succ]
                  refine wpAnyH_take (i := 12) (v := .pointer (some ⟨B i, x, none⟩)) rfl (by kernel_rfl) (by kernel_rfl) (by kernel_rfl) (fun _ _ _ h => h) (Or.inl ⟨by rfl, fun w' hSw => by (try dsimp only at hSw); obtain ⟨hs0, hs1, hs2, hs3⟩ := hSw; go_simp⟩) hSx ?_
                  try simp only [Act.put, List.setIfInBounds_toArray]
                  obtain ⟨n1, n2, n3, n4, n5⟩ := HNext.out _ pb2
                  refine wpAnyH_ready (rs := [13]) (by kernel_rfl) (by simp) ?_
                  refine (AllReadyH.cons rfl (fun J hJ => ?_) AllReadyH.nil)
                  go_simp
                  refine hJ.out _ _ (n5.cells) (fun hSx => ?_)
                  clear hJ J
                  try simp only [Act.put, List.setIfInBounds_toArray, List.set_cons_zero, List.set_cons_succ]
                  refine wpAnyH_done (by kernel_rfl) ?_ _
                  refine NoPanic.normal ?_
                  clear hSx hS CT CA
                  go_wp2
                  go_roundw
                  case rel => exact ⟨x + 1, by go_num, by omega, n3, n4, n5⟩
                  case measure => simp [intOf]; omega
              · have hdx : decide ((x : Int) < (n : Int)) = false := by simp; omega
                have HXn : Hid (x = n) := (by omega : x = n)
                have hM8 : Mat wr w0.heap.size g R n B cp (cst (clrTo ad mu ng N t c (i + 1) 0)) := hM7.congr (fun r y _ hy => by rw [HXn.out]; exact clrTo_row r y hy)
                clear hM7
                go_wp2
                go_roundw
                case rel => exact ⟨i + 1, by go_num, by omega, hM8, hK7, hR7⟩
                case measure => simp [intOf]; omega
        · have hdi : decide ((i : Int) < (R : Int)) = false := by simp; omega
          have HIR : Hid (i = R) := (by omega : i = R)
          have hM9 : Mat wr w0.heap.size g R n B cp (cst (clrF ad mu ng N t c)) := hM5.congr (fun r y hr _ => by rw [HIR.out]; exact clrTo_full r y hr)
          rw [← HN.out] at hM9
          clear hM5
          go_wp2
          go_end0
          exact ⟨rfl, ⟨e1, he1, HI1.out, hM9⟩, hK5⟩
end Go.Proofs.YtgdkfbgehbdkjabDoor

/- The walk of the room's basis. -/
namespace Go.Proofs.YtgdkfbgehbdkjabDoor
open Go.RowKit

theorem run_makeR (n : Nat) (hn : n ≤ 100000) (w : World) : (Instr.makeSlice 31 (.int .i64 (n : Int)) (.int .i64 (n : Int))).run Tryd.prog w = .ok (.slice (some ⟨w.heap.size, 0, none⟩) n n) (w.alloc (.cells (madeCells #[.slice none 0 0] n) 22)) := by
  obtain ⟨i4, hi, hz0, hz1, hz2⟩ := info36
  have h := run_make (P := Tryd.prog) w 31 22 i4 (.slice none 0 0) undR hi hz0 .i64 .i64 n n (by omega) (by omega) (by rw [hz2]; omega) (by omega)
  simpa [hz1, Value.cells] using h
/-- A block of R slices, of which some are rows of one's own. -/
def Rm (w : World) (g R : Nat) : Prop := ∃ cur, w.heap[g]? = some (.cells cur 22 (0, 0)) ∧ cur.size = R
theorem Rm.lt {w : World} {g R : Nat} (h : Rm w g R) : g < w.heap.size := by obtain ⟨c, h, _⟩ := h; exact (Array.getElem?_eq_some_iff.1 h).1
theorem Rm.below {w w' : World} {g R : Nat} (h : Rm w g R) (b : Below w.heap.size w w') : Rm w' g R := by
  have := h.lt
  obtain ⟨c, h, e⟩ := h
  exact ⟨c, (b.block g this).trans h, e⟩
theorem Rm.set {w : World} {g R : Nat} (h : Rm w g R) (i : Nat) (u : Value) : Rm (w.setCell ⟨g, i, none⟩ u) g R := by
  obtain ⟨c, h, e⟩ := h
  exact ⟨_, heap_setCell_same w g i _ _ _ h, by simpa using e⟩
theorem Rm.cell {w : World} {g R : Nat} (h : Rm w g R) {i : Nat} (hi : i < R) : ∃ u, w.cell? ⟨g, i, none⟩ = some u := by
  obtain ⟨c, h, e⟩ := h
  refine ⟨c[i]'(by omega), ?_⟩
  rw [cell_of_row w g i _ _ _ h]
  simp [show i < c.size by omega]
theorem Rm.frozen {w : World} {g R : Nat} (h : Rm w g R) (i : Nat) : w.frozen? ⟨g, i, none⟩ = false := by
  obtain ⟨c, h, e⟩ := h
  exact frozen_of_row w g i _ _ h
theorem rm_new (w : World) (R : Nat) : Rm (w.alloc (.cells (madeCells #[.slice none 0 0] R) 22)) w.heap.size R := ⟨_, heap_alloc_new w _, by rw [size_madeCells]⟩
theorem Mat.zer {w : World} {base g R n : Nat} {A : Nat → Nat → Int} (h : Rm w g R) : Mat w base g 0 n (fun _ => 0) (fun _ => 0) A := by
  obtain ⟨c, h, e⟩ := h
  exact ⟨⟨c, h, fun i hi => by omega⟩, fun i hi => by omega, fun i j hi => by omega, fun i hi => by omega⟩
/-- One row more. -/
theorem Mat.more {w : World} {base g R n i b cap : Nat} {B cp : Nat → Nat} {A : Nat → Nat → Int} (h : Mat w base g i n B cp A) (hr : Rm w g R) (hi : i < R) (ho : Own w b n (A i)) (hb : base ≤ b) (hg : b ≠ g) (hn : ∀ j, j < i → B j ≠ b) :
    Mat (w.setCell ⟨g, i, none⟩ (.slice (some ⟨b, 0, none⟩) n cap)) base g (i + 1) n (fun k => if k = i then b else B k) (fun k => if k = i then cap else cp k) A := by
  obtain ⟨cur, h1, h2⟩ := h.out
  obtain ⟨cur', h1', hs⟩ := hr
  rw [h1] at h1'
  obtain rfl : cur = cur' := by simpa using h1'
  refine ⟨⟨_, heap_setCell_same _ _ _ _ _ _ h1, fun k hk => ?_⟩, fun k hk => ?_, fun k m hk hm e => ?_, fun k hk => ?_⟩
  · rw [Array.getElem?_setIfInBounds]
    by_cases e : i = k
    · subst e
      rw [if_pos rfl, if_pos (by omega)]
      simp
    · rw [if_neg e, h2 k (by omega)]
      simp [Ne.symm e]
  · show Own _ (if k = i then b else B k) n (A k)
    by_cases e : k = i
    · rw [if_pos e, e]
      exact ho.other _ _ hg
    · rw [if_neg e]
      exact (h.row k (by omega)).other _ _ (h.lo k (by omega)).2
  · have e' : (if k = i then b else B k) = (if m = i then b else B m) := e
    by_cases e1 : k = i
    · by_cases e2 : m = i
      · omega
      · rw [if_pos e1, if_neg e2] at e'
        exact absurd e'.symm (hn m (by omega))
    · by_cases e2 : m = i
      · rw [if_neg e1, if_pos e2] at e'
        exact absurd e' (hn k (by omega))
      · rw [if_neg e1, if_neg e2] at e'
        exact h.sep k m (by omega) (by omega) e'
  · show base ≤ (if k = i then b else B k) ∧ (if k = i then b else B k) ≠ g
    by_cases e : k = i
    · rw [if_pos e]; exact ⟨hb, hg⟩
    · rw [if_neg e]; exact h.lo k (by omega)
/-- The rows from t on, as they are read. -/
def rwZ (m n t : Nat) (M : Nat → Nat → Nat) : List (List Int) := (List.range m).map fun i => (List.range n).map (cst M (t + i))
theorem rwZ_len (m n t : Nat) (M : Nat → Nat → Nat) : (rwZ m n t M).length = m := by simp [rwZ]
theorem rwZ_at {m n t i : Nat} {M : Nat → Nat → Nat} {l : List Int} (h : (rwZ m n t M)[i]? = some l) : i < m ∧ l = (List.range n).map (cst M (t + i)) := by
  have hi : i < m := by have := (List.getElem?_eq_some_iff.1 h).1; simpa [rwZ] using this
  refine ⟨hi, ?_⟩
  have : (rwZ m n t M)[i]? = some ((List.range n).map (cst M (t + i))) := by simp [rwZ, hi]
  rw [this] at h
  exact (Option.some.inj h).symm
theorem Mat.rwAt {w : World} {base g R n t m : Nat} {B cp : Nat → Nat} {M : Nat → Nat → Nat} (h : Mat w base g R n B cp (cst M)) (hm : t + m ≤ R) (cc : Nat) : Rw w (.slice (some ⟨g, t, none⟩) m cc) (rwZ m n t M) := by
  refine ⟨_, cc, by rw [rwZ_len], fun i l hl => ?_⟩
  obtain ⟨hi, rfl⟩ := rwZ_at hl
  refine ⟨g, t, _, rfl, h.hd (show t + i < R by omega), ?_⟩
  exact (h.row (t + i) (by omega)).sl _
theorem rwZ_zero (m n : Nat) (M : Nat → Nat → Nat) : rwZ m n 0 M = toZ (rwF m n M) := by
  unfold rwZ toZ rwF ofF cst
  rw [List.map_map]
  refine List.map_congr_left fun i _ => ?_
  rw [Function.comp, List.map_map]
  refine List.map_congr_left fun j _ => ?_
  simp
theorem rwZ_col {m n t i c : Nat} {M : Nat → Nat → Nat} {l : List Int} (h : (rwZ m n t M)[i]? = some l) (hc : c < n) : l.getD c 0 = (M (t + i) c : Int) := by
  obtain ⟨hi, rfl⟩ := rwZ_at h
  simp [hc, cst]
theorem swp_cst (M : Nat → Nat → Nat) (a k i j : Nat) : swpI (cst M) a k i j = cst (swpF M a k) i j := by
  unfold swpI cst swpF
  split
  · rfl
  · split <;> rfl
/-- The rows of a list, as a table. -/
def tbl (S : List (List Nat)) : Nat → Nat → Nat := fun i j => (S.getD i []).getD j 0
theorem tbl_rows {q n : Nat} {S : List (List Nat)} (h : Rws q n S) : rwF S.length n (tbl S) = S := by
  refine List.ext_getElem (by simp [rwF]) fun i h1 h2 => ?_
  have : (rwF S.length n (tbl S))[i] = ofF n (tbl S i) := by simp [rwF]
  rw [this]
  unfold tbl
  have e : S.getD i [] = S[i] := by simp [List.getD_eq_getElem?_getD, h2]
  rw [e]
  exact ofF_getD _ (h _ (List.getElem_mem h2)).len
theorem tbl_lt {q n : Nat} {S : List (List Nat)} (h : Rws q n S) (hq : 0 < q) : ∀ i j, i < S.length → j < n → tbl S i j < q := fun i j hi _ => by
  unfold tbl
  have e : S.getD i [] = S[i] := by simp [List.getD_eq_getElem?_getD, hi]
  rw [e]
  exact (h _ (List.getElem_mem hi)).at hq j
/-- The row's block is none of a room's. -/
theorem Mat.apart {w : World} {base g R n b : Nat} {B cp : Nat → Nat} {A : Nat → Nat → Int} {p k m : Int} {v : Value} (h : Mat w base g R n B cp A) (hr : RmB w b p k v m) : ¬ RwX R B b := fun ⟨i, hi, e⟩ => by
  obtain ⟨cur, h1, _⟩ := h.row i hi
  rw [← e, hr] at h1
  simp at h1
theorem Mat.apart_g {w : World} {base g R n b : Nat} {B cp : Nat → Nat} {A : Nat → Nat → Int} {p k m : Int} {v : Value} (h : Mat w base g R n B cp A) (hr : RmB w b p k v m) : b ≠ g := fun e => by
  obtain ⟨cur, h1, _⟩ := h.out
  rw [← e, hr] at h1
  simp at h1
/-- All but lists of lists of rows is as it was. -/
def K31 (w W : World) : Prop := ∀ (b : Nat) (c : Array Value) (k : TypeId), w.heap[b]? = some (.cells c k (0, 0)) → k ≠ 31 → W.heap[b]? = w.heap[b]?
theorem K31.of {w W : World} (b : Below w.heap.size w W) : K31 w W := fun g _ _ h _ => b.block g (Array.getElem?_eq_some_iff.1 h).1
theorem K31.trans {w W V : World} (h : K31 w W) (k : K31 W V) : K31 w V := fun b c t e n => by
  have h1 := h b c t e n
  exact (k b c t (h1.trans e) n).trans h1
/-- Rows that are read, also where lists of lists of rows have grown since. -/
def RwT (w : World) (x : Value) (ls : List (List Nat)) : Prop := ∀ W, K31 w W → Rw W x (toZ ls)
theorem RwT.rw {w : World} {x : Value} {ls : List (List Nat)} (h : RwT w x ls) : Rw w x (toZ ls) := h w (K31.of (Below.refl _ _))
theorem RwT.k31 {w W : World} {x : Value} {ls : List (List Nat)} (h : RwT w x ls) (k : K31 w W) : RwT W x ls := fun V hV => h V (k.trans hV)
theorem RwT.below {w W : World} {x : Value} {ls : List (List Nat)} (h : RwT w x ls) (b : Below w.heap.size w W) : RwT W x ls := h.k31 (K31.of b)
theorem Mat.k31 {w W : World} {base g R n : Nat} {B cp : Nat → Nat} {A : Nat → Nat → Int} (h : Mat w base g R n B cp A) (k : K31 w W) : Mat W base g R n B cp A := by
  refine ⟨?_, fun i hi => ?_, h.sep, h.lo⟩
  · obtain ⟨cur, h1, h2⟩ := h.out
    exact ⟨cur, (k g _ _ h1 (by decide)).trans h1, h2⟩
  · obtain ⟨cur, h1, h2⟩ := h.row i hi
    exact ⟨cur, (k _ _ _ h1 (by decide)).trans h1, h2⟩
/-- What basis answers. -/
def BaA (q : Nat) (ad mu : Nat → Nat → Nat) (n : Nat) (S : List (List Nat)) (e : Ending) (w' : World) : Prop := ∃ x ls, e = .returned x ∧ BasIs q ad mu n (Spn q ad mu n S) ls ∧ ls.length ≤ S.length ∧ RwT w' x ls
set_option maxRecDepth 100000 in
set_option maxHeartbeats 16000000 in
theorem basis_any (P K n : Nat) (l : List Int) (v u : Value) (S : List (List Nat)) (w : World) (hF : Fld P K l v w) (hu : Rw w u (toZ S)) (hS : Rws (P ^ K) n S) (h1 : 1 ≤ n) (hn : n ≤ 6) (hR : S.length ≤ 24) :
    Calls Tryd.prog 32 #[rmV P K v n, u] w fun e w' => BaA (P ^ K) (adF P K) (muF P K l) n S e w' ∧ Below w.heap.size w w' := by
  have hfq := hF.fqr
  obtain ⟨R, HR⟩ : ∃ R, Hid (S.length = R) := ⟨_, rfl⟩
  have hzl : (toZ S).length = R := by rw [← HR.out]; simp [toZ]
  rw [HR.out] at hR
  have hmk := run_makeR R (by omega)
  have HU : Hid (∀ W, Below w.heap.size w W → Rw W u (toZ S)) := fun W b => hu.below b
  have HAt : Hid (∀ i, i < R → ∃ s, (toZ S)[i]? = some (s.map Int.ofNat) ∧ Vc (P ^ K) n s ∧ ∀ j, j < n → (s.map Int.ofNat).getD j 0 = cst (tbl S) i j) := fun i hi => by
    have hi' : i < S.length := by rw [HR.out]; exact hi
    have hv := hS _ (List.getElem_mem hi')
    refine ⟨S[i], by simp [toZ, hi'], hv, fun j hj => ?_⟩
    have hj' : j < S[i].length := by rw [hv.len]; exact hj
    simp [cst, tbl, List.getD_eq_getElem?_getD, hi', hj']
  have HG0 : Hid (Gz (P ^ K) n (adF P K) (muF P K l) R S (tbl S) 0 0 (fun _ => 0)) := by
    have h := Gz.start (q := P ^ K) n (adF P K) (muF P K l) (tbl_lt hS hfq.pos)
    rw [tbl_rows hS, HR.out] at h
    exact h
  have HCl : Hid (∀ (W : World) (g t c co : Nat) (M : Nat → Nat → Nat) (B cp : Nat → Nat), Below w.heap.size w W → Mat W w.heap.size g R n B cp (cst M) → w.heap.size ≤ g → (∀ i j, i < R → j < n → M i j < P ^ K) → t < R → c < n → M t c ≠ 0 → Calls Tryd.prog 61 #[rmV P K v n, .slice (some ⟨g, 0, none⟩) R co, .int .i64 (t : Int), .int .i64 (c : Int)] W fun e w' => e = .returned (.tuple #[]) ∧
      (∃ e1, e1 < P ^ K ∧ muF P K l e1 (M t c) = 1 ∧ Mat w' w.heap.size g R n B cp (cst (clrF (adF P K) (muF P K l) (ngF P K) (sclF (muF P K l) M t e1) t c))) ∧ KpX (RwX R B) W w') := fun W g t c co M B cp b hM hg hlt ht hc hz => clear_any P K n R t c g co l v M B cp w W hF b hM hg hlt ht hc hn hR hz
  have HFQ : Hid (FqR (P ^ K) (adF P K) (muF P K l) (ngF P K)) := hfq
  obtain ⟨mu, Hmu⟩ : ∃ mu, Hid (muF P K l = mu) := ⟨_, rfl⟩
  obtain ⟨ad, Had⟩ : ∃ ad, Hid (adF P K = ad) := ⟨_, rfl⟩
  obtain ⟨ng, Hng⟩ : ∃ ng, Hid (ngF P K = ng) := ⟨_, rfl⟩
  obtain ⟨q, Hq⟩ : ∃ q, Hid (P ^ K = q) := ⟨_, rfl⟩
  rw [Hmu.out, Had.out, Hq.out] at HG0 ⊢
  rw [Hmu.out, Had.out, Hng.out, Hq.out] at HCl HFQ
  rw [Hq.out] at HAt
  obtain ⟨fa, fn, fc, rfl⟩ : ∃ fa fn fc, v = .slice fa fn fc := by obtain ⟨a, c, e, _⟩ := hF.sl; exact ⟨a, _, c, e⟩
  obtain ⟨a, ac, rfl, _⟩ := id hu
  rw [hzl] at HU ⊢
  have b1 := balloc w (.cells #[.int .i64 (P : Int), .int .i64 (K : Int), .slice fa fn fc, .int .i64 (n : Int)] 74)
  have b2 := balloc (w.alloc (.cells #[.int .i64 (P : Int), .int .i64 (K : Int), .slice fa fn fc, .int .i64 (n : Int)] 74)) (.cells (madeCells #[.slice none 0 0] R) 22)
  have hr0 : RmB (w.alloc (.cells #[.int .i64 (P : Int), .int .i64 (K : Int), .slice fa fn fc, .int .i64 (n : Int)] 74)) w.heap.size (P : Int) (K : Int) (.slice fa fn fc) (n : Int) := heap_alloc_new w _
  have hs1 : (w.alloc (.cells #[.int .i64 (P : Int), .int .i64 (K : Int), .slice fa fn fc, .int .i64 (n : Int)] 74)).heap.size = w.heap.size + 1 := by simp
  have hm0 := rm_new (w.alloc (.cells #[.int .i64 (P : Int), .int .i64 (K : Int), .slice fa fn fc, .int .i64 (n : Int)] 74)) R
  rw [hs1] at hm0
  have hr1 := hr0.below b2
  obtain ⟨w1, Hw1⟩ : ∃ w1, Hid ((w.alloc (.cells #[.int .i64 (P : Int), .int .i64 (K : Int), .slice fa fn fc, .int .i64 (n : Int)] 74)).alloc (.cells (madeCells #[.slice none 0 0] R) 22) = w1) := ⟨_, rfl⟩
  have b3 : Below w.heap.size w w1 := by rw [← Hw1.out]; exact Below.next b1 b2
  rw [Hw1.out] at hm0 hr1
  have HM0 : Hid (∃ B cp, Mat w1 w.heap.size (w.heap.size + 1) 0 n B cp (cst (tbl S))) := ⟨_, _, Mat.zer hm0⟩
  have HRm0 : Hid (Rm w1 (w.heap.size + 1) R) := hm0
  have HRr1 : Hid (RmB w1 w.heap.size (P : Int) (K : Int) (.slice fa fn fc) (n : Int)) := hr1
  have HB3 : Hid (Below w.heap.size w w1) := b3
  clear hF hu hS hfq b1 b2 hr0 hm0 hr1 b3
  go_enter Tryd.func32, Tryd.ntmps32
  go_wp2
  rw [Hw1.out]
  go_loopw [6, 7, 16] (fun _ _ iv wr => ∃ i : Nat, iv = .int .i64 (i : Int) ∧ i ≤ R ∧ Hid (∃ B cp, Mat wr w.heap.size (w.heap.size + 1) i n B cp (cst (tbl S))) ∧ Rm wr (w.heap.size + 1) R ∧ RmB wr w.heap.size (P : Int) (K : Int) (.slice fa fn fc) (n : Int) ∧ Below w.heap.size w wr) (fun _ _ iv _ => (R - intOf iv).toNat)
  case atStart => exact ⟨0, rfl, by omega, HM0, HRm0.out, HRr1.out, HB3.out⟩
  case round =>
    clear HM0 HRm0 HRr1 HB3 hmk
    obtain ⟨i, rfl, hi, HM1, hrm, hrr, hB⟩ := hrel
    by_cases hlt : i < R
    · have hii : (i : Int) < (R : Int) := by omega
      have hdi : decide ((i : Int) < (R : Int)) = true := by simp; omega
      obtain ⟨s, hsi, hsv, hsc⟩ := HAt.out i hlt
      obtain ⟨a', ac', e', hr'⟩ := HU.out wr hB
      obtain ⟨rfl, rfl⟩ : a = a' ∧ ac = ac' := by
        simp only [Value.slice.injEq] at e'
        exact ⟨e'.1, e'.2.2⟩
      obtain ⟨b, off, x, rfl, hcj, hs⟩ := hr' i _ hsi
      have hsl : (s.map Int.ofNat).length = n := by rw [List.length_map, hsv.len]
      have C := CloneI_any (s.map Int.ofNat) x wr hs (by omega) (by omega)
      rw [hsl] at C
      obtain ⟨xa, xc, rfl, _⟩ := id hs
      rw [hsl] at C hcj
      have HNext : Hid (∀ W y, Below wr.heap.size wr W → W.ownsRow wr.heap.size 3 1 y n ((s.map Int.ofNat).map (Value.int .i64)) → ∃ bb cap, y = .slice (some ⟨bb, 0, none⟩) n cap ∧ (∃ u, W.cell? ⟨w.heap.size + 1, i, none⟩ = some u) ∧ W.frozen? ⟨w.heap.size + 1, i, none⟩ = false ∧
          Hid (∃ B cp, Mat (W.setCell ⟨w.heap.size + 1, i, none⟩ y) w.heap.size (w.heap.size + 1) (i + 1) n B cp (cst (tbl S))) ∧ Rm (W.setCell ⟨w.heap.size + 1, i, none⟩ y) (w.heap.size + 1) R ∧ RmB (W.setCell ⟨w.heap.size + 1, i, none⟩ y) w.heap.size (P : Int) (K : Int) (.slice fa fn fc) (n : Int) ∧ Below w.heap.size w (W.setCell ⟨w.heap.size + 1, i, none⟩ y)) := fun W y bW ho => by
        obtain ⟨bb, cap, rfl, hbb, hown⟩ := Own.of ho (by omega)
        have hrm' := hrm.below bW
        have hws := hB.size
        have hgl := hrm.lt
        obtain ⟨B, cp, hM⟩ := HM1.out
        refine ⟨bb, cap, rfl, hrm'.cell hlt, hrm'.frozen i, ⟨_, _, (hM.below bW).more hrm' hlt (hown.congr fun j hj => hsc j hj) (by omega) (by omega) (fun j hj e => ?_)⟩, hrm'.set _ _, (heap_setCell_other W _ _ _ (by simp)).trans (hrr.below bW), (Below.next hB bW).setCell (p := ⟨w.heap.size + 1, i, none⟩) (by simp) _⟩
        have := (hM.row j hj).lt
        omega
      clear hr' hs hsi hsc hrm HM1 e'
      obtain ⟨y0, y1, y2, y3⟩ := hrr.cells
      clear hrr
      go_wp2_with (go_at_call 58; refine C.mono ?_; rintro e w2 ⟨y, rfl, ho, b4⟩; obtain ⟨bb, cap, rfl, ⟨uu, n1⟩, n2, n3, n4, n5, n6⟩ := HNext.out w2 y b4 ho; clear C)
      go_roundw
      case rel => exact ⟨i + 1, by go_num, by omega, n3, n4, n5, n6⟩
      case measure => simp [intOf]; omega
    · have hdi : decide ((i : Int) < (R : Int)) = false := by simp; omega
      obtain rfl : R = i := by omega
      obtain ⟨B0, cp0, hM⟩ := HM1.out
      obtain ⟨y0, y1, y2, y3⟩ := hrr.cells
      clear HM1 HU HAt
      go_wp2
      go_loopw [8, 9, 10, 29] (fun fv _ _ cv wr => ∃ (c t : Nat) (B cp : Nat → Nat) (M : Nat → Nat → Nat) (ld : Nat → Nat), cv = .int .i64 (c : Int) ∧ fv = .int .i64 (t : Int) ∧ c ≤ n ∧ t ≤ R ∧ Mat wr w.heap.size (w.heap.size + 1) R n B cp (cst M) ∧ Hid (Gz q n ad mu R S M c t ld) ∧ RmB wr w.heap.size (P : Int) (K : Int) (.slice fa fn fc) (n : Int) ∧ Below w.heap.size w wr) (fun _ _ _ cv _ => (n - intOf cv).toNat)
      case atStart => exact ⟨0, 0, B0, cp0, tbl S, fun _ => 0, rfl, rfl, by omega, by omega, hM, HG0, hrr, hB⟩
      case round =>
        clear hM hrr hB HG0 hrm y0 y1 y2 y3
        obtain ⟨c, t, B, cp, M, ld, rfl, rfl, hc, ht, hM, HG, hrr, hB⟩ := hrel
        by_cases hlt2 : c < n
        · have hci : (c : Int) < (n : Int) := by omega
          have hdc : decide ((c : Int) < (n : Int)) = true := by simp; omega
          have hti : (t : Int) ≤ (R : Int) := by omega
          have HW : Hid (∀ W, W = wr.alloc (.cells #[.int .i64 (c : Int)] 3) → Mat W w.heap.size (w.heap.size + 1) R n B cp (cst M) ∧ RmB W w.heap.size (P : Int) (K : Int) (.slice fa fn fc) (n : Int) ∧ Below w.heap.size w W ∧ W.cell? ⟨wr.heap.size, 0, none⟩ = some (.int .i64 (c : Int))) := fun W e => by
            have b := balloc wr (.cells #[.int .i64 (c : Int)] 3)
            subst e
            exact ⟨hM.below b, hrr.below b, Below.next hB b, by rw [cell_of_row _ _ _ _ _ _ (heap_alloc_new wr _)]; rfl⟩
          have HMr : Hid (∀ W, W = wr.alloc (.cells #[.int .i64 (c : Int)] 3) → ∀ m cc, t + m ≤ R → Calls Tryd.prog 59 #[.slice (some ⟨w.heap.size + 1, t, none⟩) m cc, .func (.func 60) #[] #[.pointer (some ⟨wr.heap.size, 0, none⟩)]] W fun e w' => (∃ z : Int, e = .returned (.int .i64 z) ∧ IfIs (rwZ m n t M) (fun r => r.getD c 0 != 0) z) ∧ w' = W) := fun W e m cc hm => by
            obtain ⟨h1, h2, h3, h4⟩ := HW.out W e
            refine IndexR_any c wr.heap.size (rwZ m n t M) _ W h4 (h1.rwAt hm cc) (by rw [rwZ_len]; omega) fun r hr => ?_
            obtain ⟨i, hi, e⟩ := List.mem_map.1 hr
            rw [← e]
            simp
            omega
          obtain ⟨y0, y1, y2, y3⟩ := hrr.cells
          have HGlt : Hid (∀ i j, i < R → j < n → M i j < q) := HG.out.lt
          have hgl := hM.glt
          clear hM hrr
          by_cases htR : t < R
          · have htiR : (t : Int) < (R : Int) := by omega
            have C := HMr.out _ rfl (R - t) (R - t) (by omega)
            clear HMr
            go_wp2_with (go_at_call 59; refine C.mono ?_; rintro e w2 ⟨⟨z, rfl, hz⟩, hw2⟩; obtain ⟨hM2, hrr2, hB2, cb2⟩ := HW.out w2 hw2; clear C HW hw2 y0 y1 y2 y3; rcases hz with ⟨rfl, hz⟩ | ⟨j, lj, rfl, hz1, hz2, hz3⟩)
            · have HG2 : Hid (Gz q n ad mu R S M (c + 1) t ld) := HG.out.skip fun r h3 h4 => by
                have h5 := hz (r - t) ((List.range n).map (cst M (t + (r - t)))) (by simp [rwZ, show r - t < R - t by omega])
                have h6 : ((List.range n).map (cst M (t + (r - t)))).getD c 0 = (M r c : Int) := by
                  rw [show t + (r - t) = r by omega]
                  simp [hlt2, cst]
                rw [h6] at h5
                simpa using h5
              refine ⟨⟨c + 1, t, B, cp, M, ld, by go_num, rfl, by omega, ht, hM2, HG2, hrr2, hB2⟩, ?_⟩
              simp [intOf]; omega
            · obtain ⟨k, Hk⟩ : ∃ k, Hid (t + j = k) := ⟨_, rfl⟩
              obtain ⟨hjm, _⟩ := rwZ_at hz1
              have hkR : k < R := by have := Hk.out; omega
              have htk : t ≤ k := by have := Hk.out; omega
              have hMk : M k c ≠ 0 := by
                have h := rwZ_col hz1 hlt2
                rw [Hk.out] at h
                rw [h] at hz2
                simpa using hz2
              have HMk : Hid (M k c ≠ 0) := hMk
              have hkj : (t : Int) + (j : Int) = (k : Int) := by have := Hk.out; omega
              have hwk : IntKind.i64.wrap (k : Int) = (k : Int) := by rw [IntKind.wrap_i64]; omega
              have hkRi : (k : Int) < (R : Int) := by omega
              have c1 := hM2.hd htR
              have c2 := hM2.hd hkR
              have f1 := hM2.hdf t
              have f2 := hM2.hdf k
              have c3 : ∃ u, (w2.setCell ⟨w.heap.size + 1, t, none⟩ (.slice (some ⟨B k, 0, none⟩) n (cp k))).cell? ⟨w.heap.size + 1, k, none⟩ = some u := cell?_setCell_some (by exact c2)
              have f3 : (w2.setCell ⟨w.heap.size + 1, t, none⟩ (.slice (some ⟨B k, 0, none⟩) n (cp k))).frozen? ⟨w.heap.size + 1, k, none⟩ = false := by
                obtain ⟨cur, h7, _⟩ := hM2.out
                exact frozen_of_row _ _ _ _ _ (heap_setCell_same _ _ _ _ _ _ h7)
              have HSw : Hid (Mat (((w2.setCell ⟨w.heap.size + 1, t, none⟩ (.slice (some ⟨B k, 0, none⟩) n (cp k))).setCell ⟨w.heap.size + 1, k, none⟩ (.slice (some ⟨B t, 0, none⟩) n (cp t))).drew) w.heap.size (w.heap.size + 1) R n (fun i => if i = t then B k else if i = k then B t else B i) (fun i => if i = t then cp k else if i = k then cp t else cp i) (cst (swpF M t k)) ∧ RmB (((w2.setCell ⟨w.heap.size + 1, t, none⟩ (.slice (some ⟨B k, 0, none⟩) n (cp k))).setCell ⟨w.heap.size + 1, k, none⟩ (.slice (some ⟨B t, 0, none⟩) n (cp t))).drew) w.heap.size (P : Int) (K : Int) (.slice fa fn fc) (n : Int) ∧ Below w.heap.size w (((w2.setCell ⟨w.heap.size + 1, t, none⟩ (.slice (some ⟨B k, 0, none⟩) n (cp k))).setCell ⟨w.heap.size + 1, k, none⟩ (.slice (some ⟨B t, 0, none⟩) n (cp t))).drew) ∧ World.cell? (((w2.setCell ⟨w.heap.size + 1, t, none⟩ (.slice (some ⟨B k, 0, none⟩) n (cp k))).setCell ⟨w.heap.size + 1, k, none⟩ (.slice (some ⟨B t, 0, none⟩) n (cp t))).drew) ⟨wr.heap.size, 0, none⟩ = some (.int .i64 (c : Int))) :=
                ⟨((hM2.swap htR hkR).congr fun i j _ _ => swp_cst M t k i j).drew, (heap_setCell_other _ _ _ _ (by simp)).trans ((heap_setCell_other _ _ _ _ (by simp)).trans hrr2), ((hB2.setCell (p := ⟨w.heap.size + 1, t, none⟩) (by simp) _).setCell (p := ⟨w.heap.size + 1, k, none⟩) (by simp) _).drew,
                  (World.cell?_setCell_far _ _ _ _ (by simp; omega)).trans ((World.cell?_setCell_far _ _ _ _ (by simp; omega)).trans cb2)⟩
              have HGs : Hid (Gz q n ad mu R S (swpF M t k) c t ld) := HG.out.swap htk hkR
              have HMt : Hid (swpF M t k t c ≠ 0) := by
                show swpF M t k t c ≠ 0
                unfold swpF
                rw [if_pos rfl]
                exact HMk.out
              obtain ⟨uu, c3⟩ := c3
              clear hz1 hz2 hz3 hMk hjm
              refine wp_region_noPanic ?_
              refine wp_region_held_drew (S := fun _ => True) (by kernel_rfl) trivial (fun hSx => ?_)
              refine wpAnyH_take (i := 0) (v := .slice (some ⟨w.heap.size + 1, 0, none⟩) R R) rfl (by kernel_rfl) (by kernel_rfl) (by kernel_rfl) (fun _ _ _ h => h) (Or.inl ⟨by rfl, fun w' hSw => by (try dsimp only at hSw); skip; go_simp⟩) hSx ?_
              try simp only [Act.put, List.setIfInBounds_toArray]
              refine wpAnyH_take (i := 1) (v := .int .i64 (t : Int)) rfl (by kernel_rfl) (by kernel_rfl) (by kernel_rfl) (fun _ _ _ h => h) (Or.inl ⟨by rfl, fun w' hSw => by (try dsimp only at hSw); skip; go_simp⟩) hSx ?_
              try simp only [Act.put]
              refine wpAnyH_take (i := 2) (v := .slice (some ⟨w.heap.size + 1, 0, none⟩) R R) rfl (by kernel_rfl) (by kernel_rfl) (by kernel_rfl) (fun _ _ _ h => h) (Or.inl ⟨by rfl, fun w' hSw => by (try dsimp only at hSw); skip; go_simp⟩) hSx ?_
              try simp only [Act.put]
              refine wpAnyH_take (i := 3) (v := .int .i64 (t : Int)) rfl (by kernel_rfl) (by kernel_rfl) (by kernel_rfl) (fun _ _ _ h => h) (Or.inl ⟨by rfl, fun w' hSw => by (try dsimp only at hSw); skip; go_simp⟩) hSx ?_
              try simp only [Act.put]
              refine wpAnyH_take (i := 4) (v := .int .i64 (j : Int)) rfl (by kernel_rfl) (by kernel_rfl) (by kernel_rfl) (fun _ _ _ h => h) (Or.inl ⟨by rfl, fun w' hSw => by (try dsimp only at hSw); skip; go_simp⟩) hSx ?_
              try simp only [Act.put]
              refine wpAnyH_take (i := 5) (v := .int .i64 (k : Int)) rfl (by kernel_rfl) (by kernel_rfl) (by kernel_rfl) (fun _ _ _ h => h) (Or.inl ⟨by rfl, fun w' hSw => by (try dsimp only at hSw); skip; go_simp⟩) hSx ?_
              try simp only [Act.put]
              refine wpAnyH_take (i := 6) (v := .slice (some ⟨w.heap.size + 1, 0, none⟩) R R) rfl (by kernel_rfl) (by kernel_rfl) (by kernel_rfl) (fun _ _ _ h => h) (Or.inl ⟨by rfl, fun w' hSw => by (try dsimp only at hSw); skip; go_simp⟩) hSx ?_
              try simp only [Act.put]
              refine wpAnyH_take (i := 7) (v := .int .i64 (t : Int)) rfl (by kernel_rfl) (by kernel_rfl) (by kernel_rfl) (fun _ _ _ h => h) (Or.inl ⟨by rfl, fun w' hSw => by (try dsimp only at hSw); skip; go_simp⟩) hSx ?_
              try simp only [Act.put]
              refine wpAnyH_take (i := 8) (v := .int .i64 (j : Int)) rfl (by kernel_rfl) (by kernel_rfl) (by kernel_rfl) (fun _ _ _ h => h) (Or.inl ⟨by rfl, fun w' hSw => by (try dsimp only at hSw); skip; go_simp⟩) hSx ?_
              try simp only [Act.put]
              refine wpAnyH_take (i := 9) (v := .int .i64 (k : Int)) rfl (by kernel_rfl) (by kernel_rfl) (by kernel_rfl) (fun _ _ _ h => h) (Or.inl ⟨by rfl, fun w' hSw => by (try dsimp only at hSw); skip; go_simp⟩) hSx ?_
              try simp only [Act.put]
              refine wpAnyH_take (i := 10) (v := .pointer (some ⟨w.heap.size + 1, k, none⟩)) rfl (by kernel_rfl) (by kernel_rfl) (by kernel_rfl) (fun _ _ _ h => h) (Or.inl ⟨by rfl, fun w' hSw => by (try dsimp only at hSw); skip; go_simp⟩) hSx ?_
              try simp only [Act.put]
              refine wpAnyH_take (i := 12) (v := .slice (some ⟨w.heap.size + 1, 0, none⟩) R R) rfl (by kernel_rfl) (by kernel_rfl) (by kernel_rfl) (fun _ _ _ h => h) (Or.inl ⟨by rfl, fun w' hSw => by (try dsimp only at hSw); skip; go_simp⟩) hSx ?_
              try simp only [Act.put]
              refine wpAnyH_take (i := 13) (v := .int .i64 (t : Int)) rfl (by kernel_rfl) (by kernel_rfl) (by kernel_rfl) (fun _ _ _ h => h) (Or.inl ⟨by rfl, fun w' hSw => by (try dsimp only at hSw); skip; go_simp⟩) hSx ?_
              try simp only [Act.put]
              refine wpAnyH_take (i := 14) (v := .pointer (some ⟨w.heap.size + 1, t, none⟩)) rfl (by kernel_rfl) (by kernel_rfl) (by kernel_rfl) (fun _ _ _ h => h) (Or.inl ⟨by rfl, fun w' hSw => by (try dsimp only at hSw); skip; go_simp⟩) hSx ?_
              try simp only [Act.put]
              refine wpAnyH_ready (rs := [11, 15]) (by kernel_rfl) (by simp) ?_
              refine (AllReadyH.cons rfl (fun J hJ => ?_) (AllReadyH.cons rfl (fun J hJ => ?_) AllReadyH.nil))
              · go_simp
                refine hJ.out _ _ (trivial) (fun hSx => ?_)
                clear hJ J
                try simp only [Act.put, List.setIfInBounds_toArray, List.set_cons_zero, List.set_cons_succ]
                refine wpAnyH_ready (rs := [15]) (by kernel_rfl) (by simp) ?_
                refine (AllReadyH.cons rfl (fun J hJ => ?_) AllReadyH.nil)
                go_simp
                refine hJ.out _ _ (trivial) (fun hSx => ?_)
                clear hJ J
                try simp only [Act.put, List.setIfInBounds_toArray, List.set_cons_zero, List.set_cons_succ]
                refine wpAnyH_take (i := 16) (v := .pointer (some ⟨w.heap.size + 1, t, none⟩)) rfl (by kernel_rfl) (by kernel_rfl) (by kernel_rfl) (fun _ _ _ h => h) (Or.inl ⟨by rfl, fun w' hSw => by (try dsimp only at hSw); skip; go_simp⟩) hSx ?_
                try simp only [Act.put, List.setIfInBounds_toArray]
                refine wpAnyH_ready (rs := [17]) (by kernel_rfl) (by simp) ?_
                refine (AllReadyH.cons rfl (fun J hJ => ?_) AllReadyH.nil)
                go_simp
                refine hJ.out _ _ (trivial) (fun hSx => ?_)
                clear hJ J
                try simp only [Act.put, List.setIfInBounds_toArray, List.set_cons_zero, List.set_cons_succ]
                refine wpAnyH_take (i := 18) (v := .pointer (some ⟨w.heap.size + 1, k, none⟩)) rfl (by kernel_rfl) (by kernel_rfl) (by kernel_rfl) (fun _ _ _ h => h) (Or.inl ⟨by rfl, fun w' hSw => by (try dsimp only at hSw); skip; go_simp⟩) hSx ?_
                try simp only [Act.put, List.setIfInBounds_toArray]
                refine wpAnyH_ready (rs := [19]) (by kernel_rfl) (by simp) ?_
                refine (AllReadyH.cons rfl (fun J hJ => ?_) AllReadyH.nil)
                go_simp
                refine hJ.out _ _ (trivial) (fun hSx => ?_)
                clear hJ J
                try simp only [Act.put, List.setIfInBounds_toArray, List.set_cons_zero, List.set_cons_succ]
                refine wpAnyH_done (by kernel_rfl) ?_ _
                refine NoPanic.normal ?_
                obtain ⟨hM3, hrr3, hB3, cb3⟩ := HSw.out
                have CC := HCl.out _ _ t c R (swpF M t k) _ _ hB3 hM3 (by omega) HGs.out.lt htR hlt2 HMt.out
                have hnX := hM3.apart hrr3
                clear HSw c1 c2 c3 f1 f2 f3 hM2 hrr2 hB2 cb2 hSx HG HGlt
                revert hM3 hrr3 hB3 cb3 CC hnX
                generalize (((w2.setCell ⟨w.heap.size + 1, t, none⟩ (.slice (some ⟨B k, 0, none⟩) n (cp k))).setCell ⟨w.heap.size + 1, k, none⟩ (.slice (some ⟨B t, 0, none⟩) n (cp t))).drew) = w3
                generalize (fun i => if i = t then B k else if i = k then B t else B i) = B3
                generalize (fun i => if i = t then cp k else if i = k then cp t else cp i) = cp3
                intro hM3 hrr3 hB3 cb3 CC hnX
                obtain ⟨z0, z1, z2, z3⟩ := hrr3.cells
                go_wp2_with (go_at_call 61; refine CC.mono ?_; rintro e w4 ⟨rfl, ⟨e1, he1, hi1, hM4⟩, hK4⟩; clear CC)
                refine ⟨⟨c + 1, t + 1, B3, cp3, _, fun i => if i = t then c else ld i, by go_num, by go_num, by omega, by omega, hM4, HGs.out.clear HFQ.out hlt2 htR he1 hi1, hK4.rm hrr3 hnX, KpX.below hB3 hK4 (fun i ⟨j, hj, e⟩ => by rw [e]; exact (hM3.lo j hj).1) hB3.size⟩, ?_⟩
                simp [intOf]; omega
              · go_simp
                refine hJ.out _ _ (trivial) (fun hSx => ?_)
                clear hJ J
                try simp only [Act.put, List.setIfInBounds_toArray, List.set_cons_zero, List.set_cons_succ]
                refine wpAnyH_ready (rs := [11]) (by kernel_rfl) (by simp) ?_
                refine (AllReadyH.cons rfl (fun J hJ => ?_) AllReadyH.nil)
                go_simp
                refine hJ.out _ _ (trivial) (fun hSx => ?_)
                clear hJ J
                try simp only [Act.put, List.setIfInBounds_toArray, List.set_cons_zero, List.set_cons_succ]
                refine wpAnyH_take (i := 16) (v := .pointer (some ⟨w.heap.size + 1, t, none⟩)) rfl (by kernel_rfl) (by kernel_rfl) (by kernel_rfl) (fun _ _ _ h => h) (Or.inl ⟨by rfl, fun w' hSw => by (try dsimp only at hSw); skip; go_simp⟩) hSx ?_
                try simp only [Act.put, List.setIfInBounds_toArray]
                refine wpAnyH_ready (rs := [17]) (by kernel_rfl) (by simp) ?_
                refine (AllReadyH.cons rfl (fun J hJ => ?_) AllReadyH.nil)
                go_simp
                refine hJ.out _ _ (trivial) (fun hSx => ?_)
                clear hJ J
                try simp only [Act.put, List.setIfInBounds_toArray, List.set_cons_zero, List.set_cons_succ]
                refine wpAnyH_take (i := 18) (v := .pointer (some ⟨w.heap.size + 1, k, none⟩)) rfl (by kernel_rfl) (by kernel_rfl) (by kernel_rfl) (fun _ _ _ h => h) (Or.inl ⟨by rfl, fun w' hSw => by (try dsimp only at hSw); skip; go_simp⟩) hSx ?_
                try simp only [Act.put, List.setIfInBounds_toArray]
                refine wpAnyH_ready (rs := [19]) (by kernel_rfl) (by simp) ?_
                refine (AllReadyH.cons rfl (fun J hJ => ?_) AllReadyH.nil)
                go_simp
                refine hJ.out _ _ (trivial) (fun hSx => ?_)
                clear hJ J
                try simp only [Act.put, List.setIfInBounds_toArray, List.set_cons_zero, List.set_cons_succ]
                refine wpAnyH_done (by kernel_rfl) ?_ _
                refine NoPanic.normal ?_
                obtain ⟨hM3, hrr3, hB3, cb3⟩ := HSw.out
                have CC := HCl.out _ _ t c R (swpF M t k) _ _ hB3 hM3 (by omega) HGs.out.lt htR hlt2 HMt.out
                have hnX := hM3.apart hrr3
                clear HSw c1 c2 c3 f1 f2 f3 hM2 hrr2 hB2 cb2 hSx HG HGlt
                revert hM3 hrr3 hB3 cb3 CC hnX
                generalize (((w2.setCell ⟨w.heap.size + 1, t, none⟩ (.slice (some ⟨B k, 0, none⟩) n (cp k))).setCell ⟨w.heap.size + 1, k, none⟩ (.slice (some ⟨B t, 0, none⟩) n (cp t))).drew) = w3
                generalize (fun i => if i = t then B k else if i = k then B t else B i) = B3
                generalize (fun i => if i = t then cp k else if i = k then cp t else cp i) = cp3
                intro hM3 hrr3 hB3 cb3 CC hnX
                obtain ⟨z0, z1, z2, z3⟩ := hrr3.cells
                go_wp2_with (go_at_call 61; refine CC.mono ?_; rintro e w4 ⟨rfl, ⟨e1, he1, hi1, hM4⟩, hK4⟩; clear CC)
                refine ⟨⟨c + 1, t + 1, B3, cp3, _, fun i => if i = t then c else ld i, by go_num, by go_num, by omega, by omega, hM4, HGs.out.clear HFQ.out hlt2 htR he1 hi1, hK4.rm hrr3 hnX, KpX.below hB3 hK4 (fun i ⟨j, hj, e⟩ => by rw [e]; exact (hM3.lo j hj).1) hB3.size⟩, ?_⟩
                simp [intOf]; omega
          · obtain rfl : R = t := by omega
            have C : Calls Tryd.prog 59 #[.slice (some ⟨w.heap.size + 1, 0, none⟩) 0 0, .func (.func 60) #[] #[.pointer (some ⟨wr.heap.size, 0, none⟩)]] (wr.alloc (.cells #[.int .i64 (c : Int)] 3)) fun e w' => (∃ z : Int, e = .returned (.int .i64 z) ∧ IfIs [] (fun r => r.getD c 0 != 0) z) ∧ w' = wr.alloc (.cells #[.int .i64 (c : Int)] 3) :=
              IndexR_any c wr.heap.size [] _ _ (HW.out _ rfl).2.2.2 ⟨_, 0, rfl, fun i l h => by simp at h⟩ (by simp) (fun l h => by simp at h)
            have HG2 : Hid (Gz q n ad mu R S M (c + 1) R ld) := HG.out.skip fun r h3 h4 => by omega
            clear HMr
            go_wp2_with (go_at_call 59; refine C.mono ?_; rintro e w2 ⟨⟨z, rfl, hz⟩, hw2⟩; obtain ⟨hM2, hrr2, hB2, cb2⟩ := HW.out w2 hw2; clear C HW hw2 y0 y1 y2 y3; obtain rfl : z = -1 := (hz.elim (fun h => h.1) (fun ⟨_, _, _, h, _⟩ => by simp at h)))
            go_roundw
            case rel => exact ⟨c + 1, R, B, cp, M, ld, by go_num, rfl, by omega, ht, hM2, HG2, hrr2, hB2⟩
            case measure => simp [intOf]; omega
        · have hdc : decide ((c : Int) < (n : Int)) = false := by simp; omega
          obtain rfl : n = c := by omega
          have HD : Hid (BasIs q ad mu n (Spn q ad mu n S) (rwF t n M)) := HG.out.done HFQ.out
          have hti : (t : Int) ≤ (R : Int) := by omega
          have HRW : Hid ((rwF t n M).length ≤ S.length ∧ RwT wr (.slice (some ⟨w.heap.size + 1, 0, none⟩) t R) (rwF t n M)) := ⟨by rw [HR.out]; simp [rwF]; omega, fun W hW => by
            rw [← rwZ_zero]
            exact (hM.k31 hW).rwAt (by omega) R⟩
          clear hM HG
          go_wp2
          go_ret
          exact ⟨⟨_, _, rfl, HD.out, HRW.out.1, HRW.out.2⟩, hB⟩
end Go.Proofs.YtgdkfbgehbdkjabDoor

namespace Go.Proofs.YtgdkfbgehbdkjabDoor
open Go.RowKit

/-- A row of one's own, whole. -/
def OwnN (w : World) (g n : Nat) (f : Nat → Nat) : Prop := ∃ cur, w.heap[g]? = some (.cells cur 3 (0, 0)) ∧ cur.size = n ∧ ∀ j, j < n → cur[j]? = some (.int .i64 (f j : Int))
theorem OwnN.lt {w : World} {g n : Nat} {f : Nat → Nat} (h : OwnN w g n f) : g < w.heap.size := by obtain ⟨c, h, _⟩ := h; exact (Array.getElem?_eq_some_iff.1 h).1
theorem OwnN.below {w w' : World} {g n : Nat} {f : Nat → Nat} (h : OwnN w g n f) (b : Below w.heap.size w w') : OwnN w' g n f := by
  have := h.lt
  obtain ⟨c, h, e⟩ := h
  exact ⟨c, (b.block g this).trans h, e⟩
theorem OwnN.cell {w : World} {g n : Nat} {f : Nat → Nat} (h : OwnN w g n f) {j : Nat} (hj : j < n) : w.cell? ⟨g, j, none⟩ = some (.int .i64 (f j : Int)) := by
  obtain ⟨c, h, _, e⟩ := h
  rw [cell_of_row w g j _ _ _ h, e j hj]
theorem OwnN.frozen {w : World} {g n : Nat} {f : Nat → Nat} (h : OwnN w g n f) (j : Nat) : w.frozen? ⟨g, j, none⟩ = false := by
  obtain ⟨c, h, _⟩ := h
  exact frozen_of_row w g j _ _ h
theorem OwnN.set {w : World} {g n : Nat} {f f' : Nat → Nat} (h : OwnN w g n f) (i v : Nat) (e : ∀ j, j < n → (if j = i then v else f j) = f' j) : OwnN (w.setCell ⟨g, i, none⟩ (.int .i64 (v : Int))) g n f' := by
  obtain ⟨c, h, hs, hc⟩ := h
  refine ⟨_, heap_setCell_same w g i _ _ _ h, by simpa using hs, fun j hj => ?_⟩
  rw [Array.getElem?_setIfInBounds, ← e j hj]
  by_cases e1 : i = j
  · subst e1; rw [if_pos rfl, if_pos (by omega), if_pos rfl]
  · rw [if_neg e1, if_neg (fun h => e1 h.symm), hc j hj]
theorem OwnN.drew {w : World} {g n : Nat} {f : Nat → Nat} (h : OwnN w g n f) : OwnN w.drew g n f := h
theorem own_new (w : World) (n : Nat) : OwnN (w.alloc (.cells (madeCells #[.int .i64 0] n) 3)) w.heap.size n (fun _ => 0) := by
  refine ⟨_, heap_alloc_new w _, by rw [size_madeCells], fun j hj => ?_⟩
  have hs : j < (madeCells #[Value.int .i64 0] n).size := by rw [size_madeCells]; exact hj
  rw [Array.getElem?_eq_getElem hs]
  simp [madeCells, Nat.mod_one]
theorem OwnN.orow {w : World} {g n base : Nat} {f : Nat → Nat} (h : OwnN w g n f) (hb : base ≤ g) (hn : n ≤ 99) : ORow w base (.slice (some ⟨g, 0, none⟩) n n) (ofF n f) := by
  obtain ⟨c, h, hs, hc⟩ := h
  have hl : (ofF n f).length = n := by simp [ofF]
  unfold ORow
  rw [hl]
  refine ⟨by simp [ofF], .inr ⟨g, n, c, rfl, hb, h, Nat.le_refl _, by unfold maxLen; omega, by omega, ?_⟩⟩
  refine List.ext_getElem? fun j => ?_
  by_cases hj : j < n
  · rw [List.getElem?_take, if_pos (by omega), Array.getElem?_toList, hc j hj]
    simp [ofF, hj]
  · rw [List.getElem?_take, if_neg (by omega), List.getElem?_eq_none (by simp [ofF]; omega)]
theorem run_makeN (n : Nat) (hn : n ≤ 100000) (w : World) : (Instr.makeSlice 22 (.int .i64 (n : Int)) (.int .i64 (n : Int))).run Tryd.prog w = .ok (.slice (some ⟨w.heap.size, 0, none⟩) n n) (w.alloc (.cells (madeCells #[.int .i64 0] n) 3)) := by
  obtain ⟨i4, hi, hz0, hz1, hz2⟩ := info3
  have h := run_make (P := Tryd.prog) w 22 3 i4 (.int .i64 0) und22 hi hz0 .i64 .i64 n n (by omega) (by omega) (by rw [hz2]; omega) (by omega)
  simpa [hz1, Value.cells] using h
/-- The row on its way. -/
def nrT (ng : Nat → Nat) (c : Nat) (X : List (List Nat)) (i : Nat) : Nat → Nat := (X.take i).foldl (nrUp ng c) fun j => if j = c then 1 else 0
theorem nrT_next {ng : Nat → Nat} {c : Nat} {X : List (List Nat)} {i : Nat} {r : List Nat} (h : X[i]? = some r) : nrT ng c X (i + 1) = nrUp ng c (nrT ng c X i) r := by
  unfold nrT
  rw [List.take_add_one, h, Option.toList_some, List.foldl_append]
  rfl
theorem nrT_all (ng : Nat → Nat) (c : Nat) (X : List (List Nat)) : nrT ng c X X.length = nrF ng c X := by unfold nrT nrF; rw [List.take_length]
end Go.Proofs.YtgdkfbgehbdkjabDoor

namespace Go.Proofs.YtgdkfbgehbdkjabDoor
open Go.RowKit

/-- The normal rows of the columns ahead of c. -/
def nrP (ng : Nat → Nat) (n : Nat) (X : List (List Nat)) (c : Nat) : List (List Nat) := ((List.range c).filter (freB X)).map fun c => ofF n (nrF ng c X)
theorem nrP_all (ng : Nat → Nat) (n : Nat) (X : List (List Nat)) : nrP ng n X n = nrms ng n X := rfl
theorem nrP_yes {ng : Nat → Nat} {n : Nat} {X : List (List Nat)} {c : Nat} (h : freB X c = true) : nrP ng n X (c + 1) = nrP ng n X c ++ [ofF n (nrF ng c X)] := by
  unfold nrP
  rw [List.range_succ, List.filter_append, List.map_append]
  simp [h]
theorem nrP_no {ng : Nat → Nat} {n : Nat} {X : List (List Nat)} {c : Nat} (h : freB X c = false) : nrP ng n X (c + 1) = nrP ng n X c := by
  unfold nrP
  rw [List.range_succ, List.filter_append, List.map_append]
  simp [h]
theorem nrP_len (ng : Nat → Nat) (n : Nat) (X : List (List Nat)) (c : Nat) : (nrP ng n X c).length ≤ c := by
  unfold nrP
  rw [List.length_map]
  have := List.length_filter_le (freB X) (List.range c)
  rwa [List.length_range] at this
/-- What normal answers. -/
def NoA (q : Nat) (ad mu : Nat → Nat → Nat) (n : Nat) (S : List (List Nat)) (e : Ending) (w' : World) : Prop := ∃ x ls, e = .returned x ∧ BasIs q ad mu n (Nrm q ad mu n S) ls ∧ Rw w' x (toZ ls)
theorem orow_form {w : World} {base : Nat} {x : Value} {l : List Nat} (h : ORow w base x l) : ∃ a n c, x = .slice a n c := by
  obtain ⟨_, ⟨rfl, _⟩ | ⟨g, cap, cur, rfl, _⟩⟩ := h
  · exact ⟨_, _, _, rfl⟩
  · exact ⟨_, _, _, rfl⟩
theorem inc_len : ∀ (l : List Nat) (k n : Nat), l.Pairwise (· < ·) → (∀ x ∈ l, k ≤ x ∧ x < n) → k ≤ n → l.length + k ≤ n
  | [], k, n, _, _, h => by simpa using h
  | x :: l, k, n, hp, hb, h => by
    have h1 := List.pairwise_cons.1 hp
    have h2 := hb x (by simp)
    have := inc_len l (x + 1) n h1.2 (fun y hy => ⟨h1.1 y hy, (hb y (by simp [hy])).2⟩) (by omega)
    simp only [List.length_cons]
    omega
theorem rref_le {q n : Nat} {X : List (List Nat)} (h : Rref q n X) : X.length ≤ n := by
  have := inc_len (X.map ldV) 0 n (List.pairwise_map.2 h.inc) (fun x hx => by obtain ⟨r, hr, rfl⟩ := List.mem_map.1 hx; exact ⟨Nat.zero_le _, (h.one r hr).1⟩) (Nat.zero_le _)
  rw [List.length_map] at this
  omega
end Go.Proofs.YtgdkfbgehbdkjabDoor

namespace Go.Proofs.YtgdkfbgehbdkjabDoor
open Go.Shelf Go.RowKit Go.Maps

/-- What is appended: nothing, or so many cells. -/
def SrcC (w : World) (x : Value) (m : Nat) (news : List Value) : Prop := (∃ c, x = .slice none 0 c ∧ m = 0 ∧ news = []) ∨ ∃ ad c, x = .slice (some ad) m c ∧ news.length = m ∧ ∀ (j : Nat) (u : Value), news[j]? = some u → w.cell? (ad.add j) = some u
theorem run_append_none_c {P : Program} {w : World} (base : Nat) (t ty e : TypeId) (i : TypeInfo) (size c : Nat) (ht : P.underlying t = some (.slice e)) (hi : P.info? e = some i)
    (v : Value) (n : Nat) (xs : List Value) (hown : w.ownsRow base e size v n xs) : (Builtin.append_ #[t, t] ty #[v, .slice none 0 c]).run P w = .ok v w := by
  rcases hown.2 with ⟨rfl, rfl⟩ | ⟨g, cap, cur, rfl, _, _, hnc, _⟩
  · simp [Builtin.append_, run_underlying ht, sizeOf, typeInfo, hi, Builtin.lenOf, Builtin.firstCells]
  · simp [Builtin.append_, run_underlying ht, sizeOf, typeInfo, hi, Builtin.lenOf, Builtin.firstCells, hnc, storeCells]
theorem wpList_append_srcC {P : Program} (w : World) {ops : Array Oper} {rest : List Oper} {o : Oper} {a : Act} {Q : Exit → Act → World → Prop} (hgd : o.guard = none) (s x : Operand) (t : TypeId)
    (ho : o.op = .call { callee := .builtin .append, args := #[s, x], argTypes := #[t, t] })
    (base : Nat) (e : TypeId) (i : TypeInfo) (z : Value) (bytes : Nat) (ht : P.underlying t = some (.slice e)) (hi : P.info? e = some i) (hz : i.zero = some z)
    (hsize : i.size = 1) (hby : i.bytes = bytes) (hzs : z.cells.size = 1)
    (v : Value) (n : Nat) (xs : List Value) (hs : a.eval s = v) (hown : w.ownsRow base e 1 v n xs)
    (vx : Value) (m : Nat) (news : List Value) (hx : a.eval x = vx) (hsrc : SrcC w vx m news) (h1 : ∀ u ∈ news, u.oneCell' = true)
    (h63 : n + m ≤ maxLen) (hbytes : (n + m) * bytes ≤ 140737488355328) (hbase : base ≤ w.heap.size)
    (h : ∀ v' w', w'.ownsRow base e 1 v' (n + m) (xs ++ news) → w.grownBy w' v.ownBlock → wpList P ops Q rest (a.put o.dst v') w') :
    wpList P ops Q (o :: rest) a w := by
  rcases hsrc with ⟨c, rfl, rfl, rfl⟩ | ⟨ad, c, rfl, hl, hnews⟩
  · refine wpList_plain hgd fun K hK => ?_
    have hr := run_append_none_c (P := P) base t o.type e i 1 c ht hi v n xs hown
    unfold Oper.wp execOp
    simp only [ho, resolve, invoke, builtin, Sem.run_bind, Sem.run_pure, Result.andThen_ok, List.map_toArray, List.map_cons, List.map_nil, hs, hx, hr]
    exact hK _ _ (h v w (by rw [List.append_nil]; exact hown) ⟨rfl, rfl, rfl, Nat.le_refl _, fun _ _ _ => rfl⟩)
  · exact wpList_append_own_at w hgd s x t ho base e i z 1 bytes ht hi hz hsize hby hzs (by decide) v n xs hs hown ad m c news hx (by rw [hl, Nat.mul_one]) hnews h1 h63 hbytes hbase fun v' w' h2 h3 _ _ => h v' w' h2 h3

def growR_ren : Go.Shelf.Ren := ⟨fun | 4 => 56 | n => n, fun | 22 => 31 | 31 => 22 | 3 => 3 | 4 => 4 | 9 => 9 | 20 => 20 | 0 => 0 | n => n, fun | n => n⟩
/-- Headers of rows. -/
def HdR (w : World) (us : List Value) (ls : List (List Int)) : Prop := us.length = ls.length ∧ ∀ (i : Nat) l, ls[i]? = some l → ∃ u, us[i]? = some u ∧ Sl w u l
theorem HdR.append {w : World} {us vs : List Value} {ls ms : List (List Int)} (h : HdR w us ls) (k : HdR w vs ms) : HdR w (us ++ vs) (ls ++ ms) := by
  refine ⟨by rw [List.length_append, List.length_append, h.1, k.1], fun i l hl => ?_⟩
  by_cases hi : i < ls.length
  · rw [List.getElem?_append_left hi] at hl
    rw [List.getElem?_append_left (by rw [h.1]; exact hi)]
    exact h.2 i l hl
  · rw [List.getElem?_append_right (by omega)] at hl
    rw [List.getElem?_append_right (by rw [h.1]; omega), h.1]
    exact k.2 _ l hl
theorem HdR.one {w : World} {us : List Value} {ls : List (List Int)} (h : HdR w us ls) : ∀ u ∈ us, u.oneCell' = true := fun u hu => by
  obtain ⟨i, hi, rfl⟩ := List.getElem_of_mem hu
  have hi' : i < ls.length := by rw [← h.1]; exact hi
  obtain ⟨u', h1, a, c, e, _⟩ := h.2 i ls[i] (List.getElem?_eq_getElem hi')
  rw [List.getElem?_eq_getElem hi] at h1
  rw [Option.some.inj h1, e]
  rfl
/-- Rows that are read, as what is appended. -/
theorem rw_src {w : World} {x : Value} {ls : List (List Int)} (h : Rw w x ls) : ∃ us, HdR w us ls ∧ ∀ W, Below w.heap.size w W → SrcC W x ls.length us := by
  obtain ⟨a, cap, rfl, h⟩ := h
  cases a with
  | none =>
    have h0 : ls = [] := by
      cases ls with
      | nil => rfl
      | cons l ls =>
        obtain ⟨b, off, u, e, _⟩ := h 0 l rfl
        cases e
    subst h0
    exact ⟨[], ⟨rfl, fun i l hl => by simp at hl⟩, fun W _ => .inl ⟨cap, rfl, rfl, rfl⟩⟩
  | some ad =>
    have hU : ∀ i : Nat, ∃ u : Value, ∀ l, ls[i]? = some l → (∀ W, Below w.heap.size w W → W.cell? (ad.add i) = some u) ∧ Sl w u l := fun i => by
      cases hi : ls[i]? with
      | none => exact ⟨.slice none 0 0, fun l h => by cases h⟩
      | some l =>
        obtain ⟨b, off, u, e, hc, hs⟩ := h i l hi
        cases e
        exact ⟨u, fun l' h' => by cases h'; exact ⟨fun W bW => by rw [Addr.add_mid]; exact (bW.cell (block_lt_of_cell hc)).trans hc, hs⟩⟩
    obtain ⟨U, hU'⟩ := Classical.axiomOfChoice hU
    refine ⟨(List.range ls.length).map U, ⟨by simp, fun i l hl => ?_⟩, fun W bW => .inr ⟨ad, cap, rfl, by simp, fun j u hj => ?_⟩⟩
    · have hi : i < ls.length := (List.getElem?_eq_some_iff.1 hl).1
      exact ⟨U i, by simp [hi], (hU' i l hl).2⟩
    · have hj' : j < ls.length := by have := (List.getElem?_eq_some_iff.1 hj).1; simpa using this
      have hu : U j = u := by simpa [hj'] using hj
      rw [← hu]
      exact (hU' j ls[j] (List.getElem?_eq_getElem hj')).1 W bW
theorem hdr_rw {w0 w : World} {base : Nat} {v : Value} {us : List Value} {ls : List (List Int)} (h : w.ownsRow base 22 1 v ls.length us) (hd : HdR w0 us ls) (hb : Below w0.heap.size w0 w) : Rw w v ls := by
  obtain ⟨h1, ⟨rfl, h0⟩ | ⟨g, cap, cur, rfl, hg0, hg, h2, h3, h4, ht⟩⟩ := h
  · have : ls = [] := List.length_eq_zero_iff.1 h0
    subst this
    exact ⟨none, 0, rfl, fun i l hi => by simp at hi⟩
  · refine ⟨_, cap, rfl, fun i l hi => ?_⟩
    obtain ⟨u, h5, h6⟩ := hd.2 i l hi
    have hil : i < ls.length := (List.getElem?_eq_some_iff.1 hi).1
    refine ⟨g, 0, u, rfl, ?_, h6.below hb⟩
    rw [cell_of_row w g _ cur 22 (0, 0) hg, Nat.zero_add, ← Array.getElem?_toList]
    have h7 : (cur.toList.take (ls.length * 1))[i]? = us[i]? := by rw [ht]
    rw [List.getElem?_take, if_pos (by omega)] at h7
    rw [h7, h5]
theorem flat_take {ls : List (List (List Int))} {j : Nat} {l : List (List Int)} (h : ls[j]? = some l) : (ls.take (j + 1)).flatten = (ls.take j).flatten ++ l := by
  rw [List.take_add_one, h, Option.toList_some, List.flatten_append]
  simp
theorem flat_le (ls : List (List (List Int))) (j : Nat) : (ls.take j).flatten.length ≤ ls.flatten.length := by
  conv => rhs; rw [← List.take_append_drop j ls, List.flatten_append, List.length_append]
  omega
theorem own_slice {w : World} {base n : Nat} {v : Value} {xs : List Value} (h : w.ownsRow base 22 1 v n xs) : ∃ a c, v = .slice a n c := by
  obtain ⟨_, ⟨rfl, h0⟩ | ⟨g, cap, cur, rfl, _⟩⟩ := h
  · exact ⟨none, 0, by rw [h0]⟩
  · exact ⟨_, _, rfl⟩
end Go.Proofs.YtgdkfbgehbdkjabDoor
