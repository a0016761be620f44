/- Rows of one's own in blocks of their own; the walks of the library's Clone and IndexFunc at rows, and of lead. -/
import Derived.Test.YtjfjdidibglhaabDoorW24
import Derived.Test.YtjfjdidibglhaabDoorSpI
import Derived.Test.YtjfjdidibglhaabDoorSpN
import Derived.Test.YtjfjdidibglhaabDoorSpQ
import Derived.Test.YtjfjdidibglhaabDoorDOw
import Derived.Test.YtjfjdidibglhaabDoorYC1
/- The walk of the field's Check. -/
/- A room: a field that is one and a number of places; the walks of its order, times, plus and less. -/
namespace Go.Proofs.YtjfjdidibglhaabDoor.Fd
variable {P K : Nat} {m : Nat → Int}
theorem less_one (hF : FieldQ P K m) : addQ P K (P - 1) 1 = 0 := by
  have hR := hF.toRing1
  have hP := hR.two
  refine vec_inj hR (addQ_lt hR _ _) (by have := one_lt hR; omega) ?_
  refine (addQ_vec hR _ _).trans fun t ht => ?_
  show (P : Int) ∣ digF (P - 1) P t + digF 1 P t - digF 0 P t
  rw [digF_zero]
  cases t with
  | zero =>
    unfold digF
    rw [Nat.pow_zero, Nat.div_one, Nat.div_one, Nat.mod_eq_of_lt (by omega), Nat.mod_eq_of_lt (by omega)]
    exact ⟨1, by omega⟩
  | succ t =>
    have h1 : P ≤ P ^ (t + 1) := by
      have := Nat.pow_le_pow_right (show 0 < P by omega) (show 1 ≤ t + 1 by omega)
      rwa [Nat.pow_one] at this
    unfold digF
    rw [Nat.div_eq_of_lt (by omega), Nat.div_eq_of_lt (by omega)]
    exact ⟨0, by simp⟩
theorem one_le (hF : FieldQ P K m) : P ≤ P ^ K := by
  have h1 := hF.toRing1.one
  have := Nat.pow_le_pow_right (show 0 < P by have := hF.toRing1.two; omega) h1
  rwa [Nat.pow_one] at this
theorem less_is (hF : FieldQ P K m) {a : Nat} (ha : a < P ^ K) : mulQ P K m (P - 1) a = ngQ P K a := by
  have h := field_fqr hF
  have h1 := one_le hF
  have hP := hF.toRing1.two
  have hp : P - 1 < P ^ K := by omega
  have e : P - 1 = ngQ P K 1 := h.ng_eq hp h.one (less_one hF)
  rw [e, h.ng_mu h.one ha, h.one_mu ha]
end Go.Proofs.YtjfjdidibglhaabDoor.Fd
namespace Go.Proofs.YtjfjdidibglhaabDoor
open Go.RowKit

/-- A field that is one, in memory. -/
structure Fld (P K : Nat) (l : List Int) (v : Value) (w : World) : Prop where
  tab : Fd.Tab w
  sl : Fd.Sl w v l
  len : l.length ≤ maxLen
  good : Fd.GoodF P K l
theorem Fld.below {P K : Nat} {l : List Int} {v : Value} {w w' : World} (h : Fld P K l v w) (hb : Below w.heap.size w w') : Fld P K l v w' := ⟨h.tab.below hb, h.sl.below hb, h.len, h.good⟩
abbrev adF (P K : Nat) : Nat → Nat → Nat := Fd.addQ P K
abbrev muF (P K : Nat) (l : List Int) : Nat → Nat → Nat := Fd.mulQ P K (Fd.monL l)
abbrev ngF (P K : Nat) : Nat → Nat := Fd.ngQ P K
theorem Fld.fqr {P K : Nat} {l : List Int} {v : Value} {w : World} (h : Fld P K l v w) : FqR (P ^ K) (adF P K) (muF P K l) (ngF P K) := Fd.field_fqr h.good.field
/-- A room by value. -/
abbrev rmV (P K : Nat) (v : Value) (n : Nat) : Value := .agg #[.int .i64 (P : Int), .int .i64 (K : Int), v, .int .i64 (n : Int)]
/-- A room in a box, as it is read later. -/
theorem rm_box (P K n : Nat) (v : Value) (w : World) : ∀ W, Below (w.alloc (.cells #[.int .i64 (P : Int), .int .i64 (K : Int), v, .int .i64 (n : Int)] 53)).heap.size (w.alloc (.cells #[.int .i64 (P : Int), .int .i64 (K : Int), v, .int .i64 (n : Int)] 53)) W →
    W.cell? ⟨w.heap.size, 0, none⟩ = some (.int .i64 (P : Int)) ∧ W.cell? ⟨w.heap.size, 1, none⟩ = some (.int .i64 (K : Int)) ∧ W.cell? ⟨w.heap.size, 2, none⟩ = some v ∧ W.cell? ⟨w.heap.size, 3, none⟩ = some (.int .i64 (n : Int)) := fun W b => by
  have k1 := (b.block w.heap.size (by simp)).trans (heap_alloc_new w (.cells #[.int .i64 (P : Int), .int .i64 (K : Int), v, .int .i64 (n : Int)] 53))
  exact ⟨by rw [cell_of_row _ _ _ _ _ _ k1]; rfl, by rw [cell_of_row _ _ _ _ _ _ k1]; rfl, by rw [cell_of_row _ _ _ _ _ _ k1]; rfl, by rw [cell_of_row _ _ _ _ _ _ k1]; rfl⟩
set_option maxRecDepth 100000 in
set_option maxHeartbeats 2000000 in
theorem rtimes_any (P K n a b : Nat) (l : List Int) (v : Value) (w : World) (hF : Fld P K l v w) (ha : a < P ^ K) (hb : b < P ^ K) (s : Nat) (hs : Hid (muF P K l a b = s)) :
    Calls Tryd.prog 113 #[rmV P K v n, .int .i64 (a : Int), .int .i64 (b : Int)] w fun e w' => e = .returned (.int .i64 (s : Int)) ∧ Below w.heap.size w w' := by
  have hbx := balloc w (.cells #[.int .i64 (P : Int), .int .i64 (K : Int), v, .int .i64 (n : Int)] 53)
  obtain ⟨x0, x1, x2, x3⟩ := rm_box P K n v w _ (Below.refl _ _)
  have hF' := hF.below hbx
  have C := Fd.MulG P K a b l v _ hF'.tab hF'.sl hF'.len hF'.good ha hb s hs.out.symm
  obtain ⟨A, ca, rfl, _⟩ := id hF.sl
  go_enter Tryd.func113, Tryd.ntmps113
  go_wp2_with (go_at_call 32; refine C.mono ?_; rintro e w1 ⟨rfl, b1⟩)
  go_ret
  exact ⟨rfl, Below.next hbx b1⟩
set_option maxRecDepth 100000 in
set_option maxHeartbeats 2000000 in
theorem rplus_any (P K n a b : Nat) (l : List Int) (v : Value) (w : World) (hF : Fld P K l v w) (ha : a < P ^ K) (hb : b < P ^ K) (s : Nat) (hs : Hid (adF P K a b = s)) :
    Calls Tryd.prog 114 #[rmV P K v n, .int .i64 (a : Int), .int .i64 (b : Int)] w fun e w' => e = .returned (.int .i64 (s : Int)) ∧ Below w.heap.size w w' := by
  have hbx := balloc w (.cells #[.int .i64 (P : Int), .int .i64 (K : Int), v, .int .i64 (n : Int)] 53)
  obtain ⟨x0, x1, x2, x3⟩ := rm_box P K n v w _ (Below.refl _ _)
  have hF' := hF.below hbx
  have C := Fd.AddG P K a b l v _ hF'.tab hF'.sl hF'.len hF'.good ha hb s hs.out.symm
  obtain ⟨A, ca, rfl, _⟩ := id hF.sl
  go_enter Tryd.func114, Tryd.ntmps114
  go_wp2_with (go_at_call 72; refine C.mono ?_; rintro e w1 ⟨rfl, b1⟩)
  go_ret
  exact ⟨rfl, Below.next hbx b1⟩
set_option maxRecDepth 100000 in
set_option maxHeartbeats 2000000 in
theorem rless_any (P K n a : Nat) (l : List Int) (v : Value) (w : World) (hF : Fld P K l v w) (ha : a < P ^ K) (s : Nat) (hs : Hid (ngF P K a = s)) :
    Calls Tryd.prog 91 #[rmV P K v n, .int .i64 (a : Int)] w fun e w' => e = .returned (.int .i64 (s : Int)) ∧ Below w.heap.size w w' := by
  have hbx := balloc w (.cells #[.int .i64 (P : Int), .int .i64 (K : Int), v, .int .i64 (n : Int)] 53)
  obtain ⟨x0, x1, x2, x3⟩ := rm_box P K n v w _ (Below.refl _ _)
  have hF' := hF.below hbx
  have hP := hF.good.field.toRing1.two
  have hP61 := hF.good.le61
  have h1 := Fd.one_le hF.good.field
  obtain ⟨p1, Hp⟩ : ∃ p1, Hid (P = p1 + 1) := ⟨P - 1, by show _ = _; omega⟩
  have hpi : (P : Int) - 1 = (p1 : Int) := by have := Hp.out; omega
  have hp1 : p1 < P ^ K := by have := Hp.out; omega
  have C := rtimes_any P K n p1 a l v _ hF' hp1 ha s (by
    show _ = _
    have e := Fd.less_is hF.good.field ha
    rw [← hs.out, show p1 = P - 1 by have := Hp.out; omega]
    exact e)
  obtain ⟨A, ca, rfl, _⟩ := id hF.sl
  clear hF' h1
  go_enter Tryd.func91, Tryd.ntmps91
  go_wp2_with (go_at_call 113; refine C.mono ?_; rintro e w1 ⟨rfl, b1⟩)
  go_ret
  exact ⟨rfl, Below.next hbx b1⟩
end Go.Proofs.YtjfjdidibglhaabDoor

/- The walks of the room's order, checkRow and checkRows. -/
namespace Go.Proofs.YtjfjdidibglhaabDoor
open Go.RowKit

set_option maxRecDepth 100000 in
set_option maxHeartbeats 2000000 in
theorem order_anyY (P K n : Nat) (l : List Int) (v : Value) (w : World) (hF : Fld P K l v w) (q : Nat) (hq : Hid (P ^ K = q)) :
    Calls Tryd.prog 49 #[rmV P K v n] w fun e w' => e = .returned (.int .i64 (q : Int)) ∧ Below w.heap.size w w' := by
  have hbx := balloc w (.cells #[.int .i64 (P : Int), .int .i64 (K : Int), v, .int .i64 (n : Int)] 53)
  obtain ⟨x0, x1, x2, x3⟩ := rm_box P K n v w _ (Below.refl _ _)
  have h61 := hF.good.le61
  have h6 := hF.good.le6
  have h64 := hF.good.le64
  have C := fun W => power_any P K W (by omega) (by omega) q (by
    show _ = _
    rw [cO_small (by omega)]; exact hq.out)
  obtain ⟨A, ca, rfl, _⟩ := id hF.sl
  clear h64 hq
  go_enter Tryd.func49, Tryd.ntmps49
  go_wp2_with (go_at_call 48; refine (C _).mono ?_; rintro e w1 ⟨rfl, h1⟩; replace h1 := h1.symm; subst h1)
  go_ret
  exact ⟨rfl, hbx⟩
/-- What is wrong with a row. -/
def rwE (q n : Nat) (r : List Int) : Nat := if r.length ≠ n then 2 else if (List.range r.length).all (fun j => decide (0 ≤ r.getD j 0) && decide (r.getD j 0 < (q : Int))) then 0 else 1
theorem rwE_len {q n : Nat} {r : List Int} (h : r.length ≠ n) : rwE q n r = 2 := by unfold rwE; rw [if_pos h]
theorem rwE_out {q n : Nat} {r : List Int} (h : r.length = n) {j : Nat} (hj : j < r.length) (hb : ¬ (0 ≤ r.getD j 0 ∧ r.getD j 0 < (q : Int))) : rwE q n r = 1 := by
  unfold rwE
  rw [if_neg (fun k => k h), if_neg]
  intro k
  have := List.all_eq_true.1 k j (List.mem_range.2 hj)
  rw [Bool.and_eq_true, decide_eq_true_eq, decide_eq_true_eq] at this
  exact hb this
theorem rwE_in {q n : Nat} {r : List Int} (h : r.length = n) (hb : ∀ j, j < r.length → 0 ≤ r.getD j 0 ∧ r.getD j 0 < (q : Int)) : rwE q n r = 0 := by
  unfold rwE
  rw [if_neg (fun k => k h), if_pos]
  refine List.all_eq_true.2 fun j hj => ?_
  rw [Bool.and_eq_true, decide_eq_true_eq, decide_eq_true_eq]
  exact hb j (List.mem_range.1 hj)
theorem rwE_ok {q n : Nat} {r : List Int} (h : rwE q n r = 0) : r.length = n ∧ ∀ j, j < r.length → 0 ≤ r.getD j 0 ∧ r.getD j 0 < (q : Int) := by
  unfold rwE at h
  by_cases h1 : r.length ≠ n
  · rw [if_pos h1] at h; omega
  · rw [if_neg h1] at h
    refine ⟨by omega, fun j hj => ?_⟩
    split at h
    · rename_i k
      have := List.all_eq_true.1 k j (List.mem_range.2 hj)
      rwa [Bool.and_eq_true, decide_eq_true_eq, decide_eq_true_eq] at this
    · omega
/-- Rows of elements, as numbers. -/
theorem rwE_nat {q n : Nat} {r : List Int} (h : rwE q n r = 0) : ∃ s : List Nat, Vc q n s ∧ r = s.map Int.ofNat := by
  obtain ⟨h1, h2⟩ := rwE_ok h
  refine ⟨r.map Int.toNat, ⟨by simpa using h1, fun x hx => ?_⟩, ?_⟩
  · obtain ⟨y, hy, rfl⟩ := List.mem_map.1 hx
    obtain ⟨j, hj, rfl⟩ := List.getElem_of_mem hy
    have := h2 j hj
    simp [hj] at this
    omega
  · rw [List.map_map]
    refine List.ext_getElem (by simp) fun j h3 h4 => ?_
    have := h2 j h3
    simp [h3] at this
    simp
    omega
/-- What is wrong with rows. -/
def rlE (q n : Nat) : List (List Int) → Nat
  | [] => 0
  | r :: rs => if rwE q n r ≠ 0 then rwE q n r else rlE q n rs
def rsE (q n : Nat) (rs : List (List Int)) : Nat := if 12 < rs.length then 3 else rlE q n rs
theorem rlE_at {q n : Nat} : ∀ {rs : List (List Int)} {i : Nat} {r : List Int}, rs[i]? = some r → (∀ j s, j < i → rs[j]? = some s → rwE q n s = 0) → rwE q n r ≠ 0 → rlE q n rs = rwE q n r
  | [], i, r, h, _, _ => by simp at h
  | s :: rs, 0, r, h, _, h2 => by
    simp only [List.getElem?_cons_zero, Option.some.injEq] at h
    subst h
    rw [rlE, if_pos h2]
  | s :: rs, i + 1, r, h, h1, h2 => by
    have h0 := h1 0 s (by omega) rfl
    rw [rlE, if_neg (by rw [h0]; exact fun k => k rfl)]
    exact rlE_at (by simpa using h) (fun j t hj ht => h1 (j + 1) t (by omega) (by simpa using ht)) h2
theorem rlE_all {q n : Nat} : ∀ {rs : List (List Int)}, (∀ (j : Nat) s, rs[j]? = some s → rwE q n s = 0) → rlE q n rs = 0
  | [], _ => rfl
  | s :: rs, h => by
    rw [rlE, if_neg (by rw [h 0 s rfl]; exact fun k => k rfl)]
    exact rlE_all fun j t ht => h (j + 1) t (by simpa using ht)
theorem rlE_ok {q n : Nat} : ∀ {rs : List (List Int)}, rlE q n rs = 0 → ∀ r ∈ rs, rwE q n r = 0
  | [], _, r, hr => by cases hr
  | s :: rs, h, r, hr => by
    rw [rlE] at h
    by_cases h0 : rwE q n s = 0
    · rw [if_neg (fun k => k h0)] at h
      rcases List.mem_cons.1 hr with e | e
      · rw [e]; exact h0
      · exact rlE_ok h r e
    · rw [if_pos h0] at h; exact absurd h h0
set_option maxRecDepth 100000 in
set_option maxHeartbeats 4000000 in
theorem checkRow_any (P K n : Nat) (l r : List Int) (v u : Value) (w : World) (hF : Fld P K l v w) (hu : Sl w u r) (_hr : r.length ≤ maxLen) (_hn : n ≤ 6) (z : Nat) (hz : Hid (rwE (P ^ K) n r = z)) :
    Calls Tryd.prog 88 #[rmV P K v n, u] w fun e w' => e = .returned (.int .i64 (z : Int)) ∧ Below w.heap.size w w' := by
  have hbx := balloc w (.cells #[.int .i64 (P : Int), .int .i64 (K : Int), v, .int .i64 (n : Int)] 53)
  have HX := rm_box P K n v w
  obtain ⟨w0, Hw0⟩ : ∃ w0, Hid (w.alloc (.cells #[.int .i64 (P : Int), .int .i64 (K : Int), v, .int .i64 (n : Int)] 53) = w0) := ⟨_, rfl⟩
  rw [Hw0.out] at hbx HX
  obtain ⟨q, Hq⟩ : ∃ q, Hid (P ^ K = q) := ⟨_, rfl⟩
  have HC : Hid (∀ W, Below w.heap.size w W → Calls Tryd.prog 49 #[rmV P K v n] W fun e w' => e = .returned (.int .i64 (q : Int)) ∧ Below W.heap.size W w') := fun W b => order_anyY P K n l v W (hF.below b) q Hq
  have hq64 : q ≤ 64 := by rw [← Hq.out]; exact hF.good.le64
  rw [Hq.out] at hz
  have HX2 : Hid (∀ W, Below w0.heap.size w0 W → W.cell? ⟨w.heap.size, 0, none⟩ = some (.int .i64 (P : Int)) ∧ W.cell? ⟨w.heap.size, 1, none⟩ = some (.int .i64 (K : Int)) ∧ W.cell? ⟨w.heap.size, 2, none⟩ = some v ∧ W.cell? ⟨w.heap.size, 3, none⟩ = some (.int .i64 (n : Int))) := HX
  have HB0 : Hid (Below w.heap.size w w0) := hbx
  obtain ⟨A, ca, rfl, _⟩ := id hF.sl
  obtain ⟨a, cap, rfl, hc⟩ := hu
  unfold maxLen at _hr
  have hx0 := HX _ (Below.refl _ _)
  by_cases hl : r.length = n
  · have HA : Hid (∀ W, Below w.heap.size w W → ∀ j, j < n → ∃ b off, a = some ⟨b, off, none⟩ ∧ W.cell? ⟨b, off + j, none⟩ = some (.int .i64 (r.getD j 0))) := fun W bW j hj => by
      obtain ⟨b, off, e, h⟩ := hc j (by omega)
      exact ⟨b, off, e, (bW.cell (p := ⟨b, off + j, none⟩) (block_lt_of_cell h)).trans h⟩
    have HO : Hid (∀ j, j < n → ¬ (0 ≤ r.getD j 0 ∧ r.getD j 0 < (q : Int)) → z = 1) := fun j hj h => by rw [← hz.out]; exact rwE_out hl (by omega) h
    have HI : Hid ((∀ j, j < n → 0 ≤ r.getD j 0 ∧ r.getD j 0 < (q : Int)) → z = 0) := fun h => by rw [← hz.out]; exact rwE_in hl fun j hj => h j (by omega)
    obtain ⟨x0, x1, x2, x3⟩ := hx0
    have hne : ((n : Int) != (n : Int)) = false := by simp
    rw [← Hw0.out] at x0 x1 x2 x3
    rw [hl]
    clear hc hl hz hF HX hbx
    go_enter Tryd.func88, Tryd.ntmps88
    go_wp2
    go_loopw [6, 14] (fun _ jv wr => ∃ j : Nat, jv = .int .i64 (j : Int) ∧ j ≤ n ∧ Hid (∀ i, i < j → 0 ≤ r.getD i 0 ∧ r.getD i 0 < (q : Int)) ∧ Below w0.heap.size w0 wr) (fun _ jv _ => (n - intOf jv).toNat)
    case atStart => exact ⟨0, rfl, by omega, (fun i h => by omega : ∀ i, i < 0 → _), by rw [Hw0.out]; exact Below.refl _ _⟩
    case round =>
      clear x0 x1 x2 x3
      obtain ⟨j, rfl, hj, HJ, hB⟩ := hrel
      have hBB : Below w.heap.size w wr := Below.next HB0.out hB
      by_cases hlt : j < n
      · have hji : (j : Int) < n := by omega
        have hdj : decide ((j : Int) < (n : Int)) = true := by simp; omega
        obtain ⟨b, off, rfl, hcj⟩ := HA.out wr hBB j hlt
        obtain ⟨x0, x1, x2, x3⟩ := HX2.out wr hB
        have C := HC.out wr hBB
        have HO1 := HO.out j hlt
        have HJ1 : Hid (0 ≤ r.getD j 0 ∧ r.getD j 0 < (q : Int) → ∀ i, i < j + 1 → 0 ≤ r.getD i 0 ∧ r.getD i 0 < (q : Int)) := fun h i hi => by
          by_cases e : i = j
          · rw [e]; exact h
          · exact HJ.out i (by omega)
        obtain ⟨y, hy⟩ : ∃ y, r.getD j 0 = y := ⟨_, rfl⟩
        rw [hy] at hcj HO1 HJ1
        have HO2 : Hid (¬ (0 ≤ y ∧ y < (q : Int)) → z = 1) := HO1
        clear hy HO1 HJ
        by_cases h1 : y < 0
        · obtain rfl : z = 1 := HO2.out (by omega)
          have d1 : decide (y < 0) = true := by simpa using h1
          clear HO2 HI HO
          go_wp2
          go_ret
          exact ⟨rfl, hBB⟩
        · have d1 : decide (y < 0) = false := by simpa using h1
          by_cases h2 : (q : Int) ≤ y
          · obtain rfl : z = 1 := HO2.out (by omega)
            have d2 : decide ((q : Int) ≤ y) = true := by simpa using h2
            clear HO2 HI HO
            go_wp2_with (go_at_call 49; refine C.mono ?_; rintro e w1 ⟨rfl, b1⟩)
            go_ret
            exact ⟨rfl, Below.next hBB b1⟩
          · have d2 : decide ((q : Int) ≤ y) = false := by simpa using h2
            have HJ2 := HJ1.out (by omega)
            have HJ3 : Hid (∀ i, i < j + 1 → 0 ≤ r.getD i 0 ∧ r.getD i 0 < (q : Int)) := HJ2
            clear HO2 HJ1 HJ2
            go_wp2_with (go_at_call 49; refine C.mono ?_; rintro e w1 ⟨rfl, b1⟩)
            go_roundw
            case rel => exact ⟨j + 1, by go_num, by omega, HJ3, Below.next hB b1⟩
            case measure => simp [intOf]; omega
      · have hdj : decide ((j : Int) < (n : Int)) = false := by simp; omega
        obtain rfl : j = n := by omega
        obtain rfl : z = 0 := HI.out HJ.out
        go_wp2
        go_ret
        exact ⟨rfl, hBB⟩
  · obtain rfl : z = 2 := by rw [← hz.out]; exact rwE_len hl
    obtain ⟨x0, x1, x2, x3⟩ := hx0
    have hne : ((r.length : Int) != (n : Int)) = true := by simp; omega
    rw [← Hw0.out] at x0 x1 x2 x3 hbx
    generalize r.length = m at *
    clear hc hl hz
    go_enter Tryd.func88, Tryd.ntmps88
    go_wp2
    go_ret
    exact ⟨rfl, hbx⟩
end Go.Proofs.YtjfjdidibglhaabDoor

/- The walks of the room's checkRows and of open. -/
namespace Go.Proofs.YtjfjdidibglhaabDoor
open Go.RowKit

set_option maxRecDepth 100000 in
set_option maxHeartbeats 4000000 in
theorem checkRows_any (P K n : Nat) (l : List Int) (rs : List (List Int)) (v u : Value) (w : World) (hF : Fld P K l v w) (hu : Rw w u rs) (hr : rs.length ≤ maxLen) (hrl : ∀ r ∈ rs, r.length ≤ maxLen) (hn : n ≤ 6) (z : Nat) (hz : Hid (rsE (P ^ K) n rs = z)) :
    Calls Tryd.prog 50 #[rmV P K v n, u] w fun e w' => e = .returned (.int .i64 (z : Int)) ∧ Below w.heap.size w w' := by
  have hbx := balloc w (.cells #[.int .i64 (P : Int), .int .i64 (K : Int), v, .int .i64 (n : Int)] 53)
  have HX := rm_box P K n v w
  obtain ⟨w0, Hw0⟩ : ∃ w0, Hid (w.alloc (.cells #[.int .i64 (P : Int), .int .i64 (K : Int), v, .int .i64 (n : Int)] 53) = w0) := ⟨_, rfl⟩
  rw [Hw0.out] at hbx HX
  obtain ⟨q, Hq⟩ : ∃ q, Hid (P ^ K = q) := ⟨_, rfl⟩
  rw [Hq.out] at hz
  have HX2 : Hid (∀ W, Below w0.heap.size w0 W → W.cell? ⟨w.heap.size, 0, none⟩ = some (.int .i64 (P : Int)) ∧ W.cell? ⟨w.heap.size, 1, none⟩ = some (.int .i64 (K : Int)) ∧ W.cell? ⟨w.heap.size, 2, none⟩ = some v ∧ W.cell? ⟨w.heap.size, 3, none⟩ = some (.int .i64 (n : Int))) := HX
  have HB0 : Hid (Below w.heap.size w w0) := hbx
  have HC : Hid (∀ W, Below w.heap.size w W → ∀ (x : Value) (r : List Int), r ∈ rs → Sl W x r → ∀ y, Hid (rwE q n r = y) → Calls Tryd.prog 88 #[rmV P K v n, x] W fun e w' => e = .returned (.int .i64 (y : Int)) ∧ Below W.heap.size W w') := fun W b x r hm hs y hy =>
    checkRow_any P K n l r v x W (hF.below b) hs (hrl r hm) hn y (by rw [Hq.out]; exact hy)
  have HR : Hid (∀ W, Below w.heap.size w W → Rw W u rs) := fun W b => hu.below b
  obtain ⟨A, ca, rfl, _⟩ := id hF.sl
  obtain ⟨a, cap, rfl, _⟩ := id hu
  unfold maxLen at hr
  obtain ⟨x0, x1, x2, x3⟩ := HX _ (Below.refl _ _)
  rw [← Hw0.out] at x0 x1 x2 x3
  obtain ⟨m, Hm⟩ : ∃ m, Hid (rs.length = m) := ⟨_, rfl⟩
  rw [Hm.out] at hr ⊢
  by_cases hl : 12 < m
  · obtain rfl : z = 3 := by rw [← hz.out]; unfold rsE; rw [if_pos (by rw [Hm.out]; exact hl)]
    have d1 : decide ((12 : Int) < (m : Int)) = true := by simp; omega
    rw [← Hw0.out] at hbx
    clear hz hu hF hrl
    go_enter Tryd.func50, Tryd.ntmps50
    go_wp2
    go_ret
    exact ⟨rfl, hbx⟩
  · have d1 : decide ((12 : Int) < (m : Int)) = false := by simp; omega
    have d1n : decide (12 < m) = false := by simp; omega
    have HZ : Hid (rlE q n rs = z) := by
      show _ = _
      rw [← hz.out]; unfold rsE; rw [if_neg (by rw [Hm.out]; exact hl)]
    have HAt : Hid (∀ i, i < m → ∃ r, rs[i]? = some r) := fun i hi => ⟨rs[i]'(by rw [Hm.out]; exact hi), by simp⟩
    clear hz hu hF hrl HX hbx
    go_enter Tryd.func50, Tryd.ntmps50
    go_wp2
    go_loopw [6, 7, 13] (fun _ _ jv wr => ∃ j : Nat, jv = .int .i64 (j : Int) ∧ j ≤ m ∧ Hid (∀ i r, i < j → rs[i]? = some r → rwE q n r = 0) ∧ Below w0.heap.size w0 wr) (fun _ _ jv _ => (m - intOf jv).toNat)
    case atStart => exact ⟨0, rfl, by omega, (fun i r h => by omega : ∀ i r, i < 0 → _), by rw [Hw0.out]; exact Below.refl _ _⟩
    case round =>
      clear x0 x1 x2 x3
      obtain ⟨j, rfl, hj, HJ, hB⟩ := hrel
      have hBB : Below w.heap.size w wr := Below.next HB0.out hB
      by_cases hlt : j < m
      · have hji : (j : Int) < m := by omega
        have hdj : decide ((j : Int) < (m : Int)) = true := by simp; omega
        obtain ⟨r, hrj⟩ := HAt.out j hlt
        obtain ⟨a', cap', e', hr'⟩ := HR.out wr hBB
        cases e'
        obtain ⟨b, off, x, rfl, hcj, hs⟩ := hr' j r hrj
        obtain ⟨x0, x1, x2, x3⟩ := HX2.out wr hB
        obtain ⟨y, Hy⟩ : ∃ y, Hid (rwE q n r = y) := ⟨_, rfl⟩
        have C := HC.out wr hBB x r (List.mem_of_getElem? hrj) hs y Hy
        obtain ⟨xa, xc, rfl, _⟩ := id hs
        have HRJ : Hid (rs[j]? = some r) := hrj
        obtain ⟨rl, Hrl⟩ : ∃ rl, Hid (r.length = rl) := ⟨_, rfl⟩
        rw [Hrl.out] at C hcj
        clear hr' hs hrj
        by_cases hy0 : y = 0
        · have HJ2 : Hid (∀ i r, i < j + 1 → rs[i]? = some r → rwE q n r = 0) := fun i s hi hs => by
            by_cases e : i = j
            · subst e
              have := HRJ.out.symm.trans hs
              cases this
              rw [Hy.out, hy0]
            · exact HJ.out i s (by omega) hs
          have hd0 : ((y : Int) != 0) = false := by simp; omega
          clear HJ
          go_wp2_with (go_at_call 88; refine C.mono ?_; rintro e w1 ⟨rfl, b1⟩)
          go_roundw
          case rel => exact ⟨j + 1, by go_num, by omega, HJ2, Below.next hB b1⟩
          case measure => simp [intOf]; omega
        · have hd0 : ((y : Int) != 0) = true := by simp; omega
          have hyz : y = z := by
            rw [← HZ.out, ← Hy.out]
            exact (rlE_at HRJ.out (fun i s hi hs => HJ.out i s hi hs) (by rw [Hy.out]; exact hy0)).symm
          subst hyz
          clear HJ HZ
          go_wp2_with (go_at_call 88; refine C.mono ?_; rintro e w1 ⟨rfl, b1⟩)
          go_ret
          exact ⟨rfl, Below.next hBB b1⟩
      · have hdj : decide ((j : Int) < (m : Int)) = false := by simp; omega
        obtain rfl : j = m := by omega
        obtain rfl : z = 0 := by
          rw [← HZ.out]
          exact rlE_all fun i s hs => HJ.out i s (by rw [← Hm.out]; exact (List.getElem?_eq_some_iff.1 hs).1) hs
        go_wp2
        go_ret
        exact ⟨rfl, hBB⟩
end Go.Proofs.YtjfjdidibglhaabDoor

namespace Go.Proofs.YtjfjdidibglhaabDoor.Fd
open Go.RowKit

theorem open_nilY {p k : Int} {l : List Int} {z : Int} (h : OpenIs p k l [] z) : FaultIs p k l z := by
  rcases h with ⟨_, h⟩ | ⟨_, h, _⟩ | ⟨h, _, rfl⟩
  · exact h
  · exact absurd (fun j hj => by simp at hj) h
  · exact h
set_option maxRecDepth 100000 in
set_option maxHeartbeats 1000000 in
theorem FCheck_any (p k : Int) (l : List Int) (v : Value) (w : World) (hT : Tab w) (hl : Sl w v l) (hll : l.length ≤ maxLen) :
    Calls Tryd.prog 47 #[.agg #[.int .i64 p, .int .i64 k, v]] w fun e w' => ∃ z : Int, e = .returned (.int .i64 z) ∧ FaultIs p k l z ∧ Below w.heap.size w w' := by
  obtain ⟨A, ca, rfl, _⟩ := id hl
  have hbx : Below w.heap.size w (w.alloc (.cells #[.int .i64 p, .int .i64 k, .slice A l.length ca] 24)) := (Below.refl _ _).alloc (Nat.le_refl _) _
  go_enter Tryd.func47, Tryd.ntmps47
  go_wp2_with fail
  refine (open_any p k l [] _ _ _ (hT.below hbx) (hl.below hbx) (Sl.nil _) hll (by simp)).mono ?_
  rintro e w1 ⟨z, x, y, c, f, rfl, hO, HZ, hb1⟩
  have hB1 : Below w.heap.size w w1 := hbx.trans (hb1.mono hbx.size)
  have HO : Hid (FaultIs p k l z) := open_nilY hO
  have hnew : RB (w1.alloc (.cells #[.int .i64 0, .int .i64 0, .int .i64 0, .int .i64 0, .int .i64 0, .int .i64 0, .int .i64 0, .int .i64 0, .int .i64 0, .int .i64 0, .int .i64 0, .int .i64 0, .int .i64 0, .int .i64 0] 105)) w1.heap.size 0 0 0 (fun _ => 0) := RB.made w1 0 0 0 (fun _ => 0)
  have hBA : Below w.heap.size w ((w1.alloc (.cells #[.int .i64 0, .int .i64 0, .int .i64 0, .int .i64 0, .int .i64 0, .int .i64 0, .int .i64 0, .int .i64 0, .int .i64 0, .int .i64 0, .int .i64 0, .int .i64 0, .int .i64 0, .int .i64 0] 105)).setRow w1.heap.size (ringRow x y c f)) := bsetRow (hB1.alloc hB1.size _) hB1.size _
  clear hO HZ
  go_wp2_with (first
    | (refine wpList_store_row rfl 105 _ _ rfl w1.heap.size _ rfl rfl 105 _ hnew (inf53 _ _ _ _) rfl (ringRow_one _ _ _ _) ?_))
  go_ret
  exact ⟨z, rfl, HO.out, hBA⟩
end Go.Proofs.YtjfjdidibglhaabDoor.Fd

/- The walk of open: a room and lists of its rows. -/
namespace Go.Proofs.YtjfjdidibglhaabDoor
open Go.RowKit

/-- Some lists of rows. -/
def LsR (w : World) (u : Value) (vs : List Value) (rss : List (List (List Int))) : Prop :=
  ∃ b c, u = .slice (some ⟨b, 0, none⟩) rss.length c ∧ vs.length = rss.length ∧ ∀ (i : Nat) x rs, vs[i]? = some x → rss[i]? = some rs → w.cell? ⟨b, i, none⟩ = some x ∧ Rw w x rs ∧ rs.length ≤ maxLen ∧ ∀ r ∈ rs, r.length ≤ maxLen
theorem LsR.below {w w' : World} {u : Value} {vs : List Value} {rss : List (List (List Int))} (h : LsR w u vs rss) (hb : Below w.heap.size w w') : LsR w' u vs rss := by
  obtain ⟨b, c, e, h1, h2⟩ := h
  refine ⟨b, c, e, h1, fun i x rs hx hr => ?_⟩
  obtain ⟨h3, h4, h5⟩ := h2 i x rs hx hr
  exact ⟨(hb.cell (p := ⟨b, i, none⟩) (block_lt_of_cell h3)).trans h3, h4.below hb, h5⟩
/-- What is wrong with lists of rows. -/
def lsE (q n : Nat) : List (List (List Int)) → Nat
  | [] => 0
  | rs :: rss => if rsE q n rs ≠ 0 then rsE q n rs else lsE q n rss
theorem lsE_at {q n : Nat} : ∀ {rss : List (List (List Int))} {i : Nat} {rs : List (List Int)}, rss[i]? = some rs → (∀ j s, j < i → rss[j]? = some s → rsE q n s = 0) → rsE q n rs ≠ 0 → lsE q n rss = rsE q n rs
  | [], i, r, h, _, _ => by simp at h
  | s :: rs, 0, r, h, _, h2 => by
    simp only [List.getElem?_cons_zero, Option.some.injEq] at h
    subst h
    rw [lsE, if_pos h2]
  | s :: rs, i + 1, r, h, h1, h2 => by
    have h0 := h1 0 s (by omega) rfl
    rw [lsE, if_neg (by rw [h0]; exact fun k => k rfl)]
    exact lsE_at (by simpa using h) (fun j t hj ht => h1 (j + 1) t (by omega) (by simpa using ht)) h2
theorem lsE_all {q n : Nat} : ∀ {rss : List (List (List Int))}, (∀ (j : Nat) s, rss[j]? = some s → rsE q n s = 0) → lsE q n rss = 0
  | [], _ => rfl
  | s :: rs, h => by
    rw [lsE, if_neg (by rw [h 0 s rfl]; exact fun k => k rfl)]
    exact lsE_all fun j t ht => h (j + 1) t (by simpa using ht)
/-- What open answers: what is wrong, and the room. -/
def OpA (z : Int) (rv : Value) (e : Ending) : Prop := ∃ (p k n : Int) (a : Option Addr) (m c : Nat), e = .returned (.tuple #[.agg #[.int .i64 p, .int .i64 k, .slice a m c, .int .i64 n], .int .i64 z]) ∧ (z = 0 → Value.agg #[.int .i64 p, .int .i64 k, .slice a m c, .int .i64 n] = rv)
theorem fl_box (p k : Int) (v : Value) (w : World) : ∀ W, Below (w.alloc (.cells #[.int .i64 p, .int .i64 k, v] 24)).heap.size (w.alloc (.cells #[.int .i64 p, .int .i64 k, v] 24)) W →
    W.cell? ⟨w.heap.size, 0, none⟩ = some (.int .i64 p) ∧ W.cell? ⟨w.heap.size, 1, none⟩ = some (.int .i64 k) ∧ W.cell? ⟨w.heap.size, 2, none⟩ = some v := fun W b => by
  have k1 := (b.block w.heap.size (by simp)).trans (heap_alloc_new w (.cells #[.int .i64 p, .int .i64 k, v] 24))
  exact ⟨by rw [cell_of_row _ _ _ _ _ _ k1]; rfl, by rw [cell_of_row _ _ _ _ _ _ k1]; rfl, by rw [cell_of_row _ _ _ _ _ _ k1]; rfl⟩
/-- The four cells of a room. -/
def rmC (p k : Int) (v : Value) (n : Int) : Array Value := #[.int .i64 p, .int .i64 k, v, .int .i64 n]
def RmB (w : World) (g : Nat) (p k : Int) (v : Value) (n : Int) : Prop := w.heap[g]? = some (.cells (rmC p k v n) 53 (0, 0))
theorem RmB.lt {w : World} {g : Nat} {p k n : Int} {v : Value} (h : RmB w g p k v n) : g < w.heap.size := (Array.getElem?_eq_some_iff.1 h).1
theorem RmB.below {w w' : World} {g : Nat} {p k n : Int} {v : Value} (h : RmB w g p k v n) (hb : Below w.heap.size w w') : RmB w' g p k v n := (hb.block g h.lt).trans h
theorem RmB.whole {w : World} {g : Nat} {p k n : Int} {v : Value} (h : RmB w g p k v n) (p' k' n' : Int) (v' : Value) : RmB (w.setRow g (rmC p' k' v' n')) g p' k' v' n' := setRow_heap w g _ _ _ _ h
theorem RmB.other {w : World} {g : Nat} {p k n : Int} {v : Value} (h : RmB w g p k v n) (j : Nat) (cs : Array Value) (hne : g ≠ j) : RmB (w.setRow j cs) g p k v n := (setRow_other w j g cs hne).trans h
set_option maxRecDepth 100000 in
theorem inf50 (p k n : Int) (v : Value) : (Tryd.prog.info? 53).map (·.size) = some (rmC p k v n).size := by kernel_rfl
theorem rmC_one (p k n : Int) (a : Option Addr) (m c : Nat) : (rmC p k (.slice a m c) n).all (·.oneCell') = true := by
  have h1 : ∀ z : Int, (Value.int .i64 z).oneCell' = true := fun _ => rfl
  have h2 : (Value.slice a m c).oneCell' = true := rfl
  simp [rmC, h1, h2]
set_option maxRecDepth 100000 in
theorem und50 : ∃ fs, Tryd.prog.underlying 53 = some (.struct fs) := by
  have h : (match Tryd.prog.underlying 53 with | some (.struct _) => true | _ => false) = true := by kernel_rfl
  split at h
  · exact ⟨_, by assumption⟩
  · cases h
set_option maxRecDepth 100000 in
theorem post_room {fn : Func} {R : Ending → World → Prop} {a : Act} {w : World} {g : Nat} {p k n z : Int} {v : Value} (hres : fn.results = #[.cell 6 53, .tmp 7])
    (hp : a.tmps.getD 6 undef = .pointer (some ⟨g, 0, none⟩)) (hz : a.tmps.getD 7 undef = .int .i64 z) (hr : RmB w g p k v n) (hd : a.defers = []) (hR : R (.returned (.tuple #[.agg (rmC p k v n), .int .i64 z])) w) : bodyPost Tryd.prog fn R .ret a w := by
  obtain ⟨fs, hu⟩ := und50
  refine bodyPost_ret ?_ hd hR
  have hp' : a.tmps[6]?.getD undef = .pointer (some ⟨g, 0, none⟩) := by simpa using hp
  have hz' : a.tmps[7]?.getD undef = .int .i64 z := by simpa using hz
  simp [results, hres, hp', hz', asAddr, run_loadVar_row w g 53 53 (rmC p k v n) (0, 0) _ hr hu rfl (inf50 p k n v)]
/-- The two boxes that open begins with. -/
theorem open_boxes (p k : Int) (v : Value) (w : World) : Below w.heap.size w ((w.alloc (.cells #[.int .i64 p, .int .i64 k, v] 24)).alloc (.cells #[.int .i64 0, .int .i64 0, .slice none 0 0, .int .i64 0] 53)) ∧
    RmB ((w.alloc (.cells #[.int .i64 p, .int .i64 k, v] 24)).alloc (.cells #[.int .i64 0, .int .i64 0, .slice none 0 0, .int .i64 0] 53)) (w.heap.size + 1) 0 0 (.slice none 0 0) 0 :=
  ⟨Below.next (balloc w _) (balloc _ _), heap_alloc2_new w _ _⟩
set_option maxRecDepth 100000 in
set_option maxHeartbeats 4000000 in
theorem open_fault (p k n z : Int) (l : List Int) (v u rv : Value) (w : World) (hT : Fd.Tab w) (hl : Fd.Sl w v l) (hll : l.length ≤ maxLen) (hz : Fd.FaultIs p k l z) (h0 : z ≠ 0) :
    Calls Tryd.prog 23 #[.agg #[.int .i64 p, .int .i64 k, v], .int .i64 n, u] w fun e w' => OpA z rv e ∧ Below w.heap.size w w' := by
  have b2 := balloc (w.alloc (.cells #[.int .i64 p, .int .i64 k, v] 24)) (.cells #[.int .i64 0, .int .i64 0, .slice none 0 0, .int .i64 0] 53)
  obtain ⟨b3, hr⟩ := open_boxes p k v w
  obtain ⟨x0, x1, x2⟩ := fl_box p k v w _ b2
  have C := Fd.FCheck_any p k l v _ (hT.below b3) (hl.below b3) hll
  have HZ : Hid (∀ y, Fd.FaultIs p k l y → y = z) := fun y hy => hy.one hz
  have hne : (z != 0) = true := by simpa using h0
  obtain ⟨A, ca, rfl, _⟩ := id hl
  obtain ⟨W, HW⟩ : ∃ W, Hid ((w.alloc (.cells #[.int .i64 p, .int .i64 k, .slice A l.length ca] 24)).alloc (.cells #[.int .i64 0, .int .i64 0, .slice none 0 0, .int .i64 0] 53) = W) := ⟨_, rfl⟩
  have HRM : Hid (∀ w1, Below W.heap.size W w1 → RmB w1 (w.heap.size + 1) 0 0 (.slice none 0 0) 0) := fun w1 b => by rw [HW.out] at hr; exact hr.below b
  have HB3 : Hid (Below w.heap.size w W) := by rw [← HW.out]; exact b3
  clear hr b3
  go_enter Tryd.func23, Tryd.ntmps23
  go_wp2_with (first
    | (go_at_call 47; refine C.mono ?_; rintro e w1 ⟨y, rfl, hy, b4⟩; obtain rfl := HZ.out y hy; rw [HW.out] at b4; clear C)
    | (refine wpList_store_row rfl 53 _ _ rfl (w.heap.size + 1) (rmC 0 0 (.slice none 0 0) 0) rfl rfl 53 _ (HRM.out w1 b4) (inf50 _ _ _ _) rfl (rmC_one _ _ _ _ _ _) ?_))
  refine post_room rfl rfl rfl ((HRM.out w1 b4).whole 0 0 0 (.slice none 0 0)) rfl ⟨⟨0, 0, 0, none, 0, 0, rfl, fun h => absurd h h0⟩, Fd.bsetRow (Below.next HB3.out b4) (by omega) _⟩
set_option maxRecDepth 100000 in
set_option maxHeartbeats 4000000 in
theorem open_farY (P K : Nat) (n : Int) (l : List Int) (v u rv : Value) (w : World) (hF : Fld P K l v w) (hn : ¬ (1 ≤ n ∧ n ≤ 6)) :
    Calls Tryd.prog 23 #[.agg #[.int .i64 (P : Int), .int .i64 (K : Int), v], .int .i64 n, u] w fun e w' => OpA 1 rv e ∧ Below w.heap.size w w' := by
  have b2 := balloc (w.alloc (.cells #[.int .i64 (P : Int), .int .i64 (K : Int), v] 24)) (.cells #[.int .i64 0, .int .i64 0, .slice none 0 0, .int .i64 0] 53)
  obtain ⟨b3, hr⟩ := open_boxes (P : Int) (K : Int) v w
  obtain ⟨x0, x1, x2⟩ := fl_box (P : Int) (K : Int) v w _ b2
  have C := Fd.FCheck_any (P : Int) (K : Int) l v _ (hF.tab.below b3) (hF.sl.below b3) hF.len
  have HZ : Hid (∀ y, Fd.FaultIs (P : Int) (K : Int) l y → y = 0) := fun y hy => hy.one hF.good.fault
  have HFl : Hid (∀ W, Below w.heap.size w W → Fld P K l v W) := fun W b => hF.below b
  have hbox := fl_box (P : Int) (K : Int) v w
  obtain ⟨A, ca, rfl, _⟩ := id hF.sl
  obtain ⟨W, HW⟩ : ∃ W, Hid ((w.alloc (.cells #[.int .i64 (P : Int), .int .i64 (K : Int), .slice A l.length ca] 24)).alloc (.cells #[.int .i64 0, .int .i64 0, .slice none 0 0, .int .i64 0] 53) = W) := ⟨_, rfl⟩
  have HRM : Hid (∀ w1, Below W.heap.size W w1 → RmB w1 (w.heap.size + 1) 0 0 (.slice none 0 0) 0) := fun w1 b => by rw [HW.out] at hr; exact hr.below b
  have HB3 : Hid (Below w.heap.size w W) := by rw [← HW.out]; exact b3
  have HBX : Hid (∀ w1, Below W.heap.size W w1 → w1.cell? ⟨w.heap.size, 0, none⟩ = some (.int .i64 (P : Int)) ∧ w1.cell? ⟨w.heap.size, 1, none⟩ = some (.int .i64 (K : Int)) ∧ w1.cell? ⟨w.heap.size, 2, none⟩ = some (.slice A l.length ca)) := fun w1 b => by
    rw [HW.out] at b2
    exact hbox w1 (Below.next b2 b)
  clear hr b3 hbox
  by_cases h1 : n < 1
  · have d1 : decide (n < 1) = true := by simpa using h1
    go_enter Tryd.func23, Tryd.ntmps23
    go_wp2_with (first
      | (go_at_call 47; refine C.mono ?_; rintro e w1 ⟨y, rfl, hy, b4⟩; obtain rfl := HZ.out y hy; rw [HW.out] at b4; obtain ⟨z0, z1, z2⟩ := HBX.out w1 b4; clear C)
      | (refine wpList_store_row rfl 53 _ _ rfl (w.heap.size + 1) (rmC 0 0 (.slice none 0 0) 0) rfl rfl 53 _ (HRM.out w1 b4) (inf50 _ _ _ _) rfl (rmC_one _ _ _ _ _ _) ?_))
    refine post_room rfl rfl rfl ((HRM.out w1 b4).whole 0 0 0 (.slice none 0 0)) rfl ⟨⟨0, 0, 0, none, 0, 0, rfl, fun h => absurd h (by decide)⟩, Fd.bsetRow (Below.next HB3.out b4) (by omega) _⟩
  · have d1 : decide (n < 1) = false := by simpa using h1
    have d2 : decide (6 < n) = true := by simp; omega
    go_enter Tryd.func23, Tryd.ntmps23
    go_wp2_with (first
      | (go_at_call 47; refine C.mono ?_; rintro e w1 ⟨y, rfl, hy, b4⟩; obtain rfl := HZ.out y hy; rw [HW.out] at b4; obtain ⟨z0, z1, z2⟩ := HBX.out w1 b4; clear C)
      | (refine wpList_store_row rfl 53 _ _ rfl (w.heap.size + 1) (rmC 0 0 (.slice none 0 0) 0) rfl rfl 53 _ (HRM.out w1 b4) (inf50 _ _ _ _) rfl (rmC_one _ _ _ _ _ _) ?_))
    refine post_room rfl rfl rfl ((HRM.out w1 b4).whole 0 0 0 (.slice none 0 0)) rfl ⟨⟨0, 0, 0, none, 0, 0, rfl, fun h => absurd h (by decide)⟩, Fd.bsetRow (Below.next HB3.out b4) (by omega) _⟩
theorem RmB.cells {w : World} {g : Nat} {p k n : Int} {v : Value} (h : RmB w g p k v n) : w.cell? ⟨g, 0, none⟩ = some (.int .i64 p) ∧ w.cell? ⟨g, 1, none⟩ = some (.int .i64 k) ∧ w.cell? ⟨g, 2, none⟩ = some v ∧ w.cell? ⟨g, 3, none⟩ = some (.int .i64 n) :=
  ⟨by rw [cell_of_row _ _ _ _ _ _ h]; rfl, by rw [cell_of_row _ _ _ _ _ _ h]; rfl, by rw [cell_of_row _ _ _ _ _ _ h]; rfl, by rw [cell_of_row _ _ _ _ _ _ h]; rfl⟩
theorem rm_made (w : World) : RmB (w.alloc (.cells #[.int .i64 0, .int .i64 0, .slice none 0 0, .int .i64 0] 53)) w.heap.size 0 0 (.slice none 0 0) 0 := heap_alloc_new w _
set_option maxRecDepth 100000 in
set_option maxHeartbeats 8000000 in
theorem open_full (P K n : Nat) (l : List Int) (v u rv : Value) (w : World) (hF : Fld P K l v w) (h1 : 1 ≤ n) (h6 : n ≤ 6) (hf : 4096 < (P ^ K) ^ n) :
    Calls Tryd.prog 23 #[.agg #[.int .i64 (P : Int), .int .i64 (K : Int), v], .int .i64 (n : Int), u] w fun e w' => OpA 3 rv e ∧ Below w.heap.size w w' := by
  have b2 := balloc (w.alloc (.cells #[.int .i64 (P : Int), .int .i64 (K : Int), v] 24)) (.cells #[.int .i64 0, .int .i64 0, .slice none 0 0, .int .i64 0] 53)
  obtain ⟨b3, hr⟩ := open_boxes (P : Int) (K : Int) v w
  obtain ⟨x0, x1, x2⟩ := fl_box (P : Int) (K : Int) v w _ b2
  have C := Fd.FCheck_any (P : Int) (K : Int) l v _ (hF.tab.below b3) (hF.sl.below b3) hF.len
  have HZ : Hid (∀ y, Fd.FaultIs (P : Int) (K : Int) l y → y = 0) := fun y hy => hy.one hF.good.fault
  have HFl : Hid (∀ W, Below w.heap.size w W → Fld P K l v W) := fun W b => hF.below b
  have hbox := fl_box (P : Int) (K : Int) v w
  obtain ⟨A, ca, rfl, _⟩ := id hF.sl
  obtain ⟨W, HW⟩ : ∃ W, Hid ((w.alloc (.cells #[.int .i64 (P : Int), .int .i64 (K : Int), .slice A l.length ca] 24)).alloc (.cells #[.int .i64 0, .int .i64 0, .slice none 0 0, .int .i64 0] 53) = W) := ⟨_, rfl⟩
  have HRM : Hid (∀ w1, Below W.heap.size W w1 → RmB w1 (w.heap.size + 1) 0 0 (.slice none 0 0) 0) := fun w1 b => by rw [HW.out] at hr; exact hr.below b
  have HB3 : Hid (Below w.heap.size w W) := by rw [← HW.out]; exact b3
  have HBX : Hid (∀ w1, Below W.heap.size W w1 → w1.cell? ⟨w.heap.size, 0, none⟩ = some (.int .i64 (P : Int)) ∧ w1.cell? ⟨w.heap.size, 1, none⟩ = some (.int .i64 (K : Int)) ∧ w1.cell? ⟨w.heap.size, 2, none⟩ = some (.slice A l.length ca)) := fun w1 b => by
    rw [HW.out] at b2
    exact hbox w1 (Below.next b2 b)
  clear hr b3 hbox
  have d1 : decide ((n : Int) < 1) = false := by simp; omega
  have d1n : decide (n < 1) = false := by simp; omega
  have d2 : decide ((6 : Int) < (n : Int)) = false := by simp; omega
  have d2n : decide (6 < n) = false := by simp; omega
  obtain ⟨q, Hq⟩ : ∃ q, Hid (P ^ K = q) := ⟨_, rfl⟩
  have HO : Hid (∀ W, Below w.heap.size w W → Calls Tryd.prog 49 #[rmV P K (.slice A l.length ca) n] W fun e w' => e = .returned (.int .i64 (q : Int)) ∧ Below W.heap.size W w') := fun W b => order_anyY P K n l _ W (HFl.out W b) q Hq
  obtain ⟨s, Hs⟩ : ∃ s, Hid (cO (q ^ n) = s) := ⟨_, rfl⟩
  have hq64 : q ≤ 64 := by rw [← Hq.out]; exact hF.good.le64
  have CP := fun W => power_any q n W hq64 (by omega) s Hs
  have hs4 : 4096 < s := by
    rw [Hq.out] at hf
    rw [← Hs.out]; unfold cO; omega
  have d3 : decide ((4096 : Int) < (s : Int)) = true := by simp; omega
  clear hF hf
  go_enter Tryd.func23, Tryd.ntmps23
  go_wp2_with (first
    | (go_at_call 47; refine C.mono ?_; rintro e w1 ⟨y, rfl, hy, b4⟩; obtain rfl := HZ.out y hy; rw [HW.out] at b4; obtain ⟨z0, z1, z2⟩ := HBX.out w1 b4; clear C)
    | (refine wpList_store_row rfl 53 _ _ rfl w1.heap.size (rmC P K (.slice A l.length ca) n) rfl rfl 53 _ (rm_made w1) (inf50 _ _ _ _) rfl (rmC_one _ _ _ _ _ _) ?_; have r2 := (rm_made w1).whole P K n (.slice A l.length ca); have b5 : Below W.heap.size W ((w1.alloc (.cells #[.int .i64 0, .int .i64 0, .slice none 0 0, .int .i64 0] 53)).setRow w1.heap.size (rmC P K (.slice A l.length ca) n)) := Fd.bsetRow (b4.alloc b4.size _) b4.size _; revert r2 b5; generalize ((w1.alloc (.cells #[.int .i64 0, .int .i64 0, .slice none 0 0, .int .i64 0] 53)).setRow w1.heap.size (rmC P K (.slice A l.length ca) n)) = W2; intro r2 b5; obtain ⟨c0, c1, c2, c3⟩ := r2.cells)
    | (go_at_call 49; refine (HO.out W2 (Below.next HB3.out b5)).mono ?_; rintro e w3 ⟨rfl, b6⟩)
    | (go_at_call 48; refine (CP _).mono ?_; rintro e w4 ⟨rfl, h4⟩; replace h4 := h4.symm; subst h4)
    | (refine wpList_store_row rfl 53 _ _ rfl (w.heap.size + 1) (rmC 0 0 (.slice none 0 0) 0) rfl rfl 53 _ (HRM.out w3 (Below.next b5 b6)) (inf50 _ _ _ _) rfl (rmC_one _ _ _ _ _ _) ?_))
  refine post_room rfl rfl rfl ((HRM.out w3 (Below.next b5 b6)).whole 0 0 0 (.slice none 0 0)) rfl ⟨⟨0, 0, 0, none, 0, 0, rfl, fun h => absurd h (by decide)⟩, Fd.bsetRow (Below.next HB3.out (Below.next b5 b6)) (by omega) _⟩
set_option maxRecDepth 100000 in
set_option maxHeartbeats 8000000 in
theorem open_rows (P K n : Nat) (l : List Int) (v u : Value) (vs : List Value) (rss : List (List (List Int))) (w : World) (hF : Fld P K l v w) (h1 : 1 ≤ n) (h6 : n ≤ 6) (hf : (P ^ K) ^ n ≤ 4096) (hu : LsR w u vs rss) (hm2 : rss.length ≤ 2) (z : Nat) (hz : Hid (lsE (P ^ K) n rss = z)) :
    Calls Tryd.prog 23 #[.agg #[.int .i64 (P : Int), .int .i64 (K : Int), v], .int .i64 (n : Int), u] w fun e w' => OpA (z : Int) (rmV P K v n) e ∧ Below w.heap.size w w' := by
  have b2 := balloc (w.alloc (.cells #[.int .i64 (P : Int), .int .i64 (K : Int), v] 24)) (.cells #[.int .i64 0, .int .i64 0, .slice none 0 0, .int .i64 0] 53)
  obtain ⟨b3, hr⟩ := open_boxes (P : Int) (K : Int) v w
  obtain ⟨x0, x1, x2⟩ := fl_box (P : Int) (K : Int) v w _ b2
  have C := Fd.FCheck_any (P : Int) (K : Int) l v _ (hF.tab.below b3) (hF.sl.below b3) hF.len
  have HZ : Hid (∀ y, Fd.FaultIs (P : Int) (K : Int) l y → y = 0) := fun y hy => hy.one hF.good.fault
  have HFl : Hid (∀ W, Below w.heap.size w W → Fld P K l v W) := fun W b => hF.below b
  have hbox := fl_box (P : Int) (K : Int) v w
  obtain ⟨A, ca, rfl, _⟩ := id hF.sl
  obtain ⟨W, HW⟩ : ∃ W, Hid ((w.alloc (.cells #[.int .i64 (P : Int), .int .i64 (K : Int), .slice A l.length ca] 24)).alloc (.cells #[.int .i64 0, .int .i64 0, .slice none 0 0, .int .i64 0] 53) = W) := ⟨_, rfl⟩
  have HRM : Hid (∀ w1, Below W.heap.size W w1 → RmB w1 (w.heap.size + 1) 0 0 (.slice none 0 0) 0) := fun w1 b => by rw [HW.out] at hr; exact hr.below b
  have HB3 : Hid (Below w.heap.size w W) := by rw [← HW.out]; exact b3
  have HBX : Hid (∀ w1, Below W.heap.size W w1 → w1.cell? ⟨w.heap.size, 0, none⟩ = some (.int .i64 (P : Int)) ∧ w1.cell? ⟨w.heap.size, 1, none⟩ = some (.int .i64 (K : Int)) ∧ w1.cell? ⟨w.heap.size, 2, none⟩ = some (.slice A l.length ca)) := fun w1 b => by
    rw [HW.out] at b2
    exact hbox w1 (Below.next b2 b)
  clear hr b3 hbox
  have d1 : decide ((n : Int) < 1) = false := by simp; omega
  have d1n : decide (n < 1) = false := by simp; omega
  have d2 : decide ((6 : Int) < (n : Int)) = false := by simp; omega
  have d2n : decide (6 < n) = false := by simp; omega
  obtain ⟨q, Hq⟩ : ∃ q, Hid (P ^ K = q) := ⟨_, rfl⟩
  have HO : Hid (∀ W, Below w.heap.size w W → Calls Tryd.prog 49 #[rmV P K (.slice A l.length ca) n] W fun e w' => e = .returned (.int .i64 (q : Int)) ∧ Below W.heap.size W w') := fun W b => order_anyY P K n l _ W (HFl.out W b) q Hq
  obtain ⟨s, Hs⟩ : ∃ s, Hid (cO (q ^ n) = s) := ⟨_, rfl⟩
  have hq64 : q ≤ 64 := by rw [← Hq.out]; exact hF.good.le64
  have CP := fun W => power_any q n W hq64 (by omega) s Hs
  have hs4 : ¬ 4096 < s := by
    rw [Hq.out] at hf
    rw [← Hs.out]; unfold cO; omega
  have d3 : decide ((4096 : Int) < (s : Int)) = false := by simp; omega
  have d3n : decide (4096 < s) = false := by simpa using hs4
  have HCR : Hid (∀ W, Below w.heap.size w W → ∀ (x : Value) (rs : List (List Int)), Rw W x rs → rs.length ≤ maxLen → (∀ r ∈ rs, r.length ≤ maxLen) → ∀ y, Hid (rsE q n rs = y) → Calls Tryd.prog 50 #[rmV P K (.slice A l.length ca) n, x] W fun e w' => e = .returned (.int .i64 (y : Int)) ∧ Below W.heap.size W w') := fun W b x rs hx h1 h2 y hy =>
    checkRows_any P K n l rs _ x W (HFl.out W b) hx h1 h2 h6 y (by rw [Hq.out]; exact hy)
  have HLS : Hid (∀ W, Below w.heap.size w W → LsR W u vs rss) := fun W b => hu.below b
  rw [Hq.out] at hz
  obtain ⟨m, Hm⟩ : ∃ m, Hid (rss.length = m) := ⟨_, rfl⟩
  rw [Hm.out] at hm2
  have HAt : Hid (∀ i, i < m → ∃ x rs, vs[i]? = some x ∧ rss[i]? = some rs) := fun i hi => by
    obtain ⟨b, c, e, h3, h4⟩ := hu
    exact ⟨vs[i]'(by rw [h3, Hm.out]; exact hi), rss[i]'(by rw [Hm.out]; exact hi), by simp, by simp⟩
  obtain ⟨ub, uc, rfl, _⟩ := id hu
  rw [Hm.out] at HLS ⊢
  clear hF hf hu
  go_enter Tryd.func23, Tryd.ntmps23
  go_wp2_with (first
    | (go_at_call 47; refine C.mono ?_; rintro e w1 ⟨y, rfl, hy, b4⟩; obtain rfl := HZ.out y hy; rw [HW.out] at b4; obtain ⟨z0, z1, z2⟩ := HBX.out w1 b4; clear C)
    | (refine wpList_store_row rfl 53 _ _ rfl w1.heap.size (rmC P K (.slice A l.length ca) n) rfl rfl 53 _ (rm_made w1) (inf50 _ _ _ _) rfl (rmC_one _ _ _ _ _ _) ?_; have r2 := (rm_made w1).whole P K n (.slice A l.length ca); have b5 : Below W.heap.size W ((w1.alloc (.cells #[.int .i64 0, .int .i64 0, .slice none 0 0, .int .i64 0] 53)).setRow w1.heap.size (rmC P K (.slice A l.length ca) n)) := Fd.bsetRow (b4.alloc b4.size _) b4.size _; revert r2 b5; generalize ((w1.alloc (.cells #[.int .i64 0, .int .i64 0, .slice none 0 0, .int .i64 0] 53)).setRow w1.heap.size (rmC P K (.slice A l.length ca) n)) = W2; intro r2 b5; obtain ⟨c0, c1, c2, c3⟩ := r2.cells)
    | (go_at_call 49; refine (HO.out W2 (Below.next HB3.out b5)).mono ?_; rintro e w3 ⟨rfl, b6⟩)
    | (go_at_call 48; refine (CP _).mono ?_; rintro e w4 ⟨rfl, h4⟩; replace h4 := h4.symm; subst h4))
  have BW : Hid (∀ W', Below w3.heap.size w3 W' → Below W.heap.size W W') := fun W' b => Below.next (Below.next b5 b6) b
  have HR2 : Hid (∀ W', Below w3.heap.size w3 W' → RmB W' w1.heap.size (P : Int) (K : Int) (.slice A l.length ca) (n : Int)) := fun W' b => r2.below (Below.next b6 b)
  clear c0 c1 c2 c3 r2 x0 x1 x2 b2
  go_loopw [11, 12, 37] (fun _ _ jv wr => ∃ j : Nat, jv = .int .i64 (j : Int) ∧ j ≤ m ∧ Hid (∀ i rs, i < j → rss[i]? = some rs → rsE q n rs = 0) ∧ Below w3.heap.size w3 wr) (fun _ _ jv _ => (m - intOf jv).toNat)
  case atStart => exact ⟨0, rfl, by omega, (fun i r h => by omega : ∀ i r, i < 0 → _), Below.refl _ _⟩
  case round =>
    obtain ⟨j, rfl, hj, HJ, hB⟩ := hrel
    have hBW := BW.out wr hB
    have hBB : Below w.heap.size w wr := Below.next HB3.out hBW
    have r2 := HR2.out wr hB
    obtain ⟨c0, c1, c2, c3⟩ := r2.cells
    by_cases hlt : j < m
    · have hji : (j : Int) < m := by omega
      have hdj : decide ((j : Int) < (m : Int)) = true := by simp; omega
      obtain ⟨x, rs, hx, hrs⟩ := HAt.out j hlt
      obtain ⟨b', c', e', _, h9⟩ := HLS.out wr hBB
      obtain ⟨rfl, rfl⟩ : ub = b' ∧ uc = c' := by
        simp only [Value.slice.injEq, Option.some.injEq, Addr.mk.injEq] at e'
        exact ⟨e'.1.1, e'.2.2⟩
      obtain ⟨hcj, hw, hl1, hl2⟩ := h9 j x rs hx hrs
      obtain ⟨y, Hy⟩ : ∃ y, Hid (rsE q n rs = y) := ⟨_, rfl⟩
      have CC := HCR.out wr hBB x rs hw hl1 hl2 y Hy
      obtain ⟨xa, xc, rfl, _⟩ := id hw
      have HRJ : Hid (rss[j]? = some rs) := hrs
      obtain ⟨rl, Hrl⟩ : ∃ rl, Hid (rs.length = rl) := ⟨_, rfl⟩
      rw [Hrl.out] at CC hcj
      clear h9 hw hrs hx hl1 hl2 e'
      by_cases hy0 : y = 0
      · have HJ2 : Hid (∀ i rs, i < j + 1 → rss[i]? = some rs → rsE q n rs = 0) := fun i s hi hs => by
          by_cases e : i = j
          · subst e
            have := HRJ.out.symm.trans hs
            cases this
            rw [Hy.out, hy0]
          · exact HJ.out i s (by omega) hs
        have hd0 : ((y : Int) != 0) = false := by simp; omega
        clear HJ
        go_wp2_with (go_at_call 50; refine CC.mono ?_; rintro e w5 ⟨rfl, b7⟩)
        go_roundw
        case rel => exact ⟨j + 1, by go_num, by omega, HJ2, Below.next hB b7⟩
        case measure => simp [intOf]; omega
      · have hd0 : ((y : Int) != 0) = true := by simp; omega
        have hyz : y = z := by
          rw [← hz.out, ← Hy.out]
          exact (lsE_at HRJ.out (fun i s hi hs => HJ.out i s hi hs) (by rw [Hy.out]; exact hy0)).symm
        subst hyz
        clear HJ hz
        go_wp2_with (first
          | (go_at_call 50; refine CC.mono ?_; rintro e w5 ⟨rfl, b7⟩; clear CC)
          | (refine wpList_store_row rfl 53 _ _ rfl (w.heap.size + 1) (rmC 0 0 (.slice none 0 0) 0) rfl rfl 53 _ (HRM.out w5 (Below.next hBW b7)) (inf50 _ _ _ _) rfl (rmC_one _ _ _ _ _ _) ?_))
        refine post_room rfl rfl rfl ((HRM.out w5 (Below.next hBW b7)).whole 0 0 0 (.slice none 0 0)) rfl ⟨⟨0, 0, 0, none, 0, 0, rfl, fun h => absurd h (by omega)⟩, Fd.bsetRow (Below.next hBB b7) (by omega) _⟩
    · have hdj : decide ((j : Int) < (m : Int)) = false := by simp; omega
      obtain rfl : j = m := by omega
      obtain rfl : z = 0 := by
        rw [← hz.out]
        exact lsE_all fun i s hs => HJ.out i s (by rw [← Hm.out]; exact (List.getElem?_eq_some_iff.1 hs).1) hs
      go_wp2_with (first
        | (refine wpList_store_row rfl 53 _ _ rfl (w.heap.size + 1) (rmC P K (.slice A l.length ca) n) rfl rfl 53 _ (HRM.out wr hBW) (inf50 _ _ _ _) rfl (rmC_one _ _ _ _ _ _) ?_))
      refine post_room rfl rfl rfl ((HRM.out wr hBW).whole P K n (.slice A l.length ca)) rfl ⟨⟨P, K, n, A, l.length, ca, rfl, fun _ => rfl⟩, Fd.bsetRow hBB (by omega) _⟩
end Go.Proofs.YtjfjdidibglhaabDoor

namespace Go.Proofs.YtjfjdidibglhaabDoor
open Go.RowKit

def swpI (A : Nat → Nat → Int) (a k : Nat) : Nat → Nat → Int := fun i => if i = a then A k else if i = k then A a else A i
/-! ### Rows in memory -/
/-- Block g holds R slices, each of a row of its own of n numbers. -/
structure Mat (w : World) (base g R n : Nat) (B cp : Nat → Nat) (A : Nat → Nat → Int) : Prop where
  out : ∃ cur, w.heap[g]? = some (.cells cur 22 (0, 0)) ∧ ∀ i, i < R → cur[i]? = some (.slice (some ⟨B i, 0, none⟩) n (cp i))
  row : ∀ i, i < R → Own w (B i) n (A i)
  sep : ∀ i j, i < R → j < R → B i = B j → i = j
  lo : ∀ i, i < R → base ≤ B i ∧ B i ≠ g
theorem Mat.hd {w : World} {base g R n : Nat} {B cp : Nat → Nat} {A : Nat → Nat → Int} (h : Mat w base g R n B cp A) {i : Nat} (hi : i < R) : w.cell? ⟨g, i, none⟩ = some (.slice (some ⟨B i, 0, none⟩) n (cp i)) := by
  obtain ⟨cur, h1, h2⟩ := h.out
  rw [cell_of_row w g i _ _ _ h1, h2 i hi]
theorem Mat.hdf {w : World} {base g R n : Nat} {B cp : Nat → Nat} {A : Nat → Nat → Int} (h : Mat w base g R n B cp A) (i : Nat) : w.frozen? ⟨g, i, none⟩ = false := by
  obtain ⟨cur, h1, _⟩ := h.out
  exact frozen_of_row w g i _ _ h1
theorem Mat.cell {w : World} {base g R n : Nat} {B cp : Nat → Nat} {A : Nat → Nat → Int} (h : Mat w base g R n B cp A) {i j : Nat} (hi : i < R) (hj : j < n) : w.cell? ⟨B i, j, none⟩ = some (.int .i64 (A i j)) := (h.row i hi).cell j hj
theorem Mat.frozen {w : World} {base g R n : Nat} {B cp : Nat → Nat} {A : Nat → Nat → Int} (h : Mat w base g R n B cp A) {i : Nat} (hi : i < R) (j : Nat) : w.frozen? ⟨B i, j, none⟩ = false := (h.row i hi).frozen j
theorem Mat.congr {w : World} {base g R n : Nat} {B cp : Nat → Nat} {A A' : Nat → Nat → Int} (h : Mat w base g R n B cp A) (e : ∀ i j, i < R → j < n → A i j = A' i j) : Mat w base g R n B cp A' :=
  ⟨h.out, fun i hi => (h.row i hi).congr (fun j hj => e i j hi hj), h.sep, h.lo⟩
theorem Mat.drew {w : World} {base g R n : Nat} {B cp : Nat → Nat} {A : Nat → Nat → Int} (h : Mat w base g R n B cp A) : Mat w.drew base g R n B cp A := ⟨h.out, h.row, h.sep, h.lo⟩
theorem Mat.glt {w : World} {base g R n : Nat} {B cp : Nat → Nat} {A : Nat → Nat → Int} (h : Mat w base g R n B cp A) : g < w.heap.size := by
  obtain ⟨cur, h1, _⟩ := h.out
  exact (Array.getElem?_eq_some_iff.1 h1).1
theorem Mat.set {w : World} {base g R n : Nat} {B cp : Nat → Nat} {A : Nat → Nat → Int} (h : Mat w base g R n B cp A) {i : Nat} (hi : i < R) (j : Nat) (v : Int) :
    Mat (w.setCell ⟨B i, j, none⟩ (.int .i64 v)) base g R n B cp (fun r => if r = i then upd (A r) j v else A r) := by
  obtain ⟨cur, h1, h2⟩ := h.out
  refine ⟨⟨cur, (heap_setCell_other w _ g _ (fun e => (h.lo i hi).2 e.symm)).trans h1, h2⟩, fun r hr => ?_, h.sep, h.lo⟩
  by_cases e : r = i
  · subst e
    rw [if_pos rfl]
    exact (h.row r hr).set j v
  · rw [if_neg e]
    exact (h.row r hr).other _ _ (fun e' => e (h.sep r i hr hi e'))
/-- Blocks that stay as they were. -/
theorem Mat.kept {w w' : World} {base g R n : Nat} {B cp : Nat → Nat} {A : Nat → Nat → Int} (h : Mat w base g R n B cp A) (hk : ∀ k, (k = g ∨ ∃ i, i < R ∧ k = B i) → w'.heap[k]? = w.heap[k]?) : Mat w' base g R n B cp A := by
  obtain ⟨cur, h1, h2⟩ := h.out
  refine ⟨⟨cur, (hk g (.inl rfl)).trans h1, h2⟩, fun i hi => ?_, h.sep, h.lo⟩
  obtain ⟨c, h3, h4⟩ := h.row i hi
  exact ⟨c, (hk _ (.inr ⟨i, hi, rfl⟩)).trans h3, h4⟩
theorem Mat.swap {w : World} {base g R n : Nat} {B cp : Nat → Nat} {A : Nat → Nat → Int} (h : Mat w base g R n B cp A) {a k : Nat} (ha : a < R) (hk : k < R) :
    Mat ((w.setCell ⟨g, a, none⟩ (.slice (some ⟨B k, 0, none⟩) n (cp k))).setCell ⟨g, k, none⟩ (.slice (some ⟨B a, 0, none⟩) n (cp a))) base g R n
      (fun i => if i = a then B k else if i = k then B a else B i) (fun i => if i = a then cp k else if i = k then cp a else cp i) (swpI A a k) := by
  obtain ⟨cur, h1, h2⟩ := h.out
  have hB : ∀ i, i < R → ∃ i', i' < R ∧ (if i = a then B k else if i = k then B a else B i) = B i' ∧ swpI A a k i = A i' ∧ (i = a ∧ i' = k ∨ i ≠ a ∧ i = k ∧ i' = a ∨ i ≠ a ∧ i ≠ k ∧ i' = i) := by
    intro i hi
    unfold swpI
    by_cases e1 : i = a
    · exact ⟨k, hk, by rw [if_pos e1], by rw [if_pos e1], .inl ⟨e1, rfl⟩⟩
    · by_cases e2 : i = k
      · exact ⟨a, ha, by rw [if_neg e1, if_pos e2], by rw [if_neg e1, if_pos e2], .inr (.inl ⟨e1, e2, rfl⟩)⟩
      · exact ⟨i, hi, by rw [if_neg e1, if_neg e2], by rw [if_neg e1, if_neg e2], .inr (.inr ⟨e1, e2, rfl⟩)⟩
  refine ⟨⟨_, heap_setCell_same _ _ _ _ _ _ (heap_setCell_same _ _ _ _ _ _ h1), fun i hi => ?_⟩, fun i hi => ?_, fun i j hi hj e => ?_, fun i hi => ?_⟩
  · have hs : i < cur.size := (Array.getElem?_eq_some_iff.1 (h2 i hi)).1
    rw [Array.getElem?_setIfInBounds, Array.getElem?_setIfInBounds]
    by_cases e2 : k = i
    · subst e2
      rw [if_pos rfl, if_pos (by simp [hs])]
      by_cases e1 : k = a
      · subst e1; simp
      · simp [e1]
    · rw [if_neg e2]
      by_cases e1 : a = i
      · subst e1; rw [if_pos rfl, if_pos hs]; simp
      · rw [if_neg e1, h2 i hi]; simp [Ne.symm e1, Ne.symm e2]
  · obtain ⟨i', hi', e1, e2, _⟩ := hB i hi
    rw [e1, e2]
    exact ((h.row i' hi').other _ _ (h.lo i' hi').2).other _ _ (h.lo i' hi').2
  · obtain ⟨i', hi', e1, _, c1⟩ := hB i hi
    obtain ⟨j', hj', e2, _, c2⟩ := hB j hj
    have e' : (if i = a then B k else if i = k then B a else B i) = (if j = a then B k else if j = k then B a else B j) := e
    rw [e1, e2] at e'
    have := h.sep i' j' hi' hj' e'
    omega
  · obtain ⟨i', hi', e1, _, _⟩ := hB i hi
    show base ≤ (if i = a then B k else if i = k then B a else B i) ∧ (if i = a then B k else if i = k then B a else B i) ≠ g
    rw [e1]
    exact h.lo i' hi'
set_option maxRecDepth 100000 in
set_option maxHeartbeats 2000000 in
/-- A copy of a row that has one element or more. -/
theorem CloneI_any (l : List Int) (v : Value) (w : World) (hv : Sl w v l) (h0 : 1 ≤ l.length) (hl : l.length ≤ 99) :
    Calls Tryd.prog 80 #[v] w fun e w' => ∃ y, e = .returned y ∧ w'.ownsRow w.heap.size 3 1 y l.length (l.map (Value.int .i64)) ∧ Below w.heap.size w w' := by
  obtain ⟨i3, ti, tz0, tz1, tz2⟩ := info3
  obtain ⟨b, off, cap, rfl, hb, hc⟩ := hv.form rfl (by omega)
  have q22 : ∀ (w : World) (a : Option Addr) (n c : Nat), (binOp .eql 22 (.slice a n c) (.slice none 0 0)).run Tryd.prog w = .ok (.bool a.isNone) w := fun w a n c => by
    have h := run_equal_slice_nil (P := Tryd.prog) w 22 3 a n c und22
    simp only [binOp]
    simp [h]
  obtain ⟨n, Hn⟩ : ∃ n, Hid (l.length = n) := ⟨_, rfl⟩
  rw [Hn.out] at hl h0 ⊢
  have HN : Hid (∀ (j : Nat) (u : Value), (l.map (Value.int .i64))[j]? = some u → (w.alloc (.cells #[] 3)).cell? (Addr.add ⟨b, off, none⟩ j) = some u) := fun j u hj => by
    have hjl : j < l.length := by have := (List.getElem?_eq_some_iff.1 hj).1; simpa using this
    have h := hc j hjl
    rw [Addr.add_mid, (balloc w (.cells #[] 3)).cell (p := ⟨b, off + j, none⟩) hb, h]
    simpa [hjl] using hj
  clear hc
  go_enter Tryd.func80, Tryd.ntmps80
  go_wp2_with (first
    | (at_builtin; refine wpList_append_own _ rfl _ _ 22 rfl w.heap.size 3 i3 (.int .i64 0) 1 8 und22 ti tz0 tz1 tz2 rfl (by decide) _ 0 [] rfl ?o1 ⟨b, off, none⟩ n _ (l.map (Value.int .i64)) rfl (by simpa using Hn.out) ?o2 ?o3 ?o4 ?o5 ?o6 ?_)
    | go_in)
  case o1 => exact ⟨rfl, .inr ⟨w.heap.size, 0, #[], rfl, Nat.le_refl _, heap_alloc_new w _, Nat.le_refl _, by unfold maxLen; omega, rfl, rfl⟩⟩
  case o2 => exact HN.out
  case o3 => intro u hu; obtain ⟨z, _, rfl⟩ := List.mem_map.1 hu; rfl
  case o4 => unfold maxLen; omega
  case o5 => omega
  case o6 => simp
  intro v' w' hO hg _
  have hB : Below w.heap.size w w' := (balloc w (.cells #[] 3)).grown hg (by simp) (fun j hj => by cases hj; exact Nat.le_refl _)
  have HO : Hid (w'.ownsRow w.heap.size 3 1 v' n (l.map (Value.int .i64))) := hO
  clear hO hg q22
  go_wp2
  go_ret
  exact ⟨_, rfl, HO.out, hB⟩
/-- The question that basis asks of a row. -/
theorem ask50 (c : Nat) (b : Nat) (r : List Int) (u : Value) (w : World) (hb : w.cell? ⟨b, 0, none⟩ = some (.int .i64 (c : Int))) (hu : Sl w u r) (hc : c < r.length) (_hr : r.length ≤ 99) :
    Calls Tryd.prog 82 #[u, .pointer (some ⟨b, 0, none⟩)] w fun e w' => e = .returned (.bool (r.getD c 0 != 0)) ∧ w' = w := by
  obtain ⟨a, cap, rfl, h⟩ := hu
  obtain ⟨b', off, rfl, hcc⟩ := h c hc
  have hci : (c : Int) < (r.length : Int) := by omega
  obtain ⟨x, Hx⟩ : ∃ x, Hid (r.getD c 0 = x) := ⟨_, rfl⟩
  rw [Hx.out] at hcc ⊢
  generalize r.length = n at *
  clear h
  go_enter Tryd.func82, Tryd.ntmps82
  go_wp2
  go_ret
  exact ⟨rfl, rfl⟩
/-- What IndexFunc tells of rows. -/
def IfIs (ls : List (List Int)) (p : List Int → Bool) (z : Int) : Prop :=
  (z = -1 ∧ ∀ (i : Nat) l, ls[i]? = some l → p l = false) ∨ ∃ (j : Nat) (l : List Int), z = (j : Int) ∧ ls[j]? = some l ∧ p l = true ∧ ∀ (i : Nat) l', i < j → ls[i]? = some l' → p l' = false
set_option maxRecDepth 100000 in
set_option maxHeartbeats 4000000 in
theorem IndexR_any (c b : Nat) (ls : List (List Int)) (v : Value) (w : World) (hb : w.cell? ⟨b, 0, none⟩ = some (.int .i64 (c : Int))) (hv : Rw w v ls) (hl : ls.length ≤ 99) (hc : ∀ l ∈ ls, c < l.length ∧ l.length ≤ 99) :
    Calls Tryd.prog 81 #[v, .func (.func 82) #[] #[.pointer (some ⟨b, 0, none⟩)]] w fun e w' => (∃ z : Int, e = .returned (.int .i64 z) ∧ IfIs ls (fun r => r.getD c 0 != 0) z) ∧ w' = w := by
  obtain ⟨a, cap, rfl, hr⟩ := hv
  have HR : Hid (∀ (i : Nat) l, ls[i]? = some l → ∃ b off u, a = some ⟨b, off, none⟩ ∧ w.cell? ⟨b, off + i, none⟩ = some u ∧ Sl w u l) := hr
  have HC : Hid (∀ l ∈ ls, ∀ u, Sl w u l → Calls Tryd.prog 82 #[u, .pointer (some ⟨b, 0, none⟩)] w fun e w' => e = .returned (.bool (l.getD c 0 != 0)) ∧ w' = w) := fun l hm u hs => ask50 c b l u w hb hs (hc l hm).1 (hc l hm).2
  obtain ⟨n, hn⟩ : ∃ n, n = ls.length := ⟨_, rfl⟩
  have HN : Hid (n = ls.length) := hn
  rw [← hn] at hl ⊢
  clear hr hn hb hc
  go_enter Tryd.func81, Tryd.ntmps81
  go_wp2
  go_loopw [5, 8] (fun _ i wr => ∃ j : Nat, i = .int .i64 (j : Int) ∧ j ≤ n ∧ Hid (∀ (t : Nat) l, t < j → ls[t]? = some l → (l.getD c 0 != 0) = false) ∧ wr = w) (fun _ i _ => (n - intOf i).toNat)
  case atStart => exact ⟨0, rfl, by omega, (fun t l h => by omega : ∀ t l, t < 0 → _), rfl⟩
  case round =>
    obtain ⟨j, rfl, hj, HJ, hw⟩ := hrel
    replace hw := hw.symm
    subst hw
    by_cases hlt : j < n
    · have hdj : decide ((j : Int) < (n : Int)) = true := by simp; omega
      have hji : (j : Int) < n := by omega
      have hj0 : (0 : Int) ≤ (j : Int) := by omega
      obtain ⟨l, hl'⟩ : ∃ l, ls[j]? = some l := ⟨ls[j]'(by rw [← HN.out]; exact hlt), by simp⟩
      obtain ⟨b', off, u, rfl, hcj, hs⟩ := HR.out j l hl'
      have D := HC.out l (List.mem_of_getElem? hl') u hs
      have HLJ : Hid (ls[j]? = some l) := hl'
      obtain ⟨ua, uc, rfl, _⟩ := id hs
      obtain ⟨ul, Hul⟩ : ∃ ul, Hid (l.length = ul) := ⟨_, rfl⟩
      rw [Hul.out] at D hcj
      clear hl' hs
      cases hq : (l.getD c 0 != 0) with
      | true =>
        rw [hq] at D
        have HM : Hid ((l.getD c 0 != 0) = true) := hq
        clear hq
        go_wp2_with (go_at_call 82; refine D.mono ?_; rintro e w1 ⟨rfl, h1⟩; replace h1 := h1.symm; subst h1)
        go_ret
        exact ⟨⟨_, rfl, .inr ⟨j, l, rfl, HLJ.out, HM.out, fun i l' hi h => HJ.out i l' hi h⟩⟩, rfl⟩
      | false =>
        rw [hq] at D
        have HJ2 : Hid (∀ (t : Nat) l, t < j + 1 → ls[t]? = some l → (l.getD c 0 != 0) = false) := fun t l' ht e => by
          by_cases et : t = j
          · subst et
            have := HLJ.out.symm.trans e
            cases this
            exact hq
          · exact HJ.out t l' (by omega) e
        clear hq HJ
        go_wp2_with (go_at_call 82; refine D.mono ?_; rintro e w1 ⟨rfl, h1⟩; replace h1 := h1.symm; subst h1)
        go_roundw
        case rel => exact ⟨j + 1, by go_num, by omega, HJ2, by first | rfl | trivial⟩
        case measure => simp [intOf]; omega
    · have hdj : decide ((j : Int) < (n : Int)) = false := by simp; omega
      obtain rfl : j = n := by omega
      go_wp2
      go_ret
      exact ⟨⟨_, rfl, .inl ⟨rfl, fun i l h => HJ.out i l (by rw [HN.out]; exact (List.getElem?_eq_some_iff.1 h).1) h⟩⟩, rfl⟩
theorem ask70 (x : Int) (w : World) : Calls Tryd.prog 90 #[.int .i64 x] w fun e w' => e = .returned (.bool (x != 0)) ∧ w' = w := by
  go_enter Tryd.func90, Tryd.ntmps90
  go_wp2
  go_ret
  exact ⟨rfl, rfl⟩
set_option maxRecDepth 100000 in
set_option maxHeartbeats 4000000 in
/-- Where a row begins that does. -/
theorem lead_any (r : List Nat) (v : Value) (w : World) (hv : Sl w v (r.map Int.ofNat)) (h0 : ldV r < r.length) (hl : r.length ≤ 99) :
    Calls Tryd.prog 51 #[v] w fun e w' => e = .returned (.int .i64 (ldV r : Int)) ∧ w' = w := by
  have C69 : Calls Tryd.prog 89 #[v, .func (.func 90) #[] #[]] w fun e w' => e = .returned (.int .i64 (ldV r : Int)) ∧ w' = w := by
    obtain ⟨a, cap, rfl, hr⟩ := hv
    have HR : Hid (∀ j, j < r.length → ∃ b off, a = some ⟨b, off, none⟩ ∧ w.cell? ⟨b, off + j, none⟩ = some (.int .i64 (r.getD j 0 : Int))) := fun j hj => by
      obtain ⟨b, off, e, h⟩ := hr j (by simpa using hj)
      refine ⟨b, off, e, ?_⟩
      rw [h]; simp [hj]
    have HL : Hid (∀ j, j < ldV r → r.getD j 0 = 0) := fun j h => ldV_lo h
    have HH : Hid (r.getD (ldV r) 0 ≠ 0) := ldV_hit h0
    rw [List.length_map]
    obtain ⟨k, Hk⟩ : ∃ k, Hid (ldV r = k) := ⟨_, rfl⟩
    rw [Hk.out] at HL HH h0 ⊢
    obtain ⟨n, hn⟩ : ∃ n, n = r.length := ⟨_, rfl⟩
    rw [← hn] at hl h0 HR ⊢
    clear hr hn
    go_enter Tryd.func89, Tryd.ntmps89
    go_wp2
    go_loopw [5, 8] (fun _ i wr => ∃ j : Nat, i = .int .i64 (j : Int) ∧ j ≤ k ∧ wr = w) (fun _ i _ => (n - intOf i).toNat)
    case atStart => exact ⟨0, rfl, by omega, rfl⟩
    case round =>
      obtain ⟨j, rfl, hj, hw⟩ := hrel
      replace hw := hw.symm
      subst hw
      have hdj : decide ((j : Int) < (n : Int)) = true := by simp; omega
      have hji : (j : Int) < n := by omega
      have hj0 : (0 : Int) ≤ (j : Int) := by omega
      obtain ⟨b', off, rfl, hcj⟩ := HR.out j (by omega)
      by_cases e : j = k
      · have hne := HH.out
        rw [← e] at hne
        have D := ask70 (r.getD j 0 : Int) w
        have hq : ((r.getD j 0 : Int) != 0) = true := by simpa using hne
        rw [hq] at D
        have HJK : Hid (j = k) := e
        obtain ⟨x, Hx⟩ : ∃ x, Hid ((r.getD j 0 : Int) = x) := ⟨_, rfl⟩
        rw [Hx.out] at hcj D
        clear e hne hq
        go_wp2_with (go_at_call 90; refine D.mono ?_; rintro e w1 ⟨rfl, h1⟩; replace h1 := h1.symm; subst h1)
        go_ret
        exact ⟨ret_int (by rw [HJK.out]), rfl⟩
      · have h2 := HL.out j (by omega)
        rw [h2] at hcj
        have D := ask70 0 w
        have hq : ((0 : Int) != 0) = false := by simp
        rw [hq] at D
        clear h2 hq
        go_wp2_with (go_at_call 90; refine D.mono ?_; rintro e w1 ⟨rfl, h1⟩; replace h1 := h1.symm; subst h1)
        go_roundw
        case rel => exact ⟨j + 1, by go_num, by omega, by first | rfl | trivial⟩
        case measure => simp [intOf]; omega
  go_enter Tryd.func51, Tryd.ntmps51
  go_wp2_with (go_at_call 89; refine C69.mono ?_; rintro e w1 ⟨rfl, h1⟩; replace h1 := h1.symm; subst h1)
  go_ret
  exact ⟨rfl, rfl⟩
end Go.Proofs.YtjfjdidibglhaabDoor
