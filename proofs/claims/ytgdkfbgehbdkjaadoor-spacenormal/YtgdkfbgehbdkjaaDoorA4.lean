/- The walk of the field's Check. -/
import Derived.Test.YtgdkfbgehbdkjaaDoorW24
import Derived.Test.YtgdkfbgehbdkjaaDoorW17
import Derived.Test.YtgdkfbgehbdkjaaDoorSpI
import Derived.Test.YtgdkfbgehbdkjaaDoorSpN
import Derived.Test.YtgdkfbgehbdkjaaDoorSpQ
import Derived.Test.YtgdkfbgehbdkjaaDoorDOw
import Derived.Test.YtgdkfbgehbdkjaaDoorC1
/- A room: a field that is one and a number of places; the walks of its order, times, plus and less. -/
namespace Go.Proofs.YtgdkfbgehbdkjaaDoor.Fd
variable {P K : Nat} {m : Nat → Int}
theorem less_one (hF : FieldQ P K m) : addQ P K (P - 1) 1 = 0 := by
  have hR := hF.toRing1
  have hP := hR.two
  refine vec_inj hR (addQ_lt hR _ _) (by have := one_lt hR; omega) ?_
  refine (addQ_vec hR _ _).trans fun t ht => ?_
  show (P : Int) ∣ digF (P - 1) P t + digF 1 P t - digF 0 P t
  rw [digF_zero]
  cases t with
  | zero =>
    unfold digF
    rw [Nat.pow_zero, Nat.div_one, Nat.div_one, Nat.mod_eq_of_lt (by omega), Nat.mod_eq_of_lt (by omega)]
    exact ⟨1, by omega⟩
  | succ t =>
    have h1 : P ≤ P ^ (t + 1) := by
      have := Nat.pow_le_pow_right (show 0 < P by omega) (show 1 ≤ t + 1 by omega)
      rwa [Nat.pow_one] at this
    unfold digF
    rw [Nat.div_eq_of_lt (by omega), Nat.div_eq_of_lt (by omega)]
    exact ⟨0, by simp⟩
theorem one_le (hF : FieldQ P K m) : P ≤ P ^ K := by
  have h1 := hF.toRing1.one
  have := Nat.pow_le_pow_right (show 0 < P by have := hF.toRing1.two; omega) h1
  rwa [Nat.pow_one] at this
theorem less_is (hF : FieldQ P K m) {a : Nat} (ha : a < P ^ K) : mulQ P K m (P - 1) a = ngQ P K a := by
  have h := field_fqr hF
  have h1 := one_le hF
  have hP := hF.toRing1.two
  have hp : P - 1 < P ^ K := by omega
  have e : P - 1 = ngQ P K 1 := h.ng_eq hp h.one (less_one hF)
  rw [e, h.ng_mu h.one ha, h.one_mu ha]
end Go.Proofs.YtgdkfbgehbdkjaaDoor.Fd
namespace Go.Proofs.YtgdkfbgehbdkjaaDoor
open Go.RowKit

/-- A field that is one, in memory. -/
structure Fld (P K : Nat) (l : List Int) (v : Value) (w : World) : Prop where
  tab : Fd.Tab w
  sl : Fd.Sl w v l
  len : l.length ≤ maxLen
  good : Fd.GoodF P K l
theorem Fld.below {P K : Nat} {l : List Int} {v : Value} {w w' : World} (h : Fld P K l v w) (hb : Below w.heap.size w w') : Fld P K l v w' := ⟨h.tab.below hb, h.sl.below hb, h.len, h.good⟩
abbrev adF (P K : Nat) : Nat → Nat → Nat := Fd.addQ P K
abbrev muF (P K : Nat) (l : List Int) : Nat → Nat → Nat := Fd.mulQ P K (Fd.monL l)
abbrev ngF (P K : Nat) : Nat → Nat := Fd.ngQ P K
theorem Fld.fqr {P K : Nat} {l : List Int} {v : Value} {w : World} (h : Fld P K l v w) : FqR (P ^ K) (adF P K) (muF P K l) (ngF P K) := Fd.field_fqr h.good.field
/-- A room by value. -/
abbrev rmV (P K : Nat) (v : Value) (n : Nat) : Value := .agg #[.int .i64 (P : Int), .int .i64 (K : Int), v, .int .i64 (n : Int)]
/-- A room in a box, as it is read later. -/
theorem rm_box (P K n : Nat) (v : Value) (w : World) : ∀ W, Below (w.alloc (.cells #[.int .i64 (P : Int), .int .i64 (K : Int), v, .int .i64 (n : Int)] 50)).heap.size (w.alloc (.cells #[.int .i64 (P : Int), .int .i64 (K : Int), v, .int .i64 (n : Int)] 50)) W →
    W.cell? ⟨w.heap.size, 0, none⟩ = some (.int .i64 (P : Int)) ∧ W.cell? ⟨w.heap.size, 1, none⟩ = some (.int .i64 (K : Int)) ∧ W.cell? ⟨w.heap.size, 2, none⟩ = some v ∧ W.cell? ⟨w.heap.size, 3, none⟩ = some (.int .i64 (n : Int)) := fun W b => by
  have k1 := (b.block w.heap.size (by simp)).trans (heap_alloc_new w (.cells #[.int .i64 (P : Int), .int .i64 (K : Int), v, .int .i64 (n : Int)] 50))
  exact ⟨by rw [cell_of_row _ _ _ _ _ _ k1]; rfl, by rw [cell_of_row _ _ _ _ _ _ k1]; rfl, by rw [cell_of_row _ _ _ _ _ _ k1]; rfl, by rw [cell_of_row _ _ _ _ _ _ k1]; rfl⟩
set_option maxRecDepth 100000 in
set_option maxHeartbeats 2000000 in
theorem rtimes_any (P K n a b : Nat) (l : List Int) (v : Value) (w : World) (hF : Fld P K l v w) (ha : a < P ^ K) (hb : b < P ^ K) (s : Nat) (hs : Hid (muF P K l a b = s)) :
    Calls Tryd.prog 66 #[rmV P K v n, .int .i64 (a : Int), .int .i64 (b : Int)] w fun e w' => e = .returned (.int .i64 (s : Int)) ∧ Below w.heap.size w w' := by
  have hbx := balloc w (.cells #[.int .i64 (P : Int), .int .i64 (K : Int), v, .int .i64 (n : Int)] 50)
  obtain ⟨x0, x1, x2, x3⟩ := rm_box P K n v w _ (Below.refl _ _)
  have hF' := hF.below hbx
  have C := Fd.MulG P K a b l v _ hF'.tab hF'.sl hF'.len hF'.good ha hb s hs.out.symm
  obtain ⟨A, ca, rfl, _⟩ := id hF.sl
  go_enter Tryd.func66, Tryd.ntmps66
  go_wp2_with (go_at_call 76; refine C.mono ?_; rintro e w1 ⟨rfl, b1⟩)
  go_ret
  exact ⟨rfl, Below.next hbx b1⟩
set_option maxRecDepth 100000 in
set_option maxHeartbeats 2000000 in
theorem rplus_any (P K n a b : Nat) (l : List Int) (v : Value) (w : World) (hF : Fld P K l v w) (ha : a < P ^ K) (hb : b < P ^ K) (s : Nat) (hs : Hid (adF P K a b = s)) :
    Calls Tryd.prog 68 #[rmV P K v n, .int .i64 (a : Int), .int .i64 (b : Int)] w fun e w' => e = .returned (.int .i64 (s : Int)) ∧ Below w.heap.size w w' := by
  have hbx := balloc w (.cells #[.int .i64 (P : Int), .int .i64 (K : Int), v, .int .i64 (n : Int)] 50)
  obtain ⟨x0, x1, x2, x3⟩ := rm_box P K n v w _ (Below.refl _ _)
  have hF' := hF.below hbx
  have C := Fd.AddG P K a b l v _ hF'.tab hF'.sl hF'.len hF'.good ha hb s hs.out.symm
  obtain ⟨A, ca, rfl, _⟩ := id hF.sl
  go_enter Tryd.func68, Tryd.ntmps68
  go_wp2_with (go_at_call 77; refine C.mono ?_; rintro e w1 ⟨rfl, b1⟩)
  go_ret
  exact ⟨rfl, Below.next hbx b1⟩
set_option maxRecDepth 100000 in
set_option maxHeartbeats 2000000 in
theorem rless_any (P K n a : Nat) (l : List Int) (v : Value) (w : World) (hF : Fld P K l v w) (ha : a < P ^ K) (s : Nat) (hs : Hid (ngF P K a = s)) :
    Calls Tryd.prog 67 #[rmV P K v n, .int .i64 (a : Int)] w fun e w' => e = .returned (.int .i64 (s : Int)) ∧ Below w.heap.size w w' := by
  have hbx := balloc w (.cells #[.int .i64 (P : Int), .int .i64 (K : Int), v, .int .i64 (n : Int)] 50)
  obtain ⟨x0, x1, x2, x3⟩ := rm_box P K n v w _ (Below.refl _ _)
  have hF' := hF.below hbx
  have hP := hF.good.field.toRing1.two
  have hP61 := hF.good.le61
  have h1 := Fd.one_le hF.good.field
  obtain ⟨p1, Hp⟩ : ∃ p1, Hid (P = p1 + 1) := ⟨P - 1, by show _ = _; omega⟩
  have hpi : (P : Int) - 1 = (p1 : Int) := by have := Hp.out; omega
  have hp1 : p1 < P ^ K := by have := Hp.out; omega
  have C := rtimes_any P K n p1 a l v _ hF' hp1 ha s (by
    show _ = _
    have e := Fd.less_is hF.good.field ha
    rw [← hs.out, show p1 = P - 1 by have := Hp.out; omega]
    exact e)
  obtain ⟨A, ca, rfl, _⟩ := id hF.sl
  clear hF' h1
  go_enter Tryd.func67, Tryd.ntmps67
  go_wp2_with (go_at_call 66; refine C.mono ?_; rintro e w1 ⟨rfl, b1⟩)
  go_ret
  exact ⟨rfl, Below.next hbx b1⟩
end Go.Proofs.YtgdkfbgehbdkjaaDoor

/- The walks of the room's order, checkRow and checkRows. -/
namespace Go.Proofs.YtgdkfbgehbdkjaaDoor
open Go.RowKit

set_option maxRecDepth 100000 in
set_option maxHeartbeats 2000000 in
theorem order_any (P K n : Nat) (l : List Int) (v : Value) (w : World) (hF : Fld P K l v w) (q : Nat) (hq : Hid (P ^ K = q)) :
    Calls Tryd.prog 46 #[rmV P K v n] w fun e w' => e = .returned (.int .i64 (q : Int)) ∧ Below w.heap.size w w' := by
  have hbx := balloc w (.cells #[.int .i64 (P : Int), .int .i64 (K : Int), v, .int .i64 (n : Int)] 50)
  obtain ⟨x0, x1, x2, x3⟩ := rm_box P K n v w _ (Below.refl _ _)
  have h61 := hF.good.le61
  have h6 := hF.good.le6
  have h64 := hF.good.le64
  have C := fun W => power_any P K W (by omega) (by omega) q (by
    show _ = _
    rw [cO_small (by omega)]; exact hq.out)
  obtain ⟨A, ca, rfl, _⟩ := id hF.sl
  clear h64 hq
  go_enter Tryd.func46, Tryd.ntmps46
  go_wp2_with (go_at_call 45; refine (C _).mono ?_; rintro e w1 ⟨rfl, h1⟩; replace h1 := h1.symm; subst h1)
  go_ret
  exact ⟨rfl, hbx⟩
/-- What is wrong with a row. -/
def rwE (q n : Nat) (r : List Int) : Nat := if r.length ≠ n then 2 else if (List.range r.length).all (fun j => decide (0 ≤ r.getD j 0) && decide (r.getD j 0 < (q : Int))) then 0 else 1
theorem rwE_len {q n : Nat} {r : List Int} (h : r.length ≠ n) : rwE q n r = 2 := by unfold rwE; rw [if_pos h]
theorem rwE_out {q n : Nat} {r : List Int} (h : r.length = n) {j : Nat} (hj : j < r.length) (hb : ¬ (0 ≤ r.getD j 0 ∧ r.getD j 0 < (q : Int))) : rwE q n r = 1 := by
  unfold rwE
  rw [if_neg (fun k => k h), if_neg]
  intro k
  have := List.all_eq_true.1 k j (List.mem_range.2 hj)
  rw [Bool.and_eq_true, decide_eq_true_eq, decide_eq_true_eq] at this
  exact hb this
theorem rwE_in {q n : Nat} {r : List Int} (h : r.length = n) (hb : ∀ j, j < r.length → 0 ≤ r.getD j 0 ∧ r.getD j 0 < (q : Int)) : rwE q n r = 0 := by
  unfold rwE
  rw [if_neg (fun k => k h), if_pos]
  refine List.all_eq_true.2 fun j hj => ?_
  rw [Bool.and_eq_true, decide_eq_true_eq, decide_eq_true_eq]
  exact hb j (List.mem_range.1 hj)
theorem rwE_ok {q n : Nat} {r : List Int} (h : rwE q n r = 0) : r.length = n ∧ ∀ j, j < r.length → 0 ≤ r.getD j 0 ∧ r.getD j 0 < (q : Int) := by
  unfold rwE at h
  by_cases h1 : r.length ≠ n
  · rw [if_pos h1] at h; omega
  · rw [if_neg h1] at h
    refine ⟨by omega, fun j hj => ?_⟩
    split at h
    · rename_i k
      have := List.all_eq_true.1 k j (List.mem_range.2 hj)
      rwa [Bool.and_eq_true, decide_eq_true_eq, decide_eq_true_eq] at this
    · omega
/-- Rows of elements, as numbers. -/
theorem rwE_nat {q n : Nat} {r : List Int} (h : rwE q n r = 0) : ∃ s : List Nat, Vc q n s ∧ r = s.map Int.ofNat := by
  obtain ⟨h1, h2⟩ := rwE_ok h
  refine ⟨r.map Int.toNat, ⟨by simpa using h1, fun x hx => ?_⟩, ?_⟩
  · obtain ⟨y, hy, rfl⟩ := List.mem_map.1 hx
    obtain ⟨j, hj, rfl⟩ := List.getElem_of_mem hy
    have := h2 j hj
    simp [hj] at this
    omega
  · rw [List.map_map]
    refine List.ext_getElem (by simp) fun j h3 h4 => ?_
    have := h2 j h3
    simp [h3] at this
    simp
    omega
/-- What is wrong with rows. -/
def rlE (q n : Nat) : List (List Int) → Nat
  | [] => 0
  | r :: rs => if rwE q n r ≠ 0 then rwE q n r else rlE q n rs
def rsE (q n : Nat) (rs : List (List Int)) : Nat := if 12 < rs.length then 3 else rlE q n rs
theorem rlE_at {q n : Nat} : ∀ {rs : List (List Int)} {i : Nat} {r : List Int}, rs[i]? = some r → (∀ j s, j < i → rs[j]? = some s → rwE q n s = 0) → rwE q n r ≠ 0 → rlE q n rs = rwE q n r
  | [], i, r, h, _, _ => by simp at h
  | s :: rs, 0, r, h, _, h2 => by
    simp only [List.getElem?_cons_zero, Option.some.injEq] at h
    subst h
    rw [rlE, if_pos h2]
  | s :: rs, i + 1, r, h, h1, h2 => by
    have h0 := h1 0 s (by omega) rfl
    rw [rlE, if_neg (by rw [h0]; exact fun k => k rfl)]
    exact rlE_at (by simpa using h) (fun j t hj ht => h1 (j + 1) t (by omega) (by simpa using ht)) h2
theorem rlE_all {q n : Nat} : ∀ {rs : List (List Int)}, (∀ (j : Nat) s, rs[j]? = some s → rwE q n s = 0) → rlE q n rs = 0
  | [], _ => rfl
  | s :: rs, h => by
    rw [rlE, if_neg (by rw [h 0 s rfl]; exact fun k => k rfl)]
    exact rlE_all fun j t ht => h (j + 1) t (by simpa using ht)
theorem rlE_ok {q n : Nat} : ∀ {rs : List (List Int)}, rlE q n rs = 0 → ∀ r ∈ rs, rwE q n r = 0
  | [], _, r, hr => by cases hr
  | s :: rs, h, r, hr => by
    rw [rlE] at h
    by_cases h0 : rwE q n s = 0
    · rw [if_neg (fun k => k h0)] at h
      rcases List.mem_cons.1 hr with e | e
      · rw [e]; exact h0
      · exact rlE_ok h r e
    · rw [if_pos h0] at h; exact absurd h h0
theorem rwE_le (q n : Nat) (r : List Int) : rwE q n r ≤ 2 := by unfold rwE; split; omega; split <;> omega
set_option maxRecDepth 100000 in
set_option maxHeartbeats 4000000 in
theorem checkRow_any (P K n : Nat) (l r : List Int) (v u : Value) (w : World) (hF : Fld P K l v w) (hu : Sl w u r) (_hr : r.length ≤ maxLen) (_hn : n ≤ 6) (z : Nat) (hz : Hid (rwE (P ^ K) n r = z)) :
    Calls Tryd.prog 29 #[rmV P K v n, u] w fun e w' => e = .returned (.int .i64 (z : Int)) ∧ Below w.heap.size w w' := by
  have hbx := balloc w (.cells #[.int .i64 (P : Int), .int .i64 (K : Int), v, .int .i64 (n : Int)] 50)
  have HX := rm_box P K n v w
  obtain ⟨w0, Hw0⟩ : ∃ w0, Hid (w.alloc (.cells #[.int .i64 (P : Int), .int .i64 (K : Int), v, .int .i64 (n : Int)] 50) = w0) := ⟨_, rfl⟩
  rw [Hw0.out] at hbx HX
  obtain ⟨q, Hq⟩ : ∃ q, Hid (P ^ K = q) := ⟨_, rfl⟩
  have HC : Hid (∀ W, Below w.heap.size w W → Calls Tryd.prog 46 #[rmV P K v n] W fun e w' => e = .returned (.int .i64 (q : Int)) ∧ Below W.heap.size W w') := fun W b => order_any P K n l v W (hF.below b) q Hq
  have hq64 : q ≤ 64 := by rw [← Hq.out]; exact hF.good.le64
  rw [Hq.out] at hz
  have HX2 : Hid (∀ W, Below w0.heap.size w0 W → W.cell? ⟨w.heap.size, 0, none⟩ = some (.int .i64 (P : Int)) ∧ W.cell? ⟨w.heap.size, 1, none⟩ = some (.int .i64 (K : Int)) ∧ W.cell? ⟨w.heap.size, 2, none⟩ = some v ∧ W.cell? ⟨w.heap.size, 3, none⟩ = some (.int .i64 (n : Int))) := HX
  have HB0 : Hid (Below w.heap.size w w0) := hbx
  obtain ⟨A, ca, rfl, _⟩ := id hF.sl
  obtain ⟨a, cap, rfl, hc⟩ := hu
  unfold maxLen at _hr
  have hx0 := HX _ (Below.refl _ _)
  by_cases hl : r.length = n
  · have HA : Hid (∀ W, Below w.heap.size w W → ∀ j, j < n → ∃ b off, a = some ⟨b, off, none⟩ ∧ W.cell? ⟨b, off + j, none⟩ = some (.int .i64 (r.getD j 0))) := fun W bW j hj => by
      obtain ⟨b, off, e, h⟩ := hc j (by omega)
      exact ⟨b, off, e, (bW.cell (p := ⟨b, off + j, none⟩) (block_lt_of_cell h)).trans h⟩
    have HO : Hid (∀ j, j < n → ¬ (0 ≤ r.getD j 0 ∧ r.getD j 0 < (q : Int)) → z = 1) := fun j hj h => by rw [← hz.out]; exact rwE_out hl (by omega) h
    have HI : Hid ((∀ j, j < n → 0 ≤ r.getD j 0 ∧ r.getD j 0 < (q : Int)) → z = 0) := fun h => by rw [← hz.out]; exact rwE_in hl fun j hj => h j (by omega)
    obtain ⟨x0, x1, x2, x3⟩ := hx0
    have hne : ((n : Int) != (n : Int)) = false := by simp
    rw [← Hw0.out] at x0 x1 x2 x3
    rw [hl]
    clear hc hl hz hF HX hbx
    go_enter Tryd.func29, Tryd.ntmps29
    go_wp2
    go_loopw [6, 14] (fun _ jv wr => ∃ j : Nat, jv = .int .i64 (j : Int) ∧ j ≤ n ∧ Hid (∀ i, i < j → 0 ≤ r.getD i 0 ∧ r.getD i 0 < (q : Int)) ∧ Below w0.heap.size w0 wr) (fun _ jv _ => (n - intOf jv).toNat)
    case atStart => exact ⟨0, rfl, by omega, (fun i h => by omega : ∀ i, i < 0 → _), by rw [Hw0.out]; exact Below.refl _ _⟩
    case round =>
      clear x0 x1 x2 x3
      obtain ⟨j, rfl, hj, HJ, hB⟩ := hrel
      have hBB : Below w.heap.size w wr := Below.next HB0.out hB
      by_cases hlt : j < n
      · have hji : (j : Int) < n := by omega
        have hdj : decide ((j : Int) < (n : Int)) = true := by simp; omega
        obtain ⟨b, off, rfl, hcj⟩ := HA.out wr hBB j hlt
        obtain ⟨x0, x1, x2, x3⟩ := HX2.out wr hB
        have C := HC.out wr hBB
        have HO1 := HO.out j hlt
        have HJ1 : Hid (0 ≤ r.getD j 0 ∧ r.getD j 0 < (q : Int) → ∀ i, i < j + 1 → 0 ≤ r.getD i 0 ∧ r.getD i 0 < (q : Int)) := fun h i hi => by
          by_cases e : i = j
          · rw [e]; exact h
          · exact HJ.out i (by omega)
        obtain ⟨y, hy⟩ : ∃ y, r.getD j 0 = y := ⟨_, rfl⟩
        rw [hy] at hcj HO1 HJ1
        have HO2 : Hid (¬ (0 ≤ y ∧ y < (q : Int)) → z = 1) := HO1
        clear hy HO1 HJ
        by_cases h1 : y < 0
        · obtain rfl : z = 1 := HO2.out (by omega)
          have d1 : decide (y < 0) = true := by simpa using h1
          clear HO2 HI HO
          go_wp2
          go_ret
          exact ⟨rfl, hBB⟩
        · have d1 : decide (y < 0) = false := by simpa using h1
          by_cases h2 : (q : Int) ≤ y
          · obtain rfl : z = 1 := HO2.out (by omega)
            have d2 : decide ((q : Int) ≤ y) = true := by simpa using h2
            clear HO2 HI HO
            go_wp2_with (go_at_call 46; refine C.mono ?_; rintro e w1 ⟨rfl, b1⟩)
            go_ret
            exact ⟨rfl, Below.next hBB b1⟩
          · have d2 : decide ((q : Int) ≤ y) = false := by simpa using h2
            have HJ2 := HJ1.out (by omega)
            have HJ3 : Hid (∀ i, i < j + 1 → 0 ≤ r.getD i 0 ∧ r.getD i 0 < (q : Int)) := HJ2
            clear HO2 HJ1 HJ2
            go_wp2_with (go_at_call 46; refine C.mono ?_; rintro e w1 ⟨rfl, b1⟩)
            go_roundw
            case rel => exact ⟨j + 1, by go_num, by omega, HJ3, Below.next hB b1⟩
            case measure => simp [intOf]; omega
      · have hdj : decide ((j : Int) < (n : Int)) = false := by simp; omega
        obtain rfl : j = n := by omega
        obtain rfl : z = 0 := HI.out HJ.out
        go_wp2
        go_ret
        exact ⟨rfl, hBB⟩
  · obtain rfl : z = 2 := by rw [← hz.out]; exact rwE_len hl
    obtain ⟨x0, x1, x2, x3⟩ := hx0
    have hne : ((r.length : Int) != (n : Int)) = true := by simp; omega
    rw [← Hw0.out] at x0 x1 x2 x3 hbx
    generalize r.length = m at *
    clear hc hl hz
    go_enter Tryd.func29, Tryd.ntmps29
    go_wp2
    go_ret
    exact ⟨rfl, hbx⟩
end Go.Proofs.YtgdkfbgehbdkjaaDoor

/- The walks of the room's checkRows and of open. -/
namespace Go.Proofs.YtgdkfbgehbdkjaaDoor
open Go.RowKit

set_option maxRecDepth 100000 in
set_option maxHeartbeats 4000000 in
theorem checkRows_any (P K n : Nat) (l : List Int) (rs : List (List Int)) (v u : Value) (w : World) (hF : Fld P K l v w) (hu : Rw w u rs) (hr : rs.length ≤ maxLen) (hrl : ∀ r ∈ rs, r.length ≤ maxLen) (hn : n ≤ 6) (z : Nat) (hz : Hid (rsE (P ^ K) n rs = z)) :
    Calls Tryd.prog 47 #[rmV P K v n, u] w fun e w' => e = .returned (.int .i64 (z : Int)) ∧ Below w.heap.size w w' := by
  have hbx := balloc w (.cells #[.int .i64 (P : Int), .int .i64 (K : Int), v, .int .i64 (n : Int)] 50)
  have HX := rm_box P K n v w
  obtain ⟨w0, Hw0⟩ : ∃ w0, Hid (w.alloc (.cells #[.int .i64 (P : Int), .int .i64 (K : Int), v, .int .i64 (n : Int)] 50) = w0) := ⟨_, rfl⟩
  rw [Hw0.out] at hbx HX
  obtain ⟨q, Hq⟩ : ∃ q, Hid (P ^ K = q) := ⟨_, rfl⟩
  rw [Hq.out] at hz
  have HX2 : Hid (∀ W, Below w0.heap.size w0 W → W.cell? ⟨w.heap.size, 0, none⟩ = some (.int .i64 (P : Int)) ∧ W.cell? ⟨w.heap.size, 1, none⟩ = some (.int .i64 (K : Int)) ∧ W.cell? ⟨w.heap.size, 2, none⟩ = some v ∧ W.cell? ⟨w.heap.size, 3, none⟩ = some (.int .i64 (n : Int))) := HX
  have HB0 : Hid (Below w.heap.size w w0) := hbx
  have HC : Hid (∀ W, Below w.heap.size w W → ∀ (x : Value) (r : List Int), r ∈ rs → Sl W x r → ∀ y, Hid (rwE q n r = y) → Calls Tryd.prog 29 #[rmV P K v n, x] W fun e w' => e = .returned (.int .i64 (y : Int)) ∧ Below W.heap.size W w') := fun W b x r hm hs y hy =>
    checkRow_any P K n l r v x W (hF.below b) hs (hrl r hm) hn y (by rw [Hq.out]; exact hy)
  have HR : Hid (∀ W, Below w.heap.size w W → Rw W u rs) := fun W b => hu.below b
  obtain ⟨A, ca, rfl, _⟩ := id hF.sl
  obtain ⟨a, cap, rfl, _⟩ := id hu
  unfold maxLen at hr
  obtain ⟨x0, x1, x2, x3⟩ := HX _ (Below.refl _ _)
  rw [← Hw0.out] at x0 x1 x2 x3
  obtain ⟨m, Hm⟩ : ∃ m, Hid (rs.length = m) := ⟨_, rfl⟩
  rw [Hm.out] at hr ⊢
  by_cases hl : 12 < m
  · obtain rfl : z = 3 := by rw [← hz.out]; unfold rsE; rw [if_pos (by rw [Hm.out]; exact hl)]
    have d1 : decide ((12 : Int) < (m : Int)) = true := by simp; omega
    rw [← Hw0.out] at hbx
    clear hz hu hF hrl
    go_enter Tryd.func47, Tryd.ntmps47
    go_wp2
    go_ret
    exact ⟨rfl, hbx⟩
  · have d1 : decide ((12 : Int) < (m : Int)) = false := by simp; omega
    have d1n : decide (12 < m) = false := by simp; omega
    have HZ : Hid (rlE q n rs = z) := by
      show _ = _
      rw [← hz.out]; unfold rsE; rw [if_neg (by rw [Hm.out]; exact hl)]
    have HAt : Hid (∀ i, i < m → ∃ r, rs[i]? = some r) := fun i hi => ⟨rs[i]'(by rw [Hm.out]; exact hi), by simp⟩
    clear hz hu hF hrl HX hbx
    go_enter Tryd.func47, Tryd.ntmps47
    go_wp2
    go_loopw [6, 7, 13] (fun _ _ jv wr => ∃ j : Nat, jv = .int .i64 (j : Int) ∧ j ≤ m ∧ Hid (∀ i r, i < j → rs[i]? = some r → rwE q n r = 0) ∧ Below w0.heap.size w0 wr) (fun _ _ jv _ => (m - intOf jv).toNat)
    case atStart => exact ⟨0, rfl, by omega, (fun i r h => by omega : ∀ i r, i < 0 → _), by rw [Hw0.out]; exact Below.refl _ _⟩
    case round =>
      clear x0 x1 x2 x3
      obtain ⟨j, rfl, hj, HJ, hB⟩ := hrel
      have hBB : Below w.heap.size w wr := Below.next HB0.out hB
      by_cases hlt : j < m
      · have hji : (j : Int) < m := by omega
        have hdj : decide ((j : Int) < (m : Int)) = true := by simp; omega
        obtain ⟨r, hrj⟩ := HAt.out j hlt
        obtain ⟨a', cap', e', hr'⟩ := HR.out wr hBB
        cases e'
        obtain ⟨b, off, x, rfl, hcj, hs⟩ := hr' j r hrj
        obtain ⟨x0, x1, x2, x3⟩ := HX2.out wr hB
        obtain ⟨y, Hy⟩ : ∃ y, Hid (rwE q n r = y) := ⟨_, rfl⟩
        have C := HC.out wr hBB x r (List.mem_of_getElem? hrj) hs y Hy
        obtain ⟨xa, xc, rfl, _⟩ := id hs
        have HRJ : Hid (rs[j]? = some r) := hrj
        obtain ⟨rl, Hrl⟩ : ∃ rl, Hid (r.length = rl) := ⟨_, rfl⟩
        rw [Hrl.out] at C hcj
        clear hr' hs hrj
        by_cases hy0 : y = 0
        · have HJ2 : Hid (∀ i r, i < j + 1 → rs[i]? = some r → rwE q n r = 0) := fun i s hi hs => by
            by_cases e : i = j
            · subst e
              have := HRJ.out.symm.trans hs
              cases this
              rw [Hy.out, hy0]
            · exact HJ.out i s (by omega) hs
          have hd0 : ((y : Int) != 0) = false := by simp; omega
          clear HJ
          go_wp2_with (go_at_call 29; refine C.mono ?_; rintro e w1 ⟨rfl, b1⟩)
          go_roundw
          case rel => exact ⟨j + 1, by go_num, by omega, HJ2, Below.next hB b1⟩
          case measure => simp [intOf]; omega
        · have hd0 : ((y : Int) != 0) = true := by simp; omega
          have hyz : y = z := by
            rw [← HZ.out, ← Hy.out]
            exact (rlE_at HRJ.out (fun i s hi hs => HJ.out i s hi hs) (by rw [Hy.out]; exact hy0)).symm
          subst hyz
          clear HJ HZ
          go_wp2_with (go_at_call 29; refine C.mono ?_; rintro e w1 ⟨rfl, b1⟩)
          go_ret
          exact ⟨rfl, Below.next hBB b1⟩
      · have hdj : decide ((j : Int) < (m : Int)) = false := by simp; omega
        obtain rfl : j = m := by omega
        obtain rfl : z = 0 := by
          rw [← HZ.out]
          exact rlE_all fun i s hs => HJ.out i s (by rw [← Hm.out]; exact (List.getElem?_eq_some_iff.1 hs).1) hs
        go_wp2
        go_ret
        exact ⟨rfl, hBB⟩
end Go.Proofs.YtgdkfbgehbdkjaaDoor

namespace Go.Proofs.YtgdkfbgehbdkjaaDoor.Fd
open Go.RowKit

theorem open_nil {p k : Int} {l : List Int} {z : Int} (h : OpenIs p k l [] z) : FaultIs p k l z := by
  rcases h with ⟨_, h⟩ | ⟨_, h, _⟩ | ⟨h, _, rfl⟩
  · exact h
  · exact absurd (fun j hj => by simp at hj) h
  · exact h
set_option maxRecDepth 100000 in
set_option maxHeartbeats 1000000 in
theorem FCheck_any (p k : Int) (l : List Int) (v : Value) (w : World) (hT : Tab w) (hl : Sl w v l) (hll : l.length ≤ maxLen) :
    Calls Tryd.prog 44 #[.agg #[.int .i64 p, .int .i64 k, v]] w fun e w' => ∃ z : Int, e = .returned (.int .i64 z) ∧ FaultIs p k l z ∧ Below w.heap.size w w' := by
  obtain ⟨A, ca, rfl, _⟩ := id hl
  have hbx : Below w.heap.size w (w.alloc (.cells #[.int .i64 p, .int .i64 k, .slice A l.length ca] 24)) := (Below.refl _ _).alloc (Nat.le_refl _) _
  go_enter Tryd.func44, Tryd.ntmps44
  go_wp2_with fail
  refine (open_any p k l [] _ _ _ (hT.below hbx) (hl.below hbx) (Sl.nil _) hll (by simp)).mono ?_
  rintro e w1 ⟨z, x, y, c, f, rfl, hO, HZ, hb1⟩
  have hB1 : Below w.heap.size w w1 := hbx.trans (hb1.mono hbx.size)
  have HO : Hid (FaultIs p k l z) := open_nil hO
  have hnew : RB (w1.alloc (.cells #[.int .i64 0, .int .i64 0, .int .i64 0, .int .i64 0, .int .i64 0, .int .i64 0, .int .i64 0, .int .i64 0, .int .i64 0, .int .i64 0, .int .i64 0, .int .i64 0, .int .i64 0, .int .i64 0] 87)) w1.heap.size 0 0 0 (fun _ => 0) := RB.made w1 0 0 0 (fun _ => 0)
  have hBA : Below w.heap.size w ((w1.alloc (.cells #[.int .i64 0, .int .i64 0, .int .i64 0, .int .i64 0, .int .i64 0, .int .i64 0, .int .i64 0, .int .i64 0, .int .i64 0, .int .i64 0, .int .i64 0, .int .i64 0, .int .i64 0, .int .i64 0] 87)).setRow w1.heap.size (ringRow x y c f)) := bsetRow (hB1.alloc hB1.size _) hB1.size _
  clear hO HZ
  go_wp2_with (first
    | (refine wpList_store_row rfl 87 _ _ rfl w1.heap.size _ rfl rfl 87 _ hnew (inf53 _ _ _ _) rfl (ringRow_one _ _ _ _) ?_))
  go_ret
  exact ⟨z, rfl, HO.out, hBA⟩
end Go.Proofs.YtgdkfbgehbdkjaaDoor.Fd
