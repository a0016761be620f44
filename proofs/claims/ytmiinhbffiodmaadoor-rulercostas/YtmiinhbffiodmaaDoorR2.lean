/- What is wrong with marks: the walk of the document's MarksFault. -/
import Derived.Test.YtmiinhbffiodmaaDoorDGo
import Derived.Test.YtmiinhbffiodmaaDoorDfP
import Derived.Test.YtmiinhbffiodmaaDoorRuD
/- What is wrong with a set: the walks of rises, Check and the document's SetFault. -/
namespace Go.Proofs.YtmiinhbffiodmaaDoor
open Go.RowKit

/-- Does a list rise? -/
def riB (b : List Int) : Bool := (List.range b.length).all fun j => decide (j = 0 ∨ b.getD (j - 1) 0 < b.getD j 0)
theorem riB_yes {b : List Int} (h : ∀ j, 1 ≤ j → j < b.length → b.getD (j - 1) 0 < b.getD j 0) : riB b = true := by
  unfold riB
  rw [List.all_eq_true]
  intro j hj
  rw [decide_eq_true_eq]
  by_cases e : j = 0
  · exact .inl e
  · exact .inr (h j (by omega) (List.mem_range.1 hj))
theorem riB_no {b : List Int} {j : Nat} (h1 : 1 ≤ j) (hj : j < b.length) (h : b.getD j 0 ≤ b.getD (j - 1) 0) : riB b = false := by
  rw [Bool.eq_false_iff]
  intro k
  have := List.all_eq_true.1 k j (List.mem_range.2 hj)
  rw [decide_eq_true_eq] at this
  omega
theorem bF_riB {p : Int} {b : List Int} (h : ∀ j, j < b.length → 0 ≤ b.getD j 0 ∧ b.getD j 0 < p) : bF p b = if riB b = true then 0 else 2 := bF_in h
/-- What is wrong with a set. -/
def sF (v : Int) (l : List Int) : Nat := if v < 1 ∨ 60 < v then 1 else bF v l
theorem sF_good {v : Int} {l : List Int} (h : sF v l = 0) : ∃ (V : Nat) (D : List Nat), v = V ∧ l = D.map Int.ofNat ∧ GoodS V D := by
  unfold sF at h
  split at h
  · cases h
  · rename_i h1
    obtain ⟨V, rfl⟩ : ∃ V : Nat, v = V := ⟨v.toNat, by omega⟩
    obtain ⟨a, c⟩ := bF_zero h
    obtain ⟨r1, r2⟩ := toNat_rs (lo := 0) (fun j hj => by have := a j hj; omega) c
    obtain ⟨r3, r4⟩ := rs_iff.1 r1
    exact ⟨V, l.map Int.toNat, rfl, r2.symm, by omega, by omega, r3, fun x hx => (r4 x hx).2⟩
theorem sF_of {v : Nat} {D : List Nat} (h : GoodS v D) : sF (v : Int) (D.map Int.ofNat) = 0 := by
  unfold sF
  have h1 := h.pos
  have h2 := h.le
  rw [if_neg (by omega)]
  have hat : ∀ j, j < D.length → (D.map Int.ofNat).getD j 0 = ((D.getD j 0 : Nat) : Int) := fun j hj => by
    rw [List.getD_eq_getElem?_getD, List.getD_eq_getElem?_getD, List.getElem?_map, List.getElem?_eq_getElem hj]; rfl
  have hD : ∀ j (hj : j < D.length), D.getD j 0 = D[j] := fun j hj => by rw [List.getD_eq_getElem?_getD, List.getElem?_eq_getElem hj]; rfl
  refine bF_ok (fun j hj => ?_) (fun j hj1 hj => ?_)
  · rw [List.length_map] at hj
    rw [hat j hj, hD j hj]
    have := h.lt _ (List.getElem_mem hj)
    omega
  · rw [List.length_map] at hj
    rw [hat j hj, hat (j - 1) (by omega), hD j hj, hD (j - 1) (by omega)]
    have := List.pairwise_iff_getElem.1 h.rise (j - 1) j (by omega) hj (by omega)
    omega
set_option maxHeartbeats 4000000 in
theorem rises_any (b : List Int) (u : Value) (w : World) (hu : Sl w u b) (hbl : b.length ≤ maxLen) :
    Calls Tryd.prog 47 #[u] w fun e w' => e = .returned (.bool (riB b)) ∧ Below w.heap.size w w' := by
  unfold maxLen at hbl
  obtain ⟨ua, uc, rfl, hub⟩ := hu
  have HUB : Hid (∀ j, j < b.length → ∃ g o, ua = some ⟨g, o, none⟩ ∧ ∀ W, Below w.heap.size w W → W.cell? ⟨g, o + j, none⟩ = some (.int .i64 (b.getD j 0))) := fun j hj => by
    obtain ⟨g, o, e, hc⟩ := hub j hj
    exact ⟨g, o, e, fun W bW => (bW.cell (World.block_lt_of_cell? _ _ hc)).trans hc⟩
  obtain ⟨w1, Hw1⟩ : ∃ w1 : World, Hid (w1 = w) := ⟨_, rfl⟩
  rw [← Hw1.out] at HUB
  obtain ⟨z, HZ⟩ : ∃ z, Hid (riB b = z) := ⟨_, rfl⟩
  rw [HZ.out]
  generalize hbn : b.length = bn at *
  clear hub
  go_enter Tryd.func47, Tryd.ntmps47
  go_wp2
  go_loopw [3] (fun jv wr' => ∃ k : Nat, jv = .int .i64 (k : Int) ∧ 1 ≤ k ∧ (k ≤ bn ∨ k = 1) ∧ Hid (∀ m, 1 ≤ m → m < k → m < bn → b.getD (m - 1) 0 < b.getD m 0) ∧ Below w1.heap.size w1 wr') (fun jv _ => (bn + 1 - intOf jv).toNat)
  case atStart => exact ⟨1, rfl, by omega, .inr rfl, (show ∀ m, 1 ≤ m → m < 1 → _ from fun m h h' => by omega), by rw [Hw1.out]; exact Below.refl _ _⟩
  case round =>
    obtain ⟨k, rfl, hk1, hkj, HK, hB3⟩ := hrel
    by_cases hlk : k < bn
    · have hdk : decide ((k : Int) < (bn : Int)) = true := by simp; omega
      have hki : (k : Int) < (bn : Int) := by omega
      obtain ⟨k', Hk'⟩ : ∃ k', Hid (k = k' + 1) := ⟨k - 1, (by omega : k = k - 1 + 1)⟩
      have hsub : (k : Int) - 1 = (k' : Int) := by have := Hk'.out; omega
      have hk'i : (k' : Int) < (bn : Int) := by have := Hk'.out; omega
      obtain ⟨g, o, rfl, hc0⟩ := HUB.out k hlk
      obtain ⟨g2, o2, e2, hc1⟩ := HUB.out k' (by have := Hk'.out; omega)
      obtain ⟨rfl, rfl⟩ : g = g2 ∧ o = o2 := by
        simp only [Option.some.injEq, Addr.mk.injEq] at e2
        exact ⟨e2.1, e2.2.1⟩
      have hck := hc0 _ hB3
      have hck' := hc1 _ hB3
      obtain ⟨x, Hx⟩ : ∃ x, Hid (x = b.getD k 0) := ⟨_, (rfl : b.getD k 0 = b.getD k 0)⟩
      obtain ⟨y, Hy⟩ : ∃ y, Hid (y = b.getD k' 0) := ⟨_, (rfl : b.getD k' 0 = b.getD k' 0)⟩
      rw [← Hx.out] at hck
      rw [← Hy.out] at hck'
      clear e2 hc0 hc1
      by_cases hle : x ≤ y
      · have hb1 : riB b = false := riB_no hk1 (by omega) (by rw [← Hx.out, show k - 1 = k' by have := Hk'.out; omega, ← Hy.out]; exact hle)
        obtain rfl : z = false := by rw [← HZ.out, hb1]
        have hdx : decide (x ≤ y) = true := decide_eq_true hle
        clear hle hb1
        go_wp2
        go_quiet (fail)
        go_wp2
        go_ret
        exact ⟨rfl, by rw [← Hw1.out]; exact bdrewN hB3 _⟩
      · have hdx : decide (x ≤ y) = false := decide_eq_false hle
        have HK2 : Hid (∀ m, 1 ≤ m → m < k + 1 → m < bn → b.getD (m - 1) 0 < b.getD m 0) := fun m h1 h2 h3 => by
          by_cases e : m = k
          · subst e; rw [show m - 1 = k' by have := Hk'.out; omega, ← Hx.out, ← Hy.out]; omega
          · exact HK.out m h1 (by omega) h3
        clear hle HK
        go_wp2
        go_quiet (fail)
        go_wp2
        go_roundw
        case rel => exact ⟨k + 1, by go_num, by omega, .inl (by omega), HK2, bdrewN hB3 _⟩
        case measure => simp [intOf]; omega
    · have hdk : decide ((k : Int) < (bn : Int)) = false := by simp; omega
      have hb0 : riB b = true := riB_yes (fun m h1 h2 => HK.out m h1 (by omega) (by omega))
      obtain rfl : z = true := by rw [← HZ.out, hb0]
      clear hb0
      go_wp2
      go_ret
      exact ⟨rfl, by rw [← Hw1.out]; exact hB3⟩
set_option maxHeartbeats 4000000 in
theorem Check_far (p : Int) (u : Value) (w : World) (n c : Nat) (a : Option Addr) (hu : u = .slice a n c) (h : p < 1 ∨ 60 < p) : Calls Tryd.prog 33 #[.int .i64 p, u] w fun e w' => e = .returned (.int .i64 1) ∧ Below w.heap.size w w' := by
  subst hu
  by_cases h1 : p < 1
  · have d1 : decide (p < 1) = true := decide_eq_true h1
    clear h h1
    go_enter Tryd.func33, Tryd.ntmps33
    go_wp2
    go_ret
    exact ⟨rfl, Below.refl _ _⟩
  · have d1 : decide (p < 1) = false := decide_eq_false h1
    have h2 : 60 < p := by omega
    have d2 : decide (60 < p) = true := decide_eq_true h2
    clear h h1 h2
    go_enter Tryd.func33, Tryd.ntmps33
    go_wp2
    go_ret
    exact ⟨rfl, Below.refl _ _⟩
set_option maxHeartbeats 4000000 in
theorem Check_near (p : Int) (b : List Int) (u : Value) (w : World) (hu : Sl w u b) (hbl : b.length ≤ maxLen) (h1 : 1 ≤ p) (h2 : p ≤ 60) :
    Calls Tryd.prog 33 #[.int .i64 p, u] w fun e w' => e = .returned (.int .i64 (bF p b : Int)) ∧ Below w.heap.size w w' := by
  have HR : Hid (∀ W, Below w.heap.size w W → Calls Tryd.prog 47 #[u] W fun e w' => e = .returned (.bool (riB b)) ∧ Below W.heap.size W w') := fun W bW => rises_any b u W (hu.below bW) hbl
  unfold maxLen at hbl
  obtain ⟨ua, uc, rfl, hub⟩ := hu
  have HUB : Hid (∀ j, j < b.length → ∃ g o, ua = some ⟨g, o, none⟩ ∧ ∀ W, Below w.heap.size w W → W.cell? ⟨g, o + j, none⟩ = some (.int .i64 (b.getD j 0))) := fun j hj => by
    obtain ⟨g, o, e, hc⟩ := hub j hj
    exact ⟨g, o, e, fun W bW => (bW.cell (World.block_lt_of_cell? _ _ hc)).trans hc⟩
  obtain ⟨w1, Hw1⟩ : ∃ w1 : World, Hid (w1 = w) := ⟨_, rfl⟩
  rw [← Hw1.out] at HUB
  rw [← Hw1.out] at HR
  obtain ⟨z, HZ⟩ : ∃ z, Hid (bF p b = z) := ⟨_, rfl⟩
  rw [HZ.out]
  generalize hbn : b.length = bn at *
  have d1 : decide (p < 1) = false := by simp; omega
  have d2 : decide (60 < p) = false := by simp; omega
  clear hub
  go_enter Tryd.func33, Tryd.ntmps33
  go_wp2
  go_loopw [15] (fun jv wr' => ∃ j : Nat, jv = .int .i64 (j : Int) ∧ j ≤ bn ∧ Hid (∀ m, m < j → 0 ≤ b.getD m 0 ∧ b.getD m 0 < p) ∧ Below w1.heap.size w1 wr') (fun jv _ => (bn - intOf jv).toNat)
  case atStart => exact ⟨0, rfl, by omega, (show ∀ m, m < 0 → _ from fun m h => by omega), by rw [Hw1.out]; exact Below.refl _ _⟩
  case round =>
    obtain ⟨j, rfl, hj, HJ, hB2⟩ := hrel
    by_cases hlj : j < bn
    · have hdj : decide ((j : Int) < (bn : Int)) = true := by simp; omega
      have hji : (j : Int) < (bn : Int) := by omega
      obtain ⟨g, o, rfl, hcj0⟩ := HUB.out j hlj
      have hcj := hcj0 _ hB2
      obtain ⟨x, Hx⟩ : ∃ x, Hid (x = b.getD j 0) := ⟨_, (rfl : b.getD j 0 = b.getD j 0)⟩
      rw [← Hx.out] at hcj
      by_cases hneg : x < 0
      · have hb1 : bF p b = 1 := bF_out (j := j) (by omega) (by rw [← Hx.out]; omega)
        obtain rfl : z = 1 := by rw [← HZ.out, hb1]
        have hdx : decide (x < 0) = true := decide_eq_true hneg
        clear hneg hb1 hcj0
        go_wp2
        go_ret
        exact ⟨rfl, by rw [← Hw1.out]; exact hB2⟩
      · have hdx : decide (x < 0) = false := decide_eq_false hneg
        by_cases hge : p ≤ x
        · have hb1 : bF p b = 1 := bF_out (j := j) (by omega) (by rw [← Hx.out]; omega)
          obtain rfl : z = 1 := by rw [← HZ.out, hb1]
          have hdx2 : decide (p ≤ x) = true := decide_eq_true hge
          clear hneg hge hb1 hcj0
          go_wp2
          go_ret
          exact ⟨rfl, by rw [← Hw1.out]; exact hB2⟩
        · have hdx2 : decide (p ≤ x) = false := decide_eq_false hge
          have HJ2 : Hid (∀ m, m < j + 1 → 0 ≤ b.getD m 0 ∧ b.getD m 0 < p) := fun m hm => by
            by_cases e : m = j
            · subst e; rw [← Hx.out]; omega
            · exact HJ.out m (by omega)
          clear hneg hge HJ hcj0
          go_wp2
          go_roundw
          case rel => exact ⟨j + 1, by go_num, by omega, HJ2, hB2⟩
          case measure => simp [intOf]; omega
    · have hdj : decide ((j : Int) < (bn : Int)) = false := by simp; omega
      obtain rfl : j = bn := by omega
      clear hlj
      have hR := HR.out _ hB2
      have hzz : bF p b = if riB b = true then 0 else 2 := bF_riB (by rw [hbn]; exact HJ.out)
      cases hr : riB b
      · rw [hr] at hR hzz
        obtain rfl : z = 2 := by rw [← HZ.out, hzz]; rfl
        clear hr hzz HR HUB
        go_wp2_with (first
          | (go_at_call 47; refine hR.mono ?_; rintro e w2 ⟨rfl, hb⟩; clear hR)
          | go_in)
        go_ret
        exact ⟨rfl, by rw [← Hw1.out]; exact hB2.trans (hb.mono hB2.size)⟩
      · rw [hr] at hR hzz
        obtain rfl : z = 0 := by rw [← HZ.out, hzz]; rfl
        clear hr hzz HR HUB
        go_wp2_with (first
          | (go_at_call 47; refine hR.mono ?_; rintro e w2 ⟨rfl, hb⟩; clear hR)
          | go_in)
        go_ret
        exact ⟨rfl, by rw [← Hw1.out]; exact hB2.trans (hb.mono hB2.size)⟩

theorem CheckS_any (p : Int) (b : List Int) (u : Value) (w : World) (hu : Sl w u b) (hbl : b.length ≤ maxLen) :
    Calls Tryd.prog 33 #[.int .i64 p, u] w fun e w' => e = .returned (.int .i64 (sF p b : Int)) ∧ Below w.heap.size w w' := by
  by_cases h : p < 1 ∨ 60 < p
  · rw [show sF p b = 1 from if_pos h]
    obtain ⟨a, c, rfl, _⟩ := hu
    exact Check_far p _ w _ c a rfl h
  · rw [show sF p b = bF p b from if_neg h]
    exact Check_near p b u w hu hbl (by omega) (by omega)

end Go.Proofs.YtmiinhbffiodmaaDoor

namespace Go.Proofs.YtmiinhbffiodmaaDoor
open Go.RowKit

/-- What is wrong with marks. -/
def mF (l : List Int) : Nat := if 60 < l.length then 3 else if bF 1000000001 l = 1 then 1 else if (0 < l.length ∧ l.getD 0 0 ≠ 0) ∨ riB l = false then 2 else 0
theorem bF_one {p : Int} {b : List Int} (h : ∀ j, j < b.length → 0 ≤ b.getD j 0 ∧ b.getD j 0 < p) : bF p b ≠ 1 := by
  rw [bF_riB h]
  split <;> omega
theorem mF_out {l : List Int} {j : Nat} (h60 : l.length ≤ 60) (hj : j < l.length) (h : ¬ (0 ≤ l.getD j 0 ∧ l.getD j 0 < 1000000001)) : mF l = 1 := by
  unfold mF
  rw [if_neg (by omega), if_pos (bF_out hj h)]
theorem mF_first {l : List Int} (h60 : l.length ≤ 60) (h : ∀ j, j < l.length → 0 ≤ l.getD j 0 ∧ l.getD j 0 < 1000000001) (h0 : 0 < l.length) (hn : l.getD 0 0 ≠ 0) : mF l = 2 := by
  unfold mF
  rw [if_neg (by omega), if_neg (bF_one h), if_pos (.inl ⟨h0, hn⟩)]
theorem mF_fall {l : List Int} {j : Nat} (h60 : l.length ≤ 60) (h : ∀ j, j < l.length → 0 ≤ l.getD j 0 ∧ l.getD j 0 < 1000000001) (h1 : 1 ≤ j) (hj : j < l.length) (hf : l.getD j 0 ≤ l.getD (j - 1) 0) : mF l = 2 := by
  unfold mF
  rw [if_neg (by omega), if_neg (bF_one h), if_pos (.inr (riB_no h1 hj hf))]
theorem mF_zero {l : List Int} (h60 : l.length ≤ 60) (h : ∀ j, j < l.length → 0 ≤ l.getD j 0 ∧ l.getD j 0 < 1000000001) (h0 : 0 < l.length → l.getD 0 0 = 0) (hr : ∀ j, 1 ≤ j → j < l.length → l.getD (j - 1) 0 < l.getD j 0) : mF l = 0 := by
  unfold mF
  rw [if_neg (by omega), if_neg (bF_one h), if_neg]
  rintro (⟨a, b⟩ | a)
  · exact b (h0 a)
  · rw [riB_yes hr] at a
    cases a
/-- Marks: a list that rises, from 0 on. -/
structure GoodM (l : List Nat) : Prop where
  few : l.length ≤ 60
  rise : l.Pairwise (· < ·)
  le : ∀ x ∈ l, x ≤ 1000000000
  zero : l.getD 0 0 = 0
theorem mF_good {l : List Int} (h : mF l = 0) : ∃ D : List Nat, l = D.map Int.ofNat ∧ GoodM D := by
  unfold mF at h
  split at h
  · cases h
  · rename_i h1
    split at h
    · cases h
    · rename_i h2
      split at h
      · cases h
      · rename_i h3
        have hin : ∀ j, j < l.length → 0 ≤ l.getD j 0 ∧ l.getD j 0 < 1000000001 := fun j hj => Classical.byContradiction fun hn => h2 (bF_out hj hn)
        have hri : riB l = true := by
          cases e : riB l
          · exact absurd (Or.inr e) h3
          · rfl
        have hrr : ∀ j, 1 ≤ j → j < l.length → l.getD (j - 1) 0 < l.getD j 0 := fun j hj1 hj => Classical.byContradiction fun hn => by
          rw [riB_no hj1 hj (by omega)] at hri
          cases hri
        obtain ⟨r1, r2⟩ := toNat_rs (v := 1000000001) (lo := 0) (fun j hj => by have := hin j hj; omega) hrr
        obtain ⟨r3, r4⟩ := rs_iff.1 r1
        refine ⟨l.map Int.toNat, r2.symm, by rw [List.length_map]; omega, r3, fun x hx => by have := (r4 x hx).2; omega, ?_⟩
        rcases l with _ | ⟨y, l⟩
        · rfl
        · have hy : y = 0 := Classical.byContradiction fun hn => h3 (.inl ⟨by simp, by simpa using hn⟩)
          simp [hy]
end Go.Proofs.YtmiinhbffiodmaaDoor
