/- The walk of the document's PaleySigns. -/
import Derived.Test.YtamdpcajfgbagaaDoorG2
import Derived.Test.YtamdpcajfgbagaaDoorG0
import Derived.OwnWalk
namespace Go.Proofs.YtamdpcajfgbagaaDoor
open Go.RowKit

def dcB (p i j y : Nat) : Bool := ((y * y : Nat) - (j : Int) + (i : Int)).tmod (p : Int) == 0
/-- What the document finds, of the numbers below k. -/
def dcX (p i j k : Nat) : Int := if (List.range k).any (fun y => decide (1 ≤ y) && dcB p i j y) then 1 else -1
theorem dcX_one (p i j : Nat) : dcX p i j 1 = -1 := rfl
theorem dcX_yes {p i j k : Nat} (hk : 1 ≤ k) (h : dcB p i j k = true) : dcX p i j (k + 1) = 1 := by
  unfold dcX
  rw [List.range_succ, List.any_append]
  simp [hk, h]
theorem dcX_no {p i j k : Nat} (h : dcB p i j k = false) : dcX p i j (k + 1) = dcX p i j k := by
  unfold dcX
  rw [List.range_succ, List.any_append]
  simp [h]
theorem dc_all : ∀ p : Fin 24, paQ p.val = true → ∀ i : Fin 24, ∀ j : Fin 24, (i.val != 0 && i.val != j.val && decide (0 < j.val) && decide (i.val ≤ p.val) && decide (j.val ≤ p.val)) = true → dcX p.val i.val j.val p.val = paF p.val i.val j.val := by decide +kernel
theorem dc_pa {p i j : Nat} (hp : paQ p = true) (h23 : p ≤ 23) (h : ¬ (i = 0 ∨ i = j)) (hj : 0 < j) (hi : i ≤ p) (hj2 : j ≤ p) : dcX p i j p = paF p i j :=
  dc_all ⟨p, by omega⟩ hp ⟨i, by omega⟩ ⟨j, by omega⟩ (by simp; omega)
theorem vi_succ (l : List Int) (x : Int) : vi (l ++ [x]) = vi l ++ [.int .i64 x] := by simp [vi]
set_option maxHeartbeats 4000000 in
theorem DPal_far (p : Int) (w : World) (h : p < 1 ∨ 23 < p) : Calls Tryd.prog 9 #[.int .i64 p] w fun e w' => e = .returned (.tuple #[.agg #[.int .i64 0, .slice none 0 0], .int .i64 1]) ∧ Below w.heap.size w w' := by
  have HH : Hid ((w.alloc (.cells #[.int .i64 0, .slice none 0 0] 24)).heap[w.heap.size]? = some (.cells #[.int .i64 0, .slice none 0 0] 24 (0, 0))) := heap_alloc_new w _
  by_cases h1 : p < 1
  · have d1 : decide (p < 1) = true := decide_eq_true h1
    clear h h1
    go_enter Tryd.func9, Tryd.ntmps9
    go_wp2
    exact post_sq2 2 3 Tryd.results9 rfl HH.out rfl rfl ⟨rfl, balloc _ _⟩
  · have d1 : decide (p < 1) = false := decide_eq_false h1
    have h2 : 23 < p := by omega
    have d2 : decide (23 < p) = true := decide_eq_true h2
    clear h h1 h2
    go_enter Tryd.func9, Tryd.ntmps9
    go_wp2
    exact post_sq2 2 3 Tryd.results9 rfl HH.out rfl rfl ⟨rfl, balloc _ _⟩
set_option maxHeartbeats 4000000 in
theorem DPal_none (P : Nat) (w : World) (h1 : 1 ≤ P) (h23 : P ≤ 23) (h : p43 P = false) : Calls Tryd.prog 9 #[.int .i64 (P : Int)] w fun e w' => e = .returned (.tuple #[.agg #[.int .i64 0, .slice none 0 0], .int .i64 4]) ∧ Below w.heap.size w w' := by
  have d1 : decide ((P : Int) < 1) = false := by simp; omega
  have d2 : decide (23 < (P : Int)) = false := by simp; omega
  have HH : Hid ((w.alloc (.cells #[.int .i64 0, .slice none 0 0] 24)).heap[w.heap.size]? = some (.cells #[.int .i64 0, .slice none 0 0] 24 (0, 0))) := heap_alloc_new w _
  have C := Fd.isPrimeRef_any (P : Int) (w.alloc (.cells #[.int .i64 0, .slice none 0 0] 24)) (by omega)
  unfold p43 at h
  cases hp : Fd.isPrimeB (P : Int)
  · rw [hp] at C
    clear h hp
    go_enter Tryd.func9, Tryd.ntmps9
    go_wp2_with (go_at_call 21; refine C.mono ?_; rintro e w1 ⟨rfl, hw⟩; replace hw := hw.symm; subst hw; clear C)
    exact post_sq2 2 3 Tryd.results9 rfl HH.out rfl rfl ⟨rfl, balloc _ _⟩
  · rw [hp] at C h
    have h4 : P % 4 ≠ 3 := by simpa using h
    obtain ⟨r, Hr⟩ : ∃ r, Hid (P % 4 = r) := ⟨_, rfl⟩
    have m1 : (P : Int) % 4 = (r : Int) := by rw [← Hr.out]; simp
    have m2 : (P : Int).tmod 4 = (r : Int) := by rw [Int.tmod_eq_emod_of_nonneg (by omega)]; exact m1
    have e1 : ¬ (r : Int) = 3 := by have := Hr.out; omega
    have e2 : ((r : Int) != 3) = true := by simpa using e1
    clear h hp h4
    go_enter Tryd.func9, Tryd.ntmps9
    go_wp2_with (go_at_call 21; refine C.mono ?_; rintro e w1 ⟨rfl, hw⟩; replace hw := hw.symm; subst hw; clear C)
    exact post_sq2 2 3 Tryd.results9 rfl HH.out rfl rfl ⟨rfl, balloc _ _⟩
set_option maxRecDepth 100000 in
set_option maxHeartbeats 16000000 in
theorem DPal_ok (P : Nat) (w : World) (h1 : 1 ≤ P) (h23 : P ≤ 23) (h : p43 P = true) : Calls Tryd.prog 9 #[.int .i64 (P : Int)] w fun e w' => (∃ y, e = .returned (.tuple #[.agg #[.int .i64 ((P + 1 : Nat) : Int), y], .int .i64 0]) ∧ OwnS w' y (flI (P + 1) (paF P) ((P + 1) * (P + 1)))) ∧ Below w.heap.size w w' := by
  obtain ⟨i3, hi3, hz0, hz1, hz2⟩ := info3
  have d1 : decide ((P : Int) < 1) = false := by simp; omega
  have d2 : decide (23 < (P : Int)) = false := by simp; omega
  have hq : paQ P = true := by rw [← p43_q ⟨P, by omega⟩]; exact h
  obtain ⟨hp, h4⟩ : Fd.isPrimeB (P : Int) = true ∧ P % 4 = 3 := by
    unfold p43 at h
    rw [Bool.and_eq_true] at h
    exact ⟨h.1, by simpa using h.2⟩
  have m1 : (P : Int) % 4 = 3 := by omega
  have m2 : (P : Int).tmod 4 = 3 := by rw [Int.tmod_eq_emod_of_nonneg (by omega)]; exact m1
  have C := Fd.isPrimeRef_any (P : Int) (w.alloc (.cells #[.int .i64 0, .slice none 0 0] 24)) (by omega)
  rw [hp] at C
  have HDC : Hid (∀ i j, ¬ (i = 0 ∨ i = j) → 0 < j → i ≤ P → j ≤ P → dcX P i j P = paF P i j) := fun i j h hj hi hj2 => dc_pa hq h23 h hj hi hj2
  have HP1 : Hid (∀ i j, (i = 0 ∨ i = j) → paF P i j = 1) := fun i j h => paF_one h
  have HPC : Hid (∀ i, ¬ i = 0 → paF P i 0 = -1) := fun i h => paF_col h
  obtain ⟨t, Ht⟩ : ∃ t, Hid (paF P = t) := ⟨_, rfl⟩
  rw [Ht.out] at HDC HP1 HPC ⊢
  obtain ⟨n, Hn⟩ : ∃ n, Hid (P + 1 = n) := ⟨_, rfl⟩
  have hn : (P : Int) + 1 = (n : Int) := by rw [← Hn.out]; simp
  have hn24 : n ≤ 24 := by rw [← Hn.out]; omega
  rw [Hn.out]
  have hnn99 : n * n ≤ 999 := Nat.le_trans (Nat.mul_le_mul hn24 hn24) (by decide)
  obtain ⟨s, Hs⟩ : ∃ s, Hid (w.heap.size = s) := ⟨_, rfl⟩
  have hs : w.heap.size = s := Hs.out
  have hR0 : ((w.alloc (.cells #[.int .i64 0, .slice none 0 0] 24)).alloc (.cells #[.int .i64 (n : Int), .slice none 0 0] 24)).heap[s]? = some (.cells #[.int .i64 0, .slice none 0 0] 24 (0, 0)) := by rw [← hs]; exact (Below.heap_alloc _ _ _ (by simp)).trans (heap_alloc_new w _)
  have hR1 : ((w.alloc (.cells #[.int .i64 0, .slice none 0 0] 24)).alloc (.cells #[.int .i64 (n : Int), .slice none 0 0] 24)).heap[s + 1]? = some (.cells #[.int .i64 (n : Int), .slice none 0 0] 24 (0, 0)) := by
    rw [← hs]
    have := heap_alloc_new (w.alloc (.cells #[.int .i64 0, .slice none 0 0] 24)) (.cells #[.int .i64 (n : Int), .slice none 0 0] 24)
    simpa using this
  have hb0 : Below s w ((w.alloc (.cells #[.int .i64 0, .slice none 0 0] 24)).alloc (.cells #[.int .i64 (n : Int), .slice none 0 0] 24)) := by rw [← hs]; exact Below.next (balloc _ _) (balloc _ _)
  have hsz : s + 2 ≤ ((w.alloc (.cells #[.int .i64 0, .slice none 0 0] 24)).alloc (.cells #[.int .i64 (n : Int), .slice none 0 0] 24)).heap.size := by simp; omega
  clear h hp h4 hq
  go_enter Tryd.func9, Tryd.ntmps9
  go_wp2_with (go_at_call 21; refine C.mono ?_; rintro e w1 ⟨rfl, hw⟩; replace hw := hw.symm; subst hw; clear C)
  go_loopw [6] (fun iv wr => ∃ (i K : Nat) (o : Value), iv = .int .i64 (i : Int) ∧ i ≤ n ∧ Hid (K = i * n) ∧ wr.heap[s]? = some (.cells #[.int .i64 0, .slice none 0 0] 24 (0, 0)) ∧ wr.heap[s + 1]? = some (.cells #[.int .i64 (n : Int), o] 24 (0, 0)) ∧ wr.ownsRow (s + 2) 3 1 o K (vi (flI n t K)) ∧ s + 2 ≤ wr.heap.size ∧ Below s w wr) (fun iv _ => (n - intOf iv).toNat)
  case atStart => exact ⟨0, 0, _, rfl, by omega, (by omega : 0 = 0 * n), hR0, hR1, World.ownsRow_nil _ _ _ _, hsz, hb0⟩
  case round =>
    clear hR0 hR1 hsz hb0
    obtain ⟨i, K, o, rfl, hi, HK, hR0, hR1, hW, hsz, hB⟩ := hrel
    by_cases hli : i < n
    · have hdi : decide ((i : Int) ≤ (P : Int)) = true := by simp; have := Hn.out; omega
      have hiP : i ≤ P := by have := Hn.out; omega
      go_wp2
      go_loopw [7] (fun jv wr => ∃ (j K : Nat) (o : Value), jv = .int .i64 (j : Int) ∧ j ≤ n ∧ Hid (K = i * n + j) ∧ wr.heap[s]? = some (.cells #[.int .i64 0, .slice none 0 0] 24 (0, 0)) ∧ wr.heap[s + 1]? = some (.cells #[.int .i64 (n : Int), o] 24 (0, 0)) ∧ wr.ownsRow (s + 2) 3 1 o K (vi (flI n t K)) ∧ s + 2 ≤ wr.heap.size ∧ Below s w wr) (fun jv _ => (n - intOf jv).toNat)
      case atStart => exact ⟨0, K, o, rfl, by omega, HK, hR0, hR1, hW, hsz, hB⟩
      case round =>
        clear hR0 hR1 hsz hB hW HK
        obtain ⟨j, K, o, rfl, hj, HK, hR0, hR1, hW, hsz, hB⟩ := hrel
        by_cases hlj : j < n
        · have hdj : decide ((j : Int) ≤ (P : Int)) = true := by simp; have := Hn.out; omega
          have hjP : j ≤ P := by have := Hn.out; omega
          have hK99 : K ≤ 999 := by rw [HK.out]; have := cell_ltH hli hlj; omega
          have HK2 : Hid (K + 1 = i * n + (j + 1)) := by show _ = _; rw [HK.out]; omega
          have HFL : Hid (vi (flI n t (K + 1)) = vi (flI n t K) ++ [.int .i64 (t i j)]) := by show _ = _; rw [HK.out]; exact fl_succ t hlj
          have c1 : wr.cell? ⟨s + 1, 1, none⟩ = some o := by rw [cell_of_row _ _ _ _ _ _ hR1]; rfl
          obtain ⟨oa, ol, oc, rfl⟩ := own_slice hW
          obtain ⟨fl, Hfl⟩ : ∃ fl, Hid (vi (flI n t K) = fl) := ⟨_, rfl⟩
          rw [Hfl.out] at hW HFL
          by_cases i0 : i = 0
          · have z0 : ((i : Int) == 0) = true := by simp [i0]
            have hx := HP1.out i j (.inl i0)
            clear i0
            have HFL2 : Hid (vi (flI n t (K + 1)) = fl ++ [.int .i64 (1)]) := by show _ = _; rw [HFL.out, hx]
            go_wp2_with (first
              | (at_builtin; refine wpList_append_own _ rfl _ _ 22 rfl (s + 2) 3 i3 (.int .i64 0) 1 8 und22 hi3 hz0 hz1 hz2 rfl (by decide) _ K fl rfl (hW.alloc _) ⟨wr.heap.size, 0, none⟩ 1 1 [.int .i64 (1)] rfl rfl ?c1 ?c2 ?c3 ?c4 ?c5 ?_)
              | go_in)
            case c1 =>
              intro j u hj
              match j, hj with
              | 0, hj => simp at hj; subst hj; simp [Addr.add]
            case c2 => intro u hu; simp at hu; subst hu; rfl
            case c3 => unfold maxLen; omega
            case c4 => omega
            case c5 => simp; omega
            intro v' w2 hown' hgrow _
            obtain ⟨pa, pl, pc, rfl⟩ := own_slice hown'
            have k0 := (hgrow.block s (by simp; omega) (fun e => own_diff hW hR0 e.symm)).trans (((balloc wr (.cells #[.int .i64 (1)] 3)).block s (by omega)).trans hR0)
            have k1 := (hgrow.block (s + 1) (by simp; omega) (fun e => own_diff hW hR1 e.symm)).trans (((balloc wr (.cells #[.int .i64 (1)] 3)).block (s + 1) (by omega)).trans hR1)
            have hB2 : Below s w w2 := (hB.alloc (by omega) (.cells #[.int .i64 (1)] 3)).grown hgrow (by simp; omega) (fun k hk => by have := (hW.lt k hk).1; omega)
            have f1 := frozen_of_row w2 (s + 1) 1 _ _ k1
            have q1 : w2.cell? ⟨s + 1, 1, none⟩ = some (.slice oa ol oc) := by rw [cell_of_row _ _ _ _ _ _ k1]; rfl
            have k0' := (heap_setCell_other w2 ⟨s + 1, 1, none⟩ s (.slice pa pl pc) (by show s ≠ s + 1; omega)).trans k0
            have k1' := heap_setCell_same w2 (s + 1) 1 _ _ (.slice pa pl pc) k1
            have hW2 := orow_other hown' ⟨s + 1, 1, none⟩ (.slice pa pl pc) (own_diff hown' k1)
            have hB3 := hB2.setCell (p := ⟨s + 1, 1, none⟩) (by show s ≤ s + 1; omega) (.slice pa pl pc)
            have hsz2 : s + 2 ≤ (w2.setCell ⟨s + 1, 1, none⟩ (.slice pa pl pc)).heap.size := by have := (Array.getElem?_eq_some_iff.1 k1).1; simp; omega
            rw [← HFL2.out] at hW2
            clear k0 k1 hown' hgrow hB2 c1
            go_wp2
            go_roundw
            case rel => exact ⟨j + 1, K + 1, _, by go_num, by omega, HK2, k0', k1', hW2, hsz2, hB3⟩
            case measure => simp [intOf]; omega
          · have z0 : ((i : Int) == 0) = false := by simp [i0]
            by_cases ij : i = j
            · have z1 : ((i : Int) == (j : Int)) = true := by simp [ij]
              have hx := HP1.out i j (.inr ij)
              clear ij i0
              have HFL2 : Hid (vi (flI n t (K + 1)) = fl ++ [.int .i64 (1)]) := by show _ = _; rw [HFL.out, hx]
              go_wp2_with (first
                | (at_builtin; refine wpList_append_own _ rfl _ _ 22 rfl (s + 2) 3 i3 (.int .i64 0) 1 8 und22 hi3 hz0 hz1 hz2 rfl (by decide) _ K fl rfl (hW.alloc _) ⟨wr.heap.size, 0, none⟩ 1 1 [.int .i64 (1)] rfl rfl ?c1 ?c2 ?c3 ?c4 ?c5 ?_)
                | go_in)
              case c1 =>
                intro j u hj
                match j, hj with
                | 0, hj => simp at hj; subst hj; simp [Addr.add]
              case c2 => intro u hu; simp at hu; subst hu; rfl
              case c3 => unfold maxLen; omega
              case c4 => omega
              case c5 => simp; omega
              intro v' w2 hown' hgrow _
              obtain ⟨pa, pl, pc, rfl⟩ := own_slice hown'
              have k0 := (hgrow.block s (by simp; omega) (fun e => own_diff hW hR0 e.symm)).trans (((balloc wr (.cells #[.int .i64 (1)] 3)).block s (by omega)).trans hR0)
              have k1 := (hgrow.block (s + 1) (by simp; omega) (fun e => own_diff hW hR1 e.symm)).trans (((balloc wr (.cells #[.int .i64 (1)] 3)).block (s + 1) (by omega)).trans hR1)
              have hB2 : Below s w w2 := (hB.alloc (by omega) (.cells #[.int .i64 (1)] 3)).grown hgrow (by simp; omega) (fun k hk => by have := (hW.lt k hk).1; omega)
              have f1 := frozen_of_row w2 (s + 1) 1 _ _ k1
              have q1 : w2.cell? ⟨s + 1, 1, none⟩ = some (.slice oa ol oc) := by rw [cell_of_row _ _ _ _ _ _ k1]; rfl
              have k0' := (heap_setCell_other w2 ⟨s + 1, 1, none⟩ s (.slice pa pl pc) (by show s ≠ s + 1; omega)).trans k0
              have k1' := heap_setCell_same w2 (s + 1) 1 _ _ (.slice pa pl pc) k1
              have hW2 := orow_other hown' ⟨s + 1, 1, none⟩ (.slice pa pl pc) (own_diff hown' k1)
              have hB3 := hB2.setCell (p := ⟨s + 1, 1, none⟩) (by show s ≤ s + 1; omega) (.slice pa pl pc)
              have hsz2 : s + 2 ≤ (w2.setCell ⟨s + 1, 1, none⟩ (.slice pa pl pc)).heap.size := by have := (Array.getElem?_eq_some_iff.1 k1).1; simp; omega
              rw [← HFL2.out] at hW2
              clear k0 k1 hown' hgrow hB2 c1
              go_wp2
              go_roundw
              case rel => exact ⟨j + 1, K + 1, _, by go_num, by omega, HK2, k0', k1', hW2, hsz2, hB3⟩
              case measure => simp [intOf]; omega
            · have z1 : ((i : Int) == (j : Int)) = false := by simp; omega
              by_cases j0 : j = 0
              · have z2 : decide (0 < (j : Int)) = false := by simp; omega
                have z3 : decide (0 < j) = false := by simp; omega
                have hx : t i j = -1 := by rw [j0]; exact HPC.out i i0
                clear ij i0 j0
                have HFL2 : Hid (vi (flI n t (K + 1)) = fl ++ [.int .i64 (-1)]) := by show _ = _; rw [HFL.out, hx]
                go_wp2_with (first
                  | (at_builtin; refine wpList_append_own _ rfl _ _ 22 rfl (s + 2) 3 i3 (.int .i64 0) 1 8 und22 hi3 hz0 hz1 hz2 rfl (by decide) _ K fl rfl (hW.alloc _) ⟨wr.heap.size, 0, none⟩ 1 1 [.int .i64 (-1)] rfl rfl ?c1 ?c2 ?c3 ?c4 ?c5 ?_)
                  | go_in)
                case c1 =>
                  intro j u hj
                  match j, hj with
                  | 0, hj => simp at hj; subst hj; simp [Addr.add]
                case c2 => intro u hu; simp at hu; subst hu; rfl
                case c3 => unfold maxLen; omega
                case c4 => omega
                case c5 => simp; omega
                intro v' w2 hown' hgrow _
                obtain ⟨pa, pl, pc, rfl⟩ := own_slice hown'
                have k0 := (hgrow.block s (by simp; omega) (fun e => own_diff hW hR0 e.symm)).trans (((balloc wr (.cells #[.int .i64 (-1)] 3)).block s (by omega)).trans hR0)
                have k1 := (hgrow.block (s + 1) (by simp; omega) (fun e => own_diff hW hR1 e.symm)).trans (((balloc wr (.cells #[.int .i64 (-1)] 3)).block (s + 1) (by omega)).trans hR1)
                have hB2 : Below s w w2 := (hB.alloc (by omega) (.cells #[.int .i64 (-1)] 3)).grown hgrow (by simp; omega) (fun k hk => by have := (hW.lt k hk).1; omega)
                have f1 := frozen_of_row w2 (s + 1) 1 _ _ k1
                have q1 : w2.cell? ⟨s + 1, 1, none⟩ = some (.slice oa ol oc) := by rw [cell_of_row _ _ _ _ _ _ k1]; rfl
                have k0' := (heap_setCell_other w2 ⟨s + 1, 1, none⟩ s (.slice pa pl pc) (by show s ≠ s + 1; omega)).trans k0
                have k1' := heap_setCell_same w2 (s + 1) 1 _ _ (.slice pa pl pc) k1
                have hW2 := orow_other hown' ⟨s + 1, 1, none⟩ (.slice pa pl pc) (own_diff hown' k1)
                have hB3 := hB2.setCell (p := ⟨s + 1, 1, none⟩) (by show s ≤ s + 1; omega) (.slice pa pl pc)
                have hsz2 : s + 2 ≤ (w2.setCell ⟨s + 1, 1, none⟩ (.slice pa pl pc)).heap.size := by have := (Array.getElem?_eq_some_iff.1 k1).1; simp; omega
                rw [← HFL2.out] at hW2
                clear k0 k1 hown' hgrow hB2 c1
                go_wp2
                go_roundw
                case rel => exact ⟨j + 1, K + 1, _, by go_num, by omega, HK2, k0', k1', hW2, hsz2, hB3⟩
                case measure => simp [intOf]; omega
              · have z2 : decide (0 < (j : Int)) = true := by simp; omega
                have z3 : decide (0 < j) = true := by simp; omega
                have hx := HDC.out i j (by omega) (by omega) hiP hjP
                have HX : Hid (dcX P i j P = t i j) := hx
                clear ij i0 j0 hx
                go_wp2
                go_loopw [8, 9] (fun xv yv wr' => ∃ (k : Nat), yv = .int .i64 (k : Int) ∧ 1 ≤ k ∧ k ≤ P ∧ xv = .int .i64 (dcX P i j k) ∧ wr' = wr) (fun _ yv _ => (P - intOf yv).toNat)
                case atStart => exact ⟨1, rfl, by omega, h1, rfl, rfl⟩
                case round =>
                  obtain ⟨k, rfl, hk1, hk, rfl, hwr⟩ := hrel
                  replace hwr := hwr.symm
                  subst hwr
                  by_cases hlk : k < P
                  · have hdk : decide ((k : Int) < (P : Int)) = true := by simp; omega
                    have hkk : k * k ≤ 529 := Nat.le_trans (Nat.mul_le_mul (show k ≤ 23 by omega) (show k ≤ 23 by omega)) (by decide)
                    have HD : Hid ((((k * k : Nat) - (j : Int) + (i : Int)).tmod (P : Int) == 0) = dcB P i j k) := rfl
                    obtain ⟨kk, Hkk⟩ : ∃ q, Hid (k * k = q) := ⟨_, rfl⟩
                    have hmk : (k : Int) * (k : Int) = (kk : Int) := by rw [← Hkk.out]; simp
                    rw [Hkk.out] at HD hkk
                    obtain ⟨d, hd⟩ : ∃ d, (kk : Int) - (j : Int) = d := ⟨_, rfl⟩
                    rw [hd] at HD
                    obtain ⟨e, he⟩ : ∃ e, d + (i : Int) = e := ⟨_, rfl⟩
                    rw [he] at HD
                    have hPn : ¬ (P : Int) = 0 := by omega
                    have hPz : ¬ P = 0 := by omega
                    have hr1 : -99 ≤ e.tmod (P : Int) ∧ e.tmod (P : Int) ≤ 99 := by
                      have a1 := Int.tmod_lt_of_pos e (show (0 : Int) < P by omega)
                      have a2 := Int.lt_tmod_of_pos e (show (0 : Int) < P by omega)
                      omega
                    obtain ⟨r, hr⟩ : ∃ r, e.tmod (P : Int) = r := ⟨_, rfl⟩
                    rw [hr] at HD hr1
                    have wr' := wrapZ (z := r) (by omega) (by omega)
                    have hd1 : -99 ≤ d ∧ d ≤ 999 := by omega
                    have he1 : -99 ≤ e ∧ e ≤ 999 := by omega
                    obtain ⟨hd2, hd3⟩ := hd1
                    obtain ⟨he2, he3⟩ := he1
                    obtain ⟨hr2, hr3⟩ := hr1
                    by_cases r0 : r = 0
                    · have rz : (r == 0) = true := by simp [r0]
                      have HN : Hid (dcX P i j (k + 1) = 1) := dcX_yes hk1 (by rw [← HD.out]; exact rz)
                      clear r0 HD
                      go_wp2
                      go_roundw
                      case rel => exact ⟨k + 1, by go_num, by omega, by omega, by rw [HN.out], trivial⟩
                      case measure => simp [intOf]; omega
                    · have rz : (r == 0) = false := by simp [r0]
                      have HN : Hid (dcX P i j (k + 1) = dcX P i j k) := dcX_no (by rw [← HD.out]; exact rz)
                      clear r0 HD
                      go_wp2
                      go_roundw
                      case rel => exact ⟨k + 1, by go_num, by omega, by omega, by rw [HN.out], trivial⟩
                      case measure => simp [intOf]; omega
                  · have hdk : decide ((k : Int) < (P : Int)) = false := by simp; omega
                    have hkP : k = P := by omega
                    have hx : t i j = dcX P i j k := by rw [hkP]; exact HX.out.symm
                    clear hkP
                    generalize dcX P i j k = xx at *
                    have HFL2 : Hid (vi (flI n t (K + 1)) = fl ++ [.int .i64 (xx)]) := by show _ = _; rw [HFL.out, hx]
                    go_wp2_with (first
                      | (at_builtin; refine wpList_append_own _ rfl _ _ 22 rfl (s + 2) 3 i3 (.int .i64 0) 1 8 und22 hi3 hz0 hz1 hz2 rfl (by decide) _ K fl rfl (hW.alloc _) ⟨wr.heap.size, 0, none⟩ 1 1 [.int .i64 (xx)] rfl rfl ?c1 ?c2 ?c3 ?c4 ?c5 ?_)
                      | go_in)
                    case c1 =>
                      intro j u hj
                      match j, hj with
                      | 0, hj => simp at hj; subst hj; simp [Addr.add]
                    case c2 => intro u hu; simp at hu; subst hu; rfl
                    case c3 => unfold maxLen; omega
                    case c4 => omega
                    case c5 => simp; omega
                    intro v' w2 hown' hgrow _
                    obtain ⟨pa, pl, pc, rfl⟩ := own_slice hown'
                    have k0 := (hgrow.block s (by simp; omega) (fun e => own_diff hW hR0 e.symm)).trans (((balloc wr (.cells #[.int .i64 (xx)] 3)).block s (by omega)).trans hR0)
                    have k1 := (hgrow.block (s + 1) (by simp; omega) (fun e => own_diff hW hR1 e.symm)).trans (((balloc wr (.cells #[.int .i64 (xx)] 3)).block (s + 1) (by omega)).trans hR1)
                    have hB2 : Below s w w2 := (hB.alloc (by omega) (.cells #[.int .i64 (xx)] 3)).grown hgrow (by simp; omega) (fun k hk => by have := (hW.lt k hk).1; omega)
                    have f1 := frozen_of_row w2 (s + 1) 1 _ _ k1
                    have q1 : w2.cell? ⟨s + 1, 1, none⟩ = some (.slice oa ol oc) := by rw [cell_of_row _ _ _ _ _ _ k1]; rfl
                    have k0' := (heap_setCell_other w2 ⟨s + 1, 1, none⟩ s (.slice pa pl pc) (by show s ≠ s + 1; omega)).trans k0
                    have k1' := heap_setCell_same w2 (s + 1) 1 _ _ (.slice pa pl pc) k1
                    have hW2 := orow_other hown' ⟨s + 1, 1, none⟩ (.slice pa pl pc) (own_diff hown' k1)
                    have hB3 := hB2.setCell (p := ⟨s + 1, 1, none⟩) (by show s ≤ s + 1; omega) (.slice pa pl pc)
                    have hsz2 : s + 2 ≤ (w2.setCell ⟨s + 1, 1, none⟩ (.slice pa pl pc)).heap.size := by have := (Array.getElem?_eq_some_iff.1 k1).1; simp; omega
                    rw [← HFL2.out] at hW2
                    clear k0 k1 hown' hgrow hB2 c1
                    go_wp2
                    go_roundw
                    case rel => exact ⟨j + 1, K + 1, _, by go_num, by omega, HK2, k0', k1', hW2, hsz2, hB3⟩
                    case measure => simp [intOf]; omega
        · have hdj : decide ((j : Int) ≤ (P : Int)) = false := by simp; have := Hn.out; omega
          have HK2 : Hid (K = (i + 1) * n) := by show _ = _; rw [HK.out, show j = n by omega, Nat.add_mul]; omega
          go_wp2
          go_roundw
          case rel => exact ⟨i + 1, K, o, by go_num, by omega, HK2, hR0, hR1, hW, hsz, hB⟩
          case measure => simp [intOf]; omega
    · have hdi : decide ((i : Int) ≤ (P : Int)) = false := by simp; have := Hn.out; omega
      have hKn : K = n * n := by rw [HK.out, show i = n by omega]
      rw [hKn] at hW
      obtain ⟨oa, ol, oc, rfl⟩ := own_slice hW
      have c0 : wr.cell? ⟨s + 1, 0, none⟩ = some (.int .i64 (n : Int)) := by rw [cell_of_row _ _ _ _ _ _ hR1]; rfl
      have c1 : wr.cell? ⟨s + 1, 1, none⟩ = some (.slice oa ol oc) := by rw [cell_of_row _ _ _ _ _ _ hR1]; rfl
      have a2 : wr.cell? ⟨s, 0, none⟩ = some (.int .i64 0) := by rw [cell_of_row _ _ _ _ _ _ hR0]; rfl
      have a3 : wr.cell? ⟨s, 1, none⟩ = some (.slice none 0 0) := by rw [cell_of_row _ _ _ _ _ _ hR0]; rfl
      have f0 := frozen_of_row wr s 0 _ _ hR0
      have f1 := frozen_of_row wr s 1 _ _ hR0
      have hn1 := heap_setCell_same wr s 0 _ _ (.int .i64 (n : Int)) hR0
      have hn2 := heap_setCell_same _ s 1 _ _ (.slice oa ol oc) hn1
      have hW2 := orow_other (orow_other hW ⟨s, 0, none⟩ (.int .i64 (n : Int)) (own_diff hW hR0)) ⟨s, 1, none⟩ (.slice oa ol oc) (own_diff hW hR0)
      have HS : Hid _ := OwnS.fl hW2
      have hB2 := (hB.setCell (p := ⟨s, 0, none⟩) (by show s ≤ s; omega) (.int .i64 (n : Int))).setCell (p := ⟨s, 1, none⟩) (by show s ≤ s; omega) (.slice oa ol oc)
      clear hW hW2 hKn hn1
      go_wp2
      exact post_sq2 2 3 Tryd.results9 rfl hn2 rfl rfl ⟨⟨_, rfl, HS.out⟩, by rw [hs]; exact hB2⟩
end Go.Proofs.YtamdpcajfgbagaaDoor
