/- The walk of having. -/
import Derived.Test.YtnnopfdckillpaaDoorHG
import Derived.Test.YtnnopfdckillpaaDoorF6
namespace Go.Proofs.YtnnopfdckillpaaDoor
open Go.RowKit Go.Shelf

theorem filt_succ {S : List Nat} (q : Nat → Bool) {i : Nat} (hi : i < S.length) : (S.take (i + 1)).filter q = (S.take i).filter q ++ if q (S.getD i 0) = true then [S.getD i 0] else [] := by
  have e : S.take (i + 1) = S.take i ++ [S.getD i 0] := by
    rw [List.take_add_one, List.getElem?_eq_getElem hi, List.getD_eq_getElem?_getD, List.getElem?_eq_getElem hi]; rfl
  rw [e, List.filter_append]
  by_cases h : q (S.getD i 0) = true
  · rw [if_pos h]; simp only [List.filter_cons, h, if_true, List.filter_nil]
  · rw [if_neg h]; simp only [List.filter_cons, h, List.filter_nil]; rfl

set_option maxRecDepth 100000 in
set_option maxHeartbeats 4000000 in
theorem having_any (p : Nat) (S : List Nat) (u : Value) (w : World) (hu : SC w u S) (hl : S.length ≤ 200) (hS : ∀ x ∈ S, x < 2 ^ 40) (hp : p < 64) :
    Calls Tryd.prog 30 #[u, .int .i64 (p : Int)] w fun e w' => ∃ x, e = .returned x ∧ SC w' x (S.filter fun y => y.testBit p) ∧ Below w.heap.size w w' := by
  obtain ⟨a, cap, rfl, hcap, hcm, hc⟩ := hu
  obtain ⟨i3, hi3, hz0, hz1, hz2⟩ := infoS
  have HC : Hid (∀ j, j < S.length → ∃ g off, a = some ⟨g, off, none⟩ ∧ ∀ W, Below w.heap.size w W → W.cell? ⟨g, off + j, none⟩ = some (.int .u64 ((S.getD j 0 : Nat) : Int))) := hc
  have HS : Hid (∀ j, j < S.length → S.getD j 0 < 2 ^ 64) := fun j hj => by have := hS _ (getD_in hj); omega
  have HF : Hid (∀ i, i < S.length → (S.take (i + 1)).filter (fun y => y.testBit p) = (S.take i).filter (fun y => y.testBit p) ++ if (S.getD i 0).testBit p = true then [S.getD i 0] else []) := fun i hi => filt_succ _ hi
  have HFL : Hid (∀ i, i ≤ S.length → ((S.take i).filter (fun y => y.testBit p)).length ≤ i) := fun i hi => Nat.le_trans (List.length_filter_le _ _) (by rw [List.length_take]; omega)
  have HFE : Hid ((S.take S.length).filter (fun y => y.testBit p) = S.filter (fun y => y.testBit p)) := (by rw [List.take_length] : (S.take S.length).filter (fun y => y.testBit p) = S.filter (fun y => y.testBit p))
  have HHAS : Hid (∀ (s : Nat) (W : World), s < 2 ^ 64 → Calls Tryd.prog 45 #[.int .u64 (s : Int), .int .i64 (p : Int)] W fun e w' => e = .returned (.bool (s.testBit p)) ∧ w' = W) := fun s W hs => has_any s p hs hp W
  obtain ⟨Q, HQ⟩ : ∃ Q : Nat → List Nat, Hid ((fun i => (S.take i).filter fun y => y.testBit p) = Q) := ⟨_, rfl⟩
  have hQ : ∀ i, (S.take i).filter (fun y => y.testBit p) = Q i := fun i => congrFun HQ.out i
  simp only [hQ] at HF HFL HFE
  have HQ0 : Hid (Q 0 = []) := by rw [← hQ]; rfl
  rw [← HFE.out]
  generalize hn : S.length = n at *
  clear hc hS hcap hcm hQ HFE
  go_enter Tryd.func30, Tryd.ntmps30
  go_wp2
  go_loopw [5, 10] (fun ov iv wr => ∃ i : Nat, iv = .int .i64 (i : Int) ∧ i ≤ n ∧ SRow wr w.heap.size ov (Q i) ∧ Below w.heap.size w wr) (fun _ iv _ => (n - intOf iv).toNat)
  case atStart => exact ⟨0, rfl, by omega, by rw [HQ0.out]; exact World.ownsRow_nil _ _ _ _, Below.refl _ _⟩
  case round =>
    obtain ⟨i, rfl, hi, hown, hB⟩ := hrel
    by_cases hlt : i < n
    · have hd : decide ((i : Int) < (n : Int)) = true := by simp; omega
      have hii : (i : Int) < (n : Int) := by omega
      obtain ⟨g, off, rfl, hci0⟩ := HC.out i hlt
      have hci := hci0 wr hB
      have CH := HHAS.out (S.getD i 0) wr (HS.out i hlt)
      have HFi := HF.out i hlt
      have hfl := HFL.out i (by omega)
      obtain ⟨y, Hy⟩ : ∃ y, Hid (S.getD i 0 = y) := ⟨_, rfl⟩
      rw [Hy.out] at hci CH HFi
      have hbz := hB.size
      obtain ⟨L, HL⟩ : ∃ L, Hid (Q i = L) := ⟨_, rfl⟩
      rw [HL.out] at hown hfl HFi
      by_cases ht : y.testBit p = true
      · rw [if_pos ht] at HFi
        have HFI : Hid (Q (i + 1) = L ++ [y]) := HFi
        rw [ht] at CH
        clear HFi hci0
        go_wp2_with (first
          | (go_at_call 45; refine CH.mono ?_; rintro e w4 ⟨rfl, hw4⟩; replace hw4 := hw4.symm; subst hw4; clear CH)
          | (at_builtin; refine wpList_append_own _ rfl _ _ 42 rfl w.heap.size 46 i3 (.int .u64 0) 1 8 undS hi3 hz0 hz1 hz2 rfl (by decide) _ _ _ rfl (hown.alloc _) ⟨wr.heap.size, 0, none⟩ 1 1 [.int .u64 (y : Int)] rfl rfl ?c1 ?c2 ?c3 ?c4 ?c5 ?_)
          | go_in)
        case c1 =>
          intro j u hj
          match j, hj with
          | 0, hj => simp at hj; subst hj; simp [Addr.add]
        case c2 => intro u hu; simp at hu; subst hu; rfl
        case c3 => unfold maxLen; omega
        case c4 => omega
        case c5 => simp; omega
        · intro v' w2 hown' hgrow _
          have hb2 : Below w.heap.size w w2 := (hB.alloc hbz _).grown hgrow (by simp; omega) (fun k hk => (hown.lt k hk).1)
          go_wp2
          go_roundw
          case rel => exact ⟨i + 1, by go_num, by omega, by rw [HFI.out]; unfold SRow; rw [List.length_append, List.map_append]; exact hown', hb2⟩
          case measure => simp [intOf]; omega
      · rw [if_neg ht, List.append_nil] at HFi
        have HFI : Hid (Q (i + 1) = L) := HFi
        have htf : y.testBit p = false := by simpa using ht
        rw [htf] at CH
        clear HFi hci0
        go_wp2_with (go_at_call 45; refine CH.mono ?_; rintro e w4 ⟨rfl, hw4⟩; replace hw4 := hw4.symm; subst hw4; clear CH)
        go_roundw
        case rel => exact ⟨i + 1, by go_num, by omega, by rw [HFI.out]; exact hown, hB⟩
        case measure => simp [intOf]; omega
    · have hd : decide ((i : Int) < (n : Int)) = false := by simp; omega
      obtain rfl : i = n := by omega
      have HSC := SRow.sc hown
      obtain ⟨ra, rc, er⟩ := own_formE hown
      subst er
      go_wp2
      go_ret
      exact ⟨_, rfl, HSC, hB⟩

end Go.Proofs.YtnnopfdckillpaaDoor
