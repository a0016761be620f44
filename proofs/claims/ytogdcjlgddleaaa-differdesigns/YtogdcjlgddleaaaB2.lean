/- The walk of the document's Sorted. -/
import Derived.Test.YtogdcjlgddleaaaB1
import Derived.Test.YtogdcjlgddleaaaTIn
import Derived.Test.YtogdcjlgddleaaaDCo
import Derived.Laws.OwnMore
namespace Go.Proofs.Ytogdcjlgddleaaa
open Go.RowKit

theorem map_swap (A C : List Nat) (x y : Nat) : (((((A ++ y :: x :: C).map Int.ofNat).map (Value.int .i64)).set A.length (.int .i64 (x : Int))).set (A.length + 1) (.int .i64 (y : Int))) = ((A ++ x :: y :: C).map Int.ofNat).map (Value.int .i64) := by
  have := swap_list ((A.map Int.ofNat).map (Value.int .i64)) ((C.map Int.ofNat).map (Value.int .i64)) (.int .i64 (x : Int)) (.int .i64 (y : Int))
  simp only [List.length_map] at this
  simp only [List.map_append, List.map_cons]
  exact this
set_option maxRecDepth 100000 in
set_option maxHeartbeats 4000000 in
theorem Sorted_any (l : List Nat) (u : Value) (w : World) (hu : Sl w u (l.map Int.ofNat)) (h9 : l.length ≤ 99) :
    Calls Try.prog 30 #[u] w fun e w' => ∃ x, e = .returned x ∧ ORow w' w.heap.size x (s3 l) ∧ Below w.heap.size w w' := by
  obtain ⟨a, ca, rfl, hA⟩ := sl_at hu
  obtain ⟨i3, hi3, hz0, hz1, hz2⟩ := info3
  have HA : Hid (∀ i, i < l.length → ∃ b off, a = some ⟨b, off, none⟩ ∧ w.cell? ⟨b, off + i, none⟩ = some (.int .i64 ((l.getD i 0 : Nat) : Int))) := hA
  have HT : Hid (∀ i, i < l.length → l.take (i + 1) = l.take i ++ [l.getD i 0]) := fun i hi => by
    rw [List.take_add_one, List.getElem?_eq_getElem hi, List.getD_eq_getElem?_getD, List.getElem?_eq_getElem hi]; rfl
  have HE : Hid (∀ b : List Nat, b.Perm (l.take l.length) → b.Pairwise (· ≤ ·) → b = s3 l) := fun b h1 h2 => s3_of (by rw [List.take_length] at h1; exact h1) h2
  have HTL : Hid (∀ i, i ≤ l.length → (l.take i).length = i) := fun i hi => by rw [List.length_take]; omega
  obtain ⟨S, HS⟩ : ∃ S, Hid (s3 l = S) := ⟨_, rfl⟩
  rw [HS.out] at HE ⊢
  generalize l.length = n at *
  obtain ⟨s, Hs⟩ : ∃ s, Hid (w.heap.size = s) := ⟨_, rfl⟩
  rw [Hs.out]
  have HB0 : Hid (Below s w w) := Below.refl _ _
  have HSS : Hid (s ≤ w.heap.size) := by rw [Hs.out]; exact Nat.le_refl _
  clear hu hA
  go_enter Try.func30, Try.ntmps30
  go_wp2
  go_loopw [3, 4] (fun ov iv wr => ∃ (i : Nat) (b : List Nat), iv = .int .i64 (i : Int) ∧ i ≤ n ∧ Hid (b.Perm (l.take i)) ∧ Hid (b.Pairwise (· ≤ ·)) ∧ Hid (b.length = i) ∧ wr.ownsRow s 3 1 ov i ((b.map Int.ofNat).map (Value.int .i64)) ∧ Below s w wr) (fun _ iv _ => (n - intOf iv).toNat)
  case atStart => exact ⟨0, [], rfl, by omega, List.Perm.refl _, List.Pairwise.nil, rfl, World.ownsRow_nil _ _ _ _, HB0.out⟩
  case round =>
    obtain ⟨i, b, rfl, hi, HP, HQ, HL, hown, hB⟩ := hrel
    have hss : s ≤ wr.heap.size := Nat.le_trans HSS.out hB.size
    by_cases hlt : i < n
    · have hdi : decide ((i : Int) < (n : Int)) = true := by simp; omega
      have hii : (i : Int) < (n : Int) := by omega
      obtain ⟨b1, o1, rfl, c1⟩ := HA.out i hlt
      replace c1 := (hB.cell (by rw [← Hs.out]; exact World.block_lt_of_cell? _ _ c1)).trans c1
      have hT := HT.out i hlt
      obtain ⟨x, hx⟩ : ∃ x, l.getD i 0 = x := ⟨_, rfl⟩
      rw [hx] at hT c1
      have HT1 : Hid (l.take (i + 1) = l.take i ++ [x]) := hT
      obtain ⟨oa, oc, rfl⟩ := own_form hown
      clear hT hx HA HE
      go_wp2_with (first
        | (at_builtin; refine wpList_append_own _ rfl _ _ 22 rfl s 3 i3 (.int .i64 0) 1 8 und22 hi3 hz0 hz1 hz2 rfl (by decide) _ _ _ rfl (hown.alloc _) ⟨wr.heap.size, 0, none⟩ 1 1 [.int .i64 (x : Int)] rfl rfl ?c1 ?c2 ?c3 ?c4 ?c5 ?_)
        | go_in)
      case c1 =>
        intro j u hj
        match j, hj with
        | 0, hj => simp at hj; subst hj; simp [Addr.add]
      case c2 => intro u hu; simp at hu; subst hu; rfl
      case c3 => unfold maxLen; omega
      case c4 => omega
      case c5 => simp; omega
      · intro v' w2 hown' hgrow _
        have hb2 : Below s w w2 := (hB.alloc (by omega) _).grown hgrow (by simp; omega) (fun k hk => (hown.lt k hk).1)
        have hown2 : w2.ownsRow s 3 1 v' (i + 1) (((b ++ x :: []).map Int.ofNat).map (Value.int .i64)) := by simpa using hown'
        obtain ⟨g, cap, rfl⟩ : ∃ g cap, v' = .slice (some ⟨g, 0, none⟩) (i + 1) cap := by
          obtain ⟨_, ⟨rfl, h0⟩ | ⟨g, cap, cur, rfl, _⟩⟩ := hown2
          · omega
          · exact ⟨g, cap, rfl⟩
        have HHO : Hid (w2.ownsRow s 3 1 (.slice (some ⟨g, 0, none⟩) (i + 1) cap) (i + 1) (((b ++ x :: []).map Int.ofNat).map (Value.int .i64))) := hown2
        have HPP : Hid ((b ++ []).Perm (l.take i)) := by show List.Perm _ _; simpa using HP.out
        have HQQ : Hid ((b ++ []).Pairwise (· ≤ ·)) := by show List.Pairwise _ _; simpa using HQ.out
        clear hown' hown2 hgrow hown hB c1 HP HQ
        go_wp2
        go_loopw [5] (fun kv wr' => ∃ (A C : List Nat), kv = .int .i64 (A.length : Int) ∧ Hid ((A ++ C).Perm (l.take i)) ∧ Hid ((A ++ C).Pairwise (· ≤ ·)) ∧ Hid (∀ c ∈ C, x ≤ c) ∧ Hid ((A ++ C).length = i) ∧ wr'.ownsRow s 3 1 (.slice (some ⟨g, 0, none⟩) (i + 1) cap) (i + 1) (((A ++ x :: C).map Int.ofNat).map (Value.int .i64)) ∧ Below s w wr') (fun kv _ => (intOf kv).toNat)
        case atStart => exact ⟨b, [], by rw [HL.out], HPP, HQQ, fun c hc => by simp at hc, by show _ = _; simpa using HL.out, HHO.out, hb2⟩
        case round =>
          clear HPP HQQ HHO hb2 HL
          obtain ⟨A, C, rfl, HP, HQ, HC, HL, hown, hB⟩ := hrel
          have hAl : A.length ≤ i := by rw [← HL.out, List.length_append]; omega
          have k1 : wr.cell? ⟨g, A.length, none⟩ = some (.int .i64 (x : Int)) := by
            rw [hown.cellAt A.length (by omega)]; simp
          have f1 := hown.frozenAt A.length
          have fin : (∀ B y, A = B ++ [y] → y ≤ x) → Hid ((A ++ x :: C).Perm (l.take (i + 1))) ∧ Hid ((A ++ x :: C).Pairwise (· ≤ ·)) ∧ Hid ((A ++ x :: C).length = i + 1) := fun h3 =>
            ⟨by show List.Perm _ _; rw [HT1.out]; exact (mid_perm A C x).trans ((List.Perm.cons x HP.out).trans (snoc_perm _ x).symm), ins_end (R := (· ≤ ·)) (fun _ _ _ => Nat.le_trans) HQ.out HC.out h3, by show _ = _; have := HL.out; simp at this ⊢; omega⟩
          rcases List.eq_nil_or_concat A with e | ⟨B, y, e⟩
          · have h0 : A.length = 0 := by rw [e]; rfl
            have hk : decide ((0 : Int) < (A.length : Int)) = false := by rw [h0]; rfl
            have hk2 : ¬ (0 : Int) < (A.length : Int) := by omega
            obtain ⟨HF1, HF2, HF3⟩ := fin fun B y e2 => by rw [e] at e2; simp at e2
            clear fin e HP HQ HC HL k1 f1
            generalize A.length = k at *
            go_wp2
            go_quiet (fail)
            go_wp2
            go_roundw
            case rel => exact ⟨i + 1, _, by go_num, by omega, HF1, HF2, HF3, hown, hB.trans ⟨rfl, rfl, rfl, Nat.le_refl _, fun _ _ => rfl⟩⟩
            case measure => simp [intOf]; omega
          · have e : A = B ++ [y] := by rw [e, List.concat_eq_append]
            have hl1 : A.length = B.length + 1 := by rw [e]; simp
            have k2 : wr.cell? ⟨g, B.length, none⟩ = some (.int .i64 (y : Int)) := by
              rw [hown.cellAt B.length (by omega), e]; simp
            have f2 := hown.frozenAt B.length
            have hk : decide ((0 : Int) < (A.length : Int)) = true := by simp; omega
            have hk2 : (0 : Int) < (A.length : Int) := by omega
            have hkN : decide (0 < A.length) = true := by simp; omega
            have hkM : 0 < A.length := by omega
            have hk3 : (A.length : Int) - 1 = (B.length : Int) := by omega
            by_cases hyx : x < y
            · have hd : decide ((x : Int) < (y : Int)) = true := by simp; omega
              have hdi2 : (x : Int) < (y : Int) := by omega
              have hdN : decide (x < y) = true := by simp; omega
              have HSW : Hid (∀ W : World, W.ownsRow s 3 1 (.slice (some ⟨g, 0, none⟩) (i + 1) cap) (i + 1) (((A ++ x :: C).map Int.ofNat).map (Value.int .i64)) → ((W.setCell ⟨g, B.length, none⟩ (.int .i64 (x : Int))).setCell ⟨g, B.length + 1, none⟩ (.int .i64 (y : Int))).ownsRow s 3 1 (.slice (some ⟨g, 0, none⟩) (i + 1) cap) (i + 1) (((B ++ x :: (y :: C)).map Int.ofNat).map (Value.int .i64))) := fun W hW => by
                have h1 := ((hW.stored B.length (.int .i64 (x : Int))).1.stored (B.length + 1) (.int .i64 (y : Int))).1
                rw [e, show B ++ [y] ++ x :: C = B ++ y :: x :: C by simp, map_swap] at h1
                exact h1
              have HP2 : Hid ((B ++ (y :: C)).Perm (l.take i)) := by show List.Perm _ _; have := HP.out; rw [e] at this; simpa using this
              have hst := ins_step (R := (· ≤ ·)) (A := B) (C := C) (x := x) (y := y) (by have := HQ.out; rw [e] at this; exact this) HC.out (by omega)
              have HQ2 : Hid ((B ++ (y :: C)).Pairwise (· ≤ ·)) := hst.1
              have HC2 : Hid (∀ c ∈ y :: C, x ≤ c) := hst.2
              have HL2 : Hid ((B ++ (y :: C)).length = i) := by show _ = _; have := HL.out; rw [e] at this; simp at this ⊢; omega
              have hgs : Hid (s ≤ g) := by
                obtain ⟨_, ⟨e0, _⟩ | ⟨g', cap', cur, e0, hg, _⟩⟩ := hown
                · cases e0
                · cases e0; exact hg
              clear fin e HP HQ HC HL hst
              rw [← hl1] at HSW
              have Hl1 : Hid (A.length = B.length + 1) := hl1
              have HBK : Hid (∃ k, B.length = k) := ⟨_, rfl⟩
              have hkq : B.length < i + 1 := by omega
              clear hl1
              generalize HB : B.length = k at *
              generalize A.length = q at *
              go_wp2
              go_quiet (fail)
              go_wp2
              go_region
              all_goals
                go_wp2
                go_roundw
                case rel => exact ⟨B, y :: C, by rw [HB], HP2, HQ2, HC2, HL2, HSW.out _ hown, ((hB.trans (c := wr.drewN _) ⟨rfl, rfl, rfl, Nat.le_refl _, fun _ _ => rfl⟩).setCell (p := ⟨g, k, none⟩) hgs.out _).setCell (p := ⟨g, q, none⟩) hgs.out _⟩
                case measure => simp [intOf]; have := Hl1.out; omega
            · have hd : decide ((x : Int) < (y : Int)) = false := by simp; omega
              have hdi2 : ¬ (x : Int) < (y : Int) := by omega
              have hdN : decide (x < y) = false := by simp; omega
              obtain ⟨HF1, HF2, HF3⟩ := fin fun B' y' e2 => by
                rw [e] at e2
                have := (List.append_inj' e2 rfl).2
                have e3 : y = y' := by simpa using this
                omega
              clear fin e HP HQ HC HL
              have Hl1 : Hid (A.length = B.length + 1) := hl1
              have hkq : B.length < i + 1 := by omega
              clear hl1
              generalize B.length = k at *
              generalize A.length = q at *
              go_wp2
              go_quiet (fail)
              go_wp2
              go_roundw
              case rel => exact ⟨i + 1, _, by go_num, by omega, HF1, HF2, HF3, hown, hB.trans ⟨rfl, rfl, rfl, Nat.le_refl _, fun _ _ => rfl⟩⟩
              case measure => simp [intOf]; omega
    · have hdi : decide ((i : Int) < (n : Int)) = false := by simp; omega
      obtain rfl : i = n := by omega
      obtain rfl : b = S := HE.out b HP.out HQ.out
      go_wp2
      go_ret
      refine ⟨_, rfl, ?_, hB⟩
      unfold ORow
      rw [HL.out]
      exact hown

end Go.Proofs.Ytogdcjlgddleaaa
