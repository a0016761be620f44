/- The walk of the document's InOrder. -/
import Derived.Test.YtdeofjmgjhfkcaaB1
import Derived.Test.YtdeofjmgjhfkcaaTIn
import Derived.Test.YtdeofjmgjhfkcaaDCo
import Derived.Laws.OwnMore
import Derived.Deep.RegionHeld3
/- The walk of the document's Sorted. -/
namespace Go.Proofs.Ytdeofjmgjhfkcaa
open Go.RowKit

theorem map_swap (A C : List Nat) (x y : Nat) : (((((A ++ y :: x :: C).map Int.ofNat).map (Value.int .i64)).set A.length (.int .i64 (x : Int))).set (A.length + 1) (.int .i64 (y : Int))) = ((A ++ x :: y :: C).map Int.ofNat).map (Value.int .i64) := by
  have := swap_list ((A.map Int.ofNat).map (Value.int .i64)) ((C.map Int.ofNat).map (Value.int .i64)) (.int .i64 (x : Int)) (.int .i64 (y : Int))
  simp only [List.length_map] at this
  simp only [List.map_append, List.map_cons]
  exact this
set_option maxRecDepth 100000 in
set_option maxHeartbeats 4000000 in
theorem Sorted_any (l : List Nat) (u : Value) (w : World) (hu : Sl w u (l.map Int.ofNat)) (h9 : l.length ≤ 99) :
    Calls Try.prog 54 #[u] w fun e w' => ∃ x, e = .returned x ∧ ORow w' w.heap.size x (s3 l) ∧ Below w.heap.size w w' := by
  obtain ⟨a, ca, rfl, hA⟩ := sl_at hu
  obtain ⟨i3, hi3, hz0, hz1, hz2⟩ := info3
  have HA : Hid (∀ i, i < l.length → ∃ b off, a = some ⟨b, off, none⟩ ∧ w.cell? ⟨b, off + i, none⟩ = some (.int .i64 ((l.getD i 0 : Nat) : Int))) := hA
  have HT : Hid (∀ i, i < l.length → l.take (i + 1) = l.take i ++ [l.getD i 0]) := fun i hi => by
    rw [List.take_add_one, List.getElem?_eq_getElem hi, List.getD_eq_getElem?_getD, List.getElem?_eq_getElem hi]; rfl
  have HE : Hid (∀ b : List Nat, b.Perm (l.take l.length) → b.Pairwise (· ≤ ·) → b = s3 l) := fun b h1 h2 => s3_of (by rw [List.take_length] at h1; exact h1) h2
  have HTL : Hid (∀ i, i ≤ l.length → (l.take i).length = i) := fun i hi => by rw [List.length_take]; omega
  obtain ⟨S, HS⟩ : ∃ S, Hid (s3 l = S) := ⟨_, rfl⟩
  rw [HS.out] at HE ⊢
  generalize l.length = n at *
  obtain ⟨s, Hs⟩ : ∃ s, Hid (w.heap.size = s) := ⟨_, rfl⟩
  rw [Hs.out]
  have HB0 : Hid (Below s w w) := Below.refl _ _
  have HSS : Hid (s ≤ w.heap.size) := by rw [Hs.out]; exact Nat.le_refl _
  clear hu hA
  go_enter Try.func54, Try.ntmps54
  go_wp2
  go_loopw [3, 4] (fun ov iv wr => ∃ (i : Nat) (b : List Nat), iv = .int .i64 (i : Int) ∧ i ≤ n ∧ Hid (b.Perm (l.take i)) ∧ Hid (b.Pairwise (· ≤ ·)) ∧ Hid (b.length = i) ∧ wr.ownsRow s 3 1 ov i ((b.map Int.ofNat).map (Value.int .i64)) ∧ Below s w wr) (fun _ iv _ => (n - intOf iv).toNat)
  case atStart => exact ⟨0, [], rfl, by omega, List.Perm.refl _, List.Pairwise.nil, rfl, World.ownsRow_nil _ _ _ _, HB0.out⟩
  case round =>
    obtain ⟨i, b, rfl, hi, HP, HQ, HL, hown, hB⟩ := hrel
    have hss : s ≤ wr.heap.size := Nat.le_trans HSS.out hB.size
    by_cases hlt : i < n
    · have hdi : decide ((i : Int) < (n : Int)) = true := by simp; omega
      have hii : (i : Int) < (n : Int) := by omega
      obtain ⟨b1, o1, rfl, c1⟩ := HA.out i hlt
      replace c1 := (hB.cell (by rw [← Hs.out]; exact World.block_lt_of_cell? _ _ c1)).trans c1
      have hT := HT.out i hlt
      obtain ⟨x, hx⟩ : ∃ x, l.getD i 0 = x := ⟨_, rfl⟩
      rw [hx] at hT c1
      have HT1 : Hid (l.take (i + 1) = l.take i ++ [x]) := hT
      obtain ⟨oa, oc, rfl⟩ := own_form hown
      clear hT hx HA HE
      go_wp2_with (first
        | (at_builtin; refine wpList_append_own _ rfl _ _ 45 rfl s 3 i3 (.int .i64 0) 1 8 und22 hi3 hz0 hz1 hz2 rfl (by decide) _ _ _ rfl (hown.alloc _) ⟨wr.heap.size, 0, none⟩ 1 1 [.int .i64 (x : Int)] rfl rfl ?c1 ?c2 ?c3 ?c4 ?c5 ?_)
        | go_in)
      case c1 =>
        intro j u hj
        match j, hj with
        | 0, hj => simp at hj; subst hj; simp [Addr.add]
      case c2 => intro u hu; simp at hu; subst hu; rfl
      case c3 => unfold maxLen; omega
      case c4 => omega
      case c5 => simp; omega
      · intro v' w2 hown' hgrow _
        have hb2 : Below s w w2 := (hB.alloc (by omega) _).grown hgrow (by simp; omega) (fun k hk => (hown.lt k hk).1)
        have hown2 : w2.ownsRow s 3 1 v' (i + 1) (((b ++ x :: []).map Int.ofNat).map (Value.int .i64)) := by simpa using hown'
        obtain ⟨g, cap, rfl⟩ : ∃ g cap, v' = .slice (some ⟨g, 0, none⟩) (i + 1) cap := by
          obtain ⟨_, ⟨rfl, h0⟩ | ⟨g, cap, cur, rfl, _⟩⟩ := hown2
          · omega
          · exact ⟨g, cap, rfl⟩
        have HHO : Hid (w2.ownsRow s 3 1 (.slice (some ⟨g, 0, none⟩) (i + 1) cap) (i + 1) (((b ++ x :: []).map Int.ofNat).map (Value.int .i64))) := hown2
        have HPP : Hid ((b ++ []).Perm (l.take i)) := by show List.Perm _ _; simpa using HP.out
        have HQQ : Hid ((b ++ []).Pairwise (· ≤ ·)) := by show List.Pairwise _ _; simpa using HQ.out
        clear hown' hown2 hgrow hown hB c1 HP HQ
        go_wp2
        go_loopw [5] (fun kv wr' => ∃ (A C : List Nat), kv = .int .i64 (A.length : Int) ∧ Hid ((A ++ C).Perm (l.take i)) ∧ Hid ((A ++ C).Pairwise (· ≤ ·)) ∧ Hid (∀ c ∈ C, x ≤ c) ∧ Hid ((A ++ C).length = i) ∧ wr'.ownsRow s 3 1 (.slice (some ⟨g, 0, none⟩) (i + 1) cap) (i + 1) (((A ++ x :: C).map Int.ofNat).map (Value.int .i64)) ∧ Below s w wr') (fun kv _ => (intOf kv).toNat)
        case atStart => exact ⟨b, [], by rw [HL.out], HPP, HQQ, fun c hc => by simp at hc, by show _ = _; simpa using HL.out, HHO.out, hb2⟩
        case round =>
          clear HPP HQQ HHO hb2 HL
          obtain ⟨A, C, rfl, HP, HQ, HC, HL, hown, hB⟩ := hrel
          have hAl : A.length ≤ i := by rw [← HL.out, List.length_append]; omega
          have k1 : wr.cell? ⟨g, A.length, none⟩ = some (.int .i64 (x : Int)) := by
            rw [hown.cellAt A.length (by omega)]; simp
          have f1 := hown.frozenAt A.length
          have fin : (∀ B y, A = B ++ [y] → y ≤ x) → Hid ((A ++ x :: C).Perm (l.take (i + 1))) ∧ Hid ((A ++ x :: C).Pairwise (· ≤ ·)) ∧ Hid ((A ++ x :: C).length = i + 1) := fun h3 =>
            ⟨by show List.Perm _ _; rw [HT1.out]; exact (mid_perm A C x).trans ((List.Perm.cons x HP.out).trans (snoc_perm _ x).symm), ins_end (R := (· ≤ ·)) (fun _ _ _ => Nat.le_trans) HQ.out HC.out h3, by show _ = _; have := HL.out; simp at this ⊢; omega⟩
          rcases List.eq_nil_or_concat A with e | ⟨B, y, e⟩
          · have h0 : A.length = 0 := by rw [e]; rfl
            have hk : decide ((0 : Int) < (A.length : Int)) = false := by rw [h0]; rfl
            have hk2 : ¬ (0 : Int) < (A.length : Int) := by omega
            obtain ⟨HF1, HF2, HF3⟩ := fin fun B y e2 => by rw [e] at e2; simp at e2
            clear fin e HP HQ HC HL k1 f1
            generalize A.length = k at *
            go_wp2
            go_quiet (fail)
            go_wp2
            go_roundw
            case rel => exact ⟨i + 1, _, by go_num, by omega, HF1, HF2, HF3, hown, hB.trans ⟨rfl, rfl, rfl, Nat.le_refl _, fun _ _ => rfl⟩⟩
            case measure => simp [intOf]; omega
          · have e : A = B ++ [y] := by rw [e, List.concat_eq_append]
            have hl1 : A.length = B.length + 1 := by rw [e]; simp
            have k2 : wr.cell? ⟨g, B.length, none⟩ = some (.int .i64 (y : Int)) := by
              rw [hown.cellAt B.length (by omega), e]; simp
            have f2 := hown.frozenAt B.length
            have hk : decide ((0 : Int) < (A.length : Int)) = true := by simp; omega
            have hk2 : (0 : Int) < (A.length : Int) := by omega
            have hkN : decide (0 < A.length) = true := by simp; omega
            have hkM : 0 < A.length := by omega
            have hk3 : (A.length : Int) - 1 = (B.length : Int) := by omega
            by_cases hyx : x < y
            · have hd : decide ((x : Int) < (y : Int)) = true := by simp; omega
              have hdi2 : (x : Int) < (y : Int) := by omega
              have hdN : decide (x < y) = true := by simp; omega
              have HSW : Hid (∀ W : World, W.ownsRow s 3 1 (.slice (some ⟨g, 0, none⟩) (i + 1) cap) (i + 1) (((A ++ x :: C).map Int.ofNat).map (Value.int .i64)) → ((W.setCell ⟨g, B.length, none⟩ (.int .i64 (x : Int))).setCell ⟨g, B.length + 1, none⟩ (.int .i64 (y : Int))).ownsRow s 3 1 (.slice (some ⟨g, 0, none⟩) (i + 1) cap) (i + 1) (((B ++ x :: (y :: C)).map Int.ofNat).map (Value.int .i64))) := fun W hW => by
                have h1 := ((hW.stored B.length (.int .i64 (x : Int))).1.stored (B.length + 1) (.int .i64 (y : Int))).1
                rw [e, show B ++ [y] ++ x :: C = B ++ y :: x :: C by simp, map_swap] at h1
                exact h1
              have HP2 : Hid ((B ++ (y :: C)).Perm (l.take i)) := by show List.Perm _ _; have := HP.out; rw [e] at this; simpa using this
              have hst := ins_step (R := (· ≤ ·)) (A := B) (C := C) (x := x) (y := y) (by have := HQ.out; rw [e] at this; exact this) HC.out (by omega)
              have HQ2 : Hid ((B ++ (y :: C)).Pairwise (· ≤ ·)) := hst.1
              have HC2 : Hid (∀ c ∈ y :: C, x ≤ c) := hst.2
              have HL2 : Hid ((B ++ (y :: C)).length = i) := by show _ = _; have := HL.out; rw [e] at this; simp at this ⊢; omega
              have hgs : Hid (s ≤ g) := by
                obtain ⟨_, ⟨e0, _⟩ | ⟨g', cap', cur, e0, hg, _⟩⟩ := hown
                · cases e0
                · cases e0; exact hg
              clear fin e HP HQ HC HL hst
              rw [← hl1] at HSW
              have Hl1 : Hid (A.length = B.length + 1) := hl1
              have HBK : Hid (∃ k, B.length = k) := ⟨_, rfl⟩
              have hkq : B.length < i + 1 := by omega
              clear hl1
              generalize HB : B.length = k at *
              generalize A.length = q at *
              go_wp2
              go_quiet (fail)
              go_wp2
              go_region
              all_goals
                go_wp2
                go_roundw
                case rel => exact ⟨B, y :: C, by rw [HB], HP2, HQ2, HC2, HL2, HSW.out _ hown, ((hB.trans (c := wr.drewN _) ⟨rfl, rfl, rfl, Nat.le_refl _, fun _ _ => rfl⟩).setCell (p := ⟨g, k, none⟩) hgs.out _).setCell (p := ⟨g, q, none⟩) hgs.out _⟩
                case measure => simp [intOf]; have := Hl1.out; omega
            · have hd : decide ((x : Int) < (y : Int)) = false := by simp; omega
              have hdi2 : ¬ (x : Int) < (y : Int) := by omega
              have hdN : decide (x < y) = false := by simp; omega
              obtain ⟨HF1, HF2, HF3⟩ := fin fun B' y' e2 => by
                rw [e] at e2
                have := (List.append_inj' e2 rfl).2
                have e3 : y = y' := by simpa using this
                omega
              clear fin e HP HQ HC HL
              have Hl1 : Hid (A.length = B.length + 1) := hl1
              have hkq : B.length < i + 1 := by omega
              clear hl1
              generalize B.length = k at *
              generalize A.length = q at *
              go_wp2
              go_quiet (fail)
              go_wp2
              go_roundw
              case rel => exact ⟨i + 1, _, by go_num, by omega, HF1, HF2, HF3, hown, hB.trans ⟨rfl, rfl, rfl, Nat.le_refl _, fun _ _ => rfl⟩⟩
              case measure => simp [intOf]; omega
    · have hdi : decide ((i : Int) < (n : Int)) = false := by simp; omega
      obtain rfl : i = n := by omega
      obtain rfl : b = S := HE.out b HP.out HQ.out
      go_wp2
      go_ret
      refine ⟨_, rfl, ?_, hB⟩
      unfold ORow
      rw [HL.out]
      exact hown

end Go.Proofs.Ytdeofjmgjhfkcaa

namespace Go.Proofs.Ytdeofjmgjhfkcaa
open Go.RowKit

/-- Not behind, both of three. -/
def Rq (a b : List Nat) : Prop := (¬ llt b a) ∧ a.length = 3 ∧ b.length = 3
theorem Rq.tr (a b c : List Nat) (h1 : Rq a b) (h2 : Rq b c) : Rq a c := ⟨nlt_trans (h1.2.1.trans h1.2.2.symm) (h2.2.1.trans h2.2.2.symm) h1.1 h2.1, h1.2.1, h2.2.2⟩
theorem drow_at {w : World} {u : Value} {L : List (List Nat)} (h : Rw w u (toZ L)) : ∃ a cap, u = .slice a L.length cap ∧ ∀ i, i < L.length → ∃ b off x, a = some ⟨b, off, none⟩ ∧ w.cell? ⟨b, off + i, none⟩ = some x ∧ Sl w x ((L.getD i []).map Int.ofNat) := by
  obtain ⟨a, cap, rfl, h⟩ := h
  refine ⟨a, cap, by simp [toZ], fun i hi => ?_⟩
  have e : (toZ L)[i]? = some ((L.getD i []).map Int.ofNat) := by simp [toZ, List.getD_eq_getElem?_getD, List.getElem?_eq_getElem hi]
  exact h i _ e
theorem or_len {w : World} {base n : Nat} {v : Value} {ls : List (List Nat)} {vals : List Value} (h : w.ownsRow base 45 1 v n vals) (_ : ls.length = n) : vals.length = n := by have := h.1; omega
/-- Two rows that stand side by side, exchanged. -/
theorem OR.swap {w : World} {base g n cap : Nat} {A C : List (List Nat)} {x y : List Nat} (h : OR w base (.slice (some ⟨g, 0, none⟩) n cap) (A ++ y :: x :: C)) (hn : (A ++ y :: x :: C).length = n) :
    ∃ xa xc ya yc, w.cell? ⟨g, A.length, none⟩ = some (.slice ya y.length yc) ∧ w.cell? ⟨g, A.length + 1, none⟩ = some (.slice xa x.length xc) ∧ Sl w (.slice ya y.length yc) (y.map Int.ofNat) ∧ Sl w (.slice xa x.length xc) (x.map Int.ofNat) ∧ w.frozen? ⟨g, A.length, none⟩ = false ∧ w.frozen? ⟨g, A.length + 1, none⟩ = false ∧ base ≤ g ∧
      ∀ W : World, W.heap = w.heap → OR ((W.setCell ⟨g, A.length, none⟩ (.slice xa x.length xc)).setCell ⟨g, A.length + 1, none⟩ (.slice ya y.length yc)) base (.slice (some ⟨g, 0, none⟩) n cap) (A ++ x :: y :: C) := by
  obtain ⟨vals, h1, h2⟩ := h
  rw [hn] at h1
  have hl : vals.length = n := by have := h1.1; omega
  have hn' : A.length + 1 < n := by rw [← hn]; simp
  obtain ⟨ux, ex⟩ : ∃ ux, vals[A.length + 1]? = some ux := ⟨_, List.getElem?_eq_getElem (by omega)⟩
  obtain ⟨uy, ey⟩ : ∃ uy, vals[A.length]? = some uy := ⟨_, List.getElem?_eq_getElem (by omega)⟩
  have ox := h2 _ ux x ex (by simp)
  have oy := h2 _ uy y ey (by simp)
  obtain ⟨xa, xc, rfl⟩ := own_form ox
  obtain ⟨ya, yc, rfl⟩ := own_form oy
  have hg : base ≤ g := by
    obtain ⟨_, ⟨e0, _⟩ | ⟨g', cap', cur, e0, hg, _⟩⟩ := h1
    · cases e0
    · cases e0; exact hg
  refine ⟨xa, xc, ya, yc, by rw [h1.cellAt _ (by omega)]; exact ey, by rw [h1.cellAt _ (by omega)]; exact ex, oy.sl, ox.sl, h1.frozenAt _, h1.frozenAt _, hg, fun W hW => ?_⟩
  have keep : ∀ {u l}, ORow w base u l → ORow ((W.setCell ⟨g, A.length, none⟩ (.slice xa x.length xc)).setCell ⟨g, A.length + 1, none⟩ (.slice ya y.length yc)) base u l := by
    rintro u l ⟨k0, hn | ⟨g', cap', cur, e1, hg', k1, k2⟩⟩
    · exact ⟨k0, .inl hn⟩
    · refine ⟨k0, .inr ⟨g', cap', cur, e1, hg', ?_, k2⟩⟩
      have hne : g' ≠ g := fun e => by
        subst e
        obtain ⟨_, ⟨e0, _⟩ | ⟨g2, cap2, cur2, e0, _, hg2, _⟩⟩ := h1
        · cases e0
        · cases e0; rw [hg2] at k1; simp at k1
      exact (heap_setCell_other _ ⟨g, A.length + 1, none⟩ g' _ hne).trans ((heap_setCell_other W ⟨g, A.length, none⟩ g' _ hne).trans ((congrArg (·[g']?) hW).trans k1))
  have h1W : W.ownsRow base 45 1 (.slice (some ⟨g, 0, none⟩) n cap) n vals := own_keep h1 fun b _ _ => congrArg (·[b]?) hW
  have h3 := ((h1W.stored A.length (.slice xa x.length xc)).1.stored (A.length + 1) (.slice ya y.length yc)).1
  have hv : (vals.set A.length (.slice xa x.length xc)).set (A.length + 1) (.slice ya y.length yc) = vals.take A.length ++ (.slice xa x.length xc) :: (.slice ya y.length yc) :: vals.drop (A.length + 2) := by
    have e1 : vals = vals.take A.length ++ (.slice ya y.length yc) :: (.slice xa x.length xc) :: vals.drop (A.length + 2) := by
      have a1 := List.drop_eq_getElem_cons (show A.length < vals.length by omega)
      have a2 := List.drop_eq_getElem_cons (show A.length + 1 < vals.length by omega)
      rw [List.getElem?_eq_getElem (by omega)] at ex ey
      rw [Option.some.inj ey] at a1
      rw [Option.some.inj ex] at a2
      conv => lhs; rw [← List.take_append_drop A.length vals, a1, a2]
    have e2 := swap_list (vals.take A.length) (vals.drop (A.length + 2)) (.slice xa x.length xc : Value) (.slice ya y.length yc)
    rw [List.length_take, Nat.min_eq_left (by omega), ← e1] at e2
    exact e2
  refine ⟨_, by rw [show (A ++ x :: y :: C).length = n by rw [← hn]; simp]; exact h3, fun i u l e1 e2 => ?_⟩
  by_cases hi : i = A.length
  · subst hi
    rw [List.getElem?_set_ne (by omega), List.getElem?_set_self (by omega)] at e1
    have e3 : (A ++ x :: y :: C)[A.length]? = some x := by simp
    rw [e3] at e2
    cases e1; cases e2
    exact keep ox
  · by_cases hj : i = A.length + 1
    · subst hj
      rw [List.getElem?_set_self (by rw [List.length_set]; omega)] at e1
      have e3 : (A ++ x :: y :: C)[A.length + 1]? = some y := by simp
      rw [e3] at e2
      cases e1; cases e2
      exact keep oy
    · rw [List.getElem?_set_ne (by omega), List.getElem?_set_ne (by omega)] at e1
      refine keep (h2 i u l e1 ?_)
      rw [← e2]
      by_cases hk : i < A.length
      · rw [List.getElem?_append_left hk, List.getElem?_append_left hk]
      · rw [List.getElem?_append_right (by omega), List.getElem?_append_right (by omega)]
        obtain ⟨m, hm⟩ : ∃ m, i - A.length = m + 2 := ⟨i - A.length - 2, by omega⟩
        rw [hm]; rfl
set_option maxRecDepth 100000 in
set_option maxHeartbeats 8000000 in
theorem InOrder_any (L : List (List Nat)) (u : Value) (w : World) (hu : Rw w u (toZ L)) (h3 : ∀ b ∈ L, b.length = 3) (h6 : L.length ≤ 6000) :
    Calls Try.prog 28 #[u] w fun e w' => ∃ x Z, e = .returned x ∧ Ordd L Z ∧ OR w' w.heap.size x Z ∧ Below w.heap.size w w' := by
  obtain ⟨a, ca, rfl, hA⟩ := drow_at hu
  obtain ⟨i45, hi3, hz0, hz1, hz2⟩ := info36
  have HA : Hid (∀ i, i < L.length → ∃ b off x, a = some ⟨b, off, none⟩ ∧ w.cell? ⟨b, off + i, none⟩ = some x ∧ Sl w x ((L.getD i []).map Int.ofNat)) := hA
  have HT : Hid (∀ i, i < L.length → (L.take (i + 1)).map s3 = (L.take i).map s3 ++ [s3 (L.getD i [])] ∧ (L.getD i []).length = 3) := fun i hi => by
    rw [List.take_add_one, List.getElem?_eq_getElem hi, List.getD_eq_getElem?_getD, List.getElem?_eq_getElem hi, List.map_append]
    exact ⟨rfl, h3 _ (List.getElem_mem hi)⟩
  have HE : Hid (∀ b : List (List Nat), b.Perm ((L.take L.length).map s3) → b.Pairwise Rq → Ordd L b) := fun b h1 h2 => ⟨by rw [List.take_length] at h1; exact h1, h2.imp fun h => h.1⟩
  have HS3 : Hid (∀ b : List Nat, b.length = 3 → (s3 b).length = 3) := fun b h => by rw [s3_len]; exact h
  have HSO : Hid (∀ (b : List Nat) (x : Value) (W : World), Sl W x (b.map Int.ofNat) → b.length = 3 → Calls Try.prog 54 #[x] W fun e w' => ∃ x, e = .returned x ∧ ORow w' W.heap.size x (s3 b) ∧ Below W.heap.size W w') := fun b x W h h' => Sorted_any b x W h (by omega)
  generalize L.length = n at *
  obtain ⟨s, Hs⟩ : ∃ s, Hid (w.heap.size = s) := ⟨_, rfl⟩
  rw [Hs.out]
  have HB0 : Hid (Below s w w) := Below.refl _ _
  have HSS : Hid (s ≤ w.heap.size) := by rw [Hs.out]; exact Nat.le_refl _
  clear hu hA h3
  go_enter Try.func28, Try.ntmps28
  go_wp2
  go_loopw [3, 4] (fun ov iv wr => ∃ (i : Nat) (b : List (List Nat)), iv = .int .i64 (i : Int) ∧ i ≤ n ∧ Hid (b.Perm ((L.take i).map s3)) ∧ Hid (b.Pairwise Rq) ∧ Hid (b.length = i) ∧ Hid (∀ c ∈ b, c.length = 3) ∧ OR wr s ov b ∧ Below s w wr) (fun _ iv _ => (n - intOf iv).toNat)
  case atStart => exact ⟨0, [], rfl, by omega, List.Perm.refl _, List.Pairwise.nil, rfl, fun c hc => by simp at hc, OR.nil _ _, HB0.out⟩
  case round =>
    obtain ⟨i, b, rfl, hi, HP, HQ, HL, HC3, hOR, hB⟩ := hrel
    have hss : s ≤ wr.heap.size := Nat.le_trans HSS.out hB.size
    obtain ⟨oa, oc, rfl⟩ := hOR.cap
    generalize hbl : b.length = bl at *
    have hbi : bl = i := HL.out
    subst hbi
    have HBL : Hid (b.length = bl) := hbl
    clear hbl HL
    by_cases hlt : bl < n
    · have hdi : decide ((bl : Int) < (n : Int)) = true := by simp; omega
      have hii : (bl : Int) < (n : Int) := by omega
      obtain ⟨b1, o1, ux, rfl, c1, hsl⟩ := HA.out bl hlt
      replace c1 := (hB.cell (by rw [← Hs.out]; exact World.block_lt_of_cell? _ _ c1)).trans c1
      replace hsl := hsl.below (by rw [Hs.out]; exact hB)
      obtain ⟨hT, hb3⟩ := HT.out bl hlt
      have C := HSO.out _ ux wr hsl hb3
      have hx3 := HS3.out _ hb3
      obtain ⟨x, Hx⟩ : ∃ x, Hid (s3 (L.getD bl []) = x) := ⟨_, rfl⟩
      rw [Hx.out] at hT C hx3
      have HT1 : Hid ((L.take (bl + 1)).map s3 = (L.take bl).map s3 ++ [x]) := hT
      have HX3 : Hid (x.length = 3) := hx3
      have HOR : Hid (OR wr s (.slice oa bl oc) b) := hOR
      have HB1 : Hid (Below s w wr) := hB
      have HC : Hid (Calls Try.prog 54 #[ux] wr fun e w' => ∃ y, e = .returned y ∧ ORow w' wr.heap.size y x ∧ Below wr.heap.size wr w') := C
      clear hT hsl hb3 hx3 HA HE hOR hB C HSO HT
      go_wp2_with (first
        | (go_at_call 54; refine HC.out.mono ?_; rintro e w1 ⟨y, rfl, hrow, hB1⟩; clear HC; have hsz1 := hB1.size; obtain ⟨vals, h1, h2⟩ := HOR.out.below hB1; obtain ⟨ra, rc, rfl⟩ := own_form hrow; have HROW : Hid (ORow w1 s (.slice ra x.length rc) x) := own_low hrow hss; have HB2 : Hid (Below s w w1) := HB1.out.trans (hB1.mono hss); have H2 : Hid (∀ (j : Nat) (u : Value) (l : List Nat), vals[j]? = some u → b[j]? = some l → ORow w1 s u l) := h2; have H1 : Hid (w1.ownsRow s 45 1 (.slice oa bl oc) b.length vals) := h1; rw [HBL.out] at h1; rw [HX3.out]; clear hB1 hrow h2)
        | (at_builtin; refine wpList_append_own _ rfl _ _ 22 rfl s 45 i45 (.slice none 0 0) 1 24 undR hi3 hz0 hz1 hz2 rfl (by decide) _ _ _ rfl (h1.alloc _) ⟨w1.heap.size, 0, none⟩ 1 1 [.slice ra 3 rc] rfl rfl ?c1 ?c2 ?c3 ?c4 ?c5 ?_)
        | go_in)
      case c1 =>
        intro j u hj
        match j, hj with
        | 0, hj => simp at hj; subst hj; simp [Addr.add]
      case c2 => intro u hu; simp at hu; subst hu; rfl
      case c3 => unfold maxLen; omega
      case c4 => omega
      case c5 => simp; omega
      · intro v' w2 hown' hgrow _
        have hal := balloc w1 (.cells #[.slice ra 3 rc] 45)
        have hrw : ORow w1 s (.slice ra 3 rc) x := by
          have := HROW.out
          rw [HX3.out] at this
          exact this
        have hO2 : OR w2 s v' (b ++ x :: []) := OR.more (own_keep H1.out fun b _ hb => hal.block b hb) (fun j u l e1 e2 => (H2.out j u l e1 e2).below hal) (hrw.below hal) (by rw [HBL.out]; exact hown') hgrow
        have hb2 : Below s w w2 := (HB2.out.alloc (by omega) _).grown hgrow (by simp; omega) (fun k hk => (h1.lt k hk).1)
        obtain ⟨g, cap, rfl⟩ : ∃ g cap, v' = .slice (some ⟨g, 0, none⟩) (bl + 1) cap := by
          obtain ⟨_, ⟨rfl, h0⟩ | ⟨g, cap, cur, rfl, _⟩⟩ := hown'
          · omega
          · exact ⟨g, cap, rfl⟩
        have HHO : Hid (OR w2 s (.slice (some ⟨g, 0, none⟩) (bl + 1) cap) (b ++ x :: [])) := hO2
        have HPP : Hid ((b ++ []).Perm ((L.take bl).map s3)) := by show List.Perm _ _; simpa using HP.out
        have HQQ : Hid ((b ++ []).Pairwise Rq) := by show List.Pairwise _ _; simpa using HQ.out
        have HC33 : Hid (∀ c ∈ b ++ [], c.length = 3) := by show ∀ c ∈ b ++ [], c.length = 3; simpa using HC3.out
        have HLL : Hid ((b ++ []).length = bl) := by show _ = _; simpa using HBL.out
        clear hown' hO2 hrw hal hgrow h1 H1 H2 HROW HB2 c1 HP HQ HC3 HOR HB1 hsz1
        go_wp2
        go_loopw [6] (fun kv wr' => ∃ (A C : List (List Nat)), kv = .int .i64 (A.length : Int) ∧ Hid ((A ++ C).Perm ((L.take bl).map s3)) ∧ Hid ((A ++ C).Pairwise Rq) ∧ Hid (∀ c ∈ C, Rq x c) ∧ Hid ((A ++ C).length = bl) ∧ Hid (∀ c ∈ A ++ C, c.length = 3) ∧ OR wr' s (.slice (some ⟨g, 0, none⟩) (bl + 1) cap) (A ++ x :: C) ∧ Below s w wr') (fun kv _ => (intOf kv).toNat)
        case atStart => exact ⟨b, [], by rw [HBL.out], HPP, HQQ, fun c hc => by simp at hc, HLL, HC33, HHO.out, hb2⟩
        case round =>
          clear HPP HQQ HC33 HLL HHO hb2 HBL
          obtain ⟨A, C, rfl, HP, HQ, HC, HL, HC3, hOR, hB⟩ := hrel
          have hAl : A.length ≤ bl := by rw [← HL.out, List.length_append]; omega
          have hln : (A ++ x :: C).length = bl + 1 := by have := HL.out; simp at this ⊢; omega
          have fin : (∀ B y, A = B ++ [y] → Rq y x) → Hid ((A ++ x :: C).Perm ((L.take (bl + 1)).map s3)) ∧ Hid ((A ++ x :: C).Pairwise Rq) ∧ Hid ((A ++ x :: C).length = bl + 1) ∧ Hid (∀ c ∈ A ++ x :: C, c.length = 3) := fun h3 =>
            ⟨by show List.Perm _ _; rw [HT1.out]; exact (mid_perm A C x).trans ((List.Perm.cons x HP.out).trans (snoc_perm _ x).symm), ins_end (R := Rq) Rq.tr HQ.out HC.out h3, hln, fun c hc => by
              rcases List.mem_append.1 hc with h | h
              · exact HC3.out c (List.mem_append.2 (.inl h))
              · rcases List.mem_cons.1 h with h | h
                · rw [h]; exact HX3.out
                · exact HC3.out c (List.mem_append.2 (.inr h))⟩
          rcases List.eq_nil_or_concat A with e | ⟨B, y, e⟩
          · have h0 : A.length = 0 := by rw [e]; rfl
            have hk : decide ((0 : Int) < (A.length : Int)) = false := by rw [h0]; rfl
            have hk2 : ¬ (0 : Int) < (A.length : Int) := by omega
            obtain ⟨HF1, HF2, HF3, HF4⟩ := fin fun B y e2 => by rw [e] at e2; simp at e2
            clear fin e HP HQ HC HL HC3 hln
            generalize A.length = k at *
            go_wp2
            go_roundw
            case rel => exact ⟨bl + 1, _, by go_num, by omega, HF1, HF2, HF3, HF4, hOR, hB⟩
            case measure => simp [intOf]; omega
          · have e : A = B ++ [y] := by rw [e, List.concat_eq_append]
            have hl1 : A.length = B.length + 1 := by rw [e]; simp
            have e5 : A ++ x :: C = B ++ y :: x :: C := by rw [e]; simp
            have hy3 : y.length = 3 := HC3.out y (by rw [e]; simp)
            have hx3 := HX3.out
            have hOR2 := hOR
            rw [e5] at hOR2
            obtain ⟨xa, xc, ya, yc, k2, k1, sy, sx, f2, f1, hgs, hsw⟩ := OR.swap hOR2 (by rw [← e5]; exact hln)
            rw [hx3] at k1 sx hsw
            rw [hy3] at k2 sy hsw
            rw [← hl1] at k1 f1 hsw
            have hk : decide ((0 : Int) < (A.length : Int)) = true := by simp; omega
            have hk2 : (0 : Int) < (A.length : Int) := by omega
            have hkN : decide (0 < A.length) = true := by simp; omega
            have hkM : 0 < A.length := by omega
            have hk3 : (A.length : Int) - 1 = (B.length : Int) := by omega
            have hkq : B.length < bl + 1 := by omega
            have hqq : A.length < bl + 1 := by omega
            have hnq : ¬ (bl : Int) + 1 ≤ (A.length : Int) := by omega
            have hnk : ¬ (bl : Int) + 1 ≤ (B.length : Int) := by omega
            have hwk : IntKind.i64.wrap (B.length : Int) = (B.length : Int) := by simp [IntKind.wrap, IntKind.bits, IntKind.signed]; omega
            have CA := Ahead_any x y (.slice xa 3 xc) (.slice ya 3 yc) wr.drew (sx.below ((Below.refl _ wr).drew)) (sy.below ((Below.refl _ wr).drew)) (by rw [hx3, hy3]) (by omega)
            have HCA : Hid (Calls Try.prog 55 #[.slice xa 3 xc, .slice ya 3 yc] wr.drew fun e w' => e = .returned (.bool (decide (cmpL x y < 0))) ∧ Below wr.drew.heap.size wr.drew w') := CA
            have hlg : g < wr.heap.size := World.block_lt_of_cell? _ _ k1
            have HSX : Hid (∀ W', Below wr.heap.size wr W' → (W'.cell? ⟨g, A.length, none⟩ = some (.slice xa 3 xc) ∧ W'.cell? ⟨g, B.length, none⟩ = some (.slice ya 3 yc))) := fun W' b => ⟨(b.cell (World.block_lt_of_cell? _ _ k1)).trans k1, (b.cell (World.block_lt_of_cell? _ _ k2)).trans k2⟩
            have HSW : Hid (∀ W : World, Below wr.heap.size wr W → OR ((W.setCell ⟨g, B.length, none⟩ (.slice xa 3 xc)).setCell ⟨g, A.length, none⟩ (.slice ya 3 yc)) s (.slice (some ⟨g, 0, none⟩) (bl + 1) cap) (B ++ x :: y :: C) ∧ W.frozen? ⟨g, A.length, none⟩ = false ∧ W.frozen? ⟨g, B.length, none⟩ = false) := fun W hW => by
              obtain ⟨xa', xc', ya', yc', q2, q1, _, _, g2, g1, _, hsw'⟩ := OR.swap (hOR2.below hW) (by rw [← e5]; exact hln)
              rw [← hl1] at q1 g1 hsw'
              have p1 := ((hW.cell (World.block_lt_of_cell? _ _ k1)).trans k1)
              have p2 := ((hW.cell (World.block_lt_of_cell? _ _ k2)).trans k2)
              rw [q1] at p1
              rw [q2] at p2
              rw [Option.some.inj p1, Option.some.inj p2] at hsw'
              exact ⟨hsw' W rfl, g1, g2⟩
            have HGS : Hid (s ≤ g) := hgs
            have HKB : Hid (s ≤ wr.heap.size) := Nat.le_trans HSS.out hB.size
            have Hl1 : Hid (A.length = B.length + 1) := hl1
            by_cases hlx : llt x y
            · have hdc : decide (cmpL x y < 0) = true := decide_eq_true (cmpL_neg.2 hlx)
              rw [hdc] at HCA
              have hst := ins_step (R := Rq) (A := B) (C := C) (x := x) (y := y) (by have := HQ.out; rw [e] at this; exact this) HC.out ⟨fun h => llt_irr (llt_trans hlx h), hx3, hy3⟩
              have HP2 : Hid ((B ++ (y :: C)).Perm ((L.take bl).map s3)) := by show List.Perm _ _; have := HP.out; rw [e] at this; simpa using this
              have HQ2 : Hid ((B ++ (y :: C)).Pairwise Rq) := hst.1
              have HC2 : Hid (∀ c ∈ y :: C, Rq x c) := hst.2
              have HL2 : Hid ((B ++ (y :: C)).length = bl) := by show _ = _; have := HL.out; rw [e] at this; simp at this ⊢; omega
              have HC4 : Hid (∀ c ∈ B ++ (y :: C), c.length = 3) := fun c hc => HC3.out c (by rw [e]; simpa using hc)
              clear fin e HP HQ HC HL HC3 hst hlx hdc CA hOR2 hsw sx sy hx3 hy3 e5 hl1 hln k1 k2 f1 f2 hgs
              generalize HB : B.length = k at *
              generalize A.length = q at *
              go_wp2
              refine wp_region_noPanic ?_
              refine wp_region_held_drew (S := fun w' => w'.cell? ⟨g, q, none⟩ = some (.slice xa 3 xc) ∧ w'.cell? ⟨g, k, none⟩ = some (.slice ya 3 yc)) (by kernel_rfl) (HSX.out _ (Below.refl _ wr).drew) (fun hSx => ?_)
              refine wpAnyH_take (i := 0) (v := .slice (some ⟨g, 0, none⟩) (bl + 1) cap) rfl (by kernel_rfl) (by kernel_rfl) (by kernel_rfl) (fun _ _ _ h => h) (Or.inl ⟨by rfl, fun w' hSw => by (try dsimp only at hSw); obtain ⟨hs0, hs1⟩ := hSw; go_simp⟩) hSx ?_
              try simp only [Act.put, List.setIfInBounds_toArray]
              refine wpAnyH_take (i := 1) (v := .int .i64 (q : Int)) rfl (by kernel_rfl) (by kernel_rfl) (by kernel_rfl) (fun _ _ _ h => h) (Or.inl ⟨by rfl, fun w' hSw => by (try dsimp only at hSw); obtain ⟨hs0, hs1⟩ := hSw; go_simp⟩) hSx ?_
              try simp only [Act.put]
              refine wpAnyH_take (i := 2) (v := .pointer (some ⟨g, q, none⟩)) rfl (by kernel_rfl) (by kernel_rfl) (by kernel_rfl) (fun _ _ _ h => h) (Or.inl ⟨by rfl, fun w' hSw => by (try dsimp only at hSw); obtain ⟨hs0, hs1⟩ := hSw; go_simp⟩) hSx ?_
              try simp only [Act.put]
              refine wpAnyH_take (i := 3) (v := .slice xa 3 xc) rfl (by kernel_rfl) (by kernel_rfl) (by kernel_rfl) (fun _ _ _ h => h) (Or.inl ⟨by rfl, fun w' hSw => by (try dsimp only at hSw); obtain ⟨hs0, hs1⟩ := hSw; go_simp⟩) hSx ?_
              try simp only [Act.put]
              refine wpAnyH_take (i := 4) (v := .slice (some ⟨g, 0, none⟩) (bl + 1) cap) rfl (by kernel_rfl) (by kernel_rfl) (by kernel_rfl) (fun _ _ _ h => h) (Or.inl ⟨by rfl, fun w' hSw => by (try dsimp only at hSw); obtain ⟨hs0, hs1⟩ := hSw; go_simp⟩) hSx ?_
              try simp only [Act.put]
              refine wpAnyH_take (i := 5) (v := .int .i64 (q : Int)) rfl (by kernel_rfl) (by kernel_rfl) (by kernel_rfl) (fun _ _ _ h => h) (Or.inl ⟨by rfl, fun w' hSw => by (try dsimp only at hSw); obtain ⟨hs0, hs1⟩ := hSw; go_simp⟩) hSx ?_
              try simp only [Act.put]
              refine wpAnyH_take (i := 6) (v := .int .i64 (k : Int)) rfl (by kernel_rfl) (by kernel_rfl) (by kernel_rfl) (fun _ _ _ h => h) (Or.inl ⟨by rfl, fun w' hSw => by (try dsimp only at hSw); obtain ⟨hs0, hs1⟩ := hSw; go_simp⟩) hSx ?_
              try simp only [Act.put]
              refine wpAnyH_take (i := 7) (v := .pointer (some ⟨g, k, none⟩)) rfl (by kernel_rfl) (by kernel_rfl) (by kernel_rfl) (fun _ _ _ h => h) (Or.inl ⟨by rfl, fun w' hSw => by (try dsimp only at hSw); obtain ⟨hs0, hs1⟩ := hSw; go_simp⟩) hSx ?_
              try simp only [Act.put]
              refine wpAnyH_take (i := 8) (v := .slice ya 3 yc) rfl (by kernel_rfl) (by kernel_rfl) (by kernel_rfl) (fun _ _ _ h => h) (Or.inl ⟨by rfl, fun w' hSw => by (try dsimp only at hSw); obtain ⟨hs0, hs1⟩ := hSw; go_simp⟩) hSx ?_
              try simp only [Act.put]
              refine wpAnyH_ready (rs := [9]) (by kernel_rfl) (by simp) ?_
              refine AllReadyH.cons rfl (fun J hJ => ?_) AllReadyH.nil
              go_simp
              refine (HCA.out).mono ?_
              rintro e v1 ⟨rfl, hb1⟩
              have hbv : Below wr.heap.size wr v1 := Below.next (Below.refl _ wr).drew hb1
              go_wp2_with fail
              refine hJ.out _ _ (HSX.out _ hbv) (fun hSx => ?_)
              clear hJ J
              try simp only [Act.put, List.setIfInBounds_toArray, List.set_cons_zero, List.set_cons_succ]
              refine wpAnyH_take (i := 10) (v := .bool true) rfl (by kernel_rfl) (by kernel_rfl) (by kernel_rfl) (fun _ _ _ h => h) (Or.inl ⟨by rfl, fun w' hSw => by (try dsimp only at hSw); obtain ⟨hs0, hs1⟩ := hSw; go_simp⟩) hSx ?_
              try simp only [Act.put, List.setIfInBounds_toArray]
              refine wpAnyH_done (by kernel_rfl) ?_ _
              refine NoPanic.normal ?_
              obtain ⟨hO5, f1, f2⟩ := HSW.out v1 hbv
              have q1 := (HSX.out v1 hbv).1
              have q2 := (HSX.out v1 hbv).2
              have hBv : Below s w v1 := hB.trans (hbv.mono HKB.out)
              clear HSW HSX hb1 HCA hSx
              go_wp2
              go_region
              all_goals
                go_wp2
                go_roundw
                case rel => exact ⟨B, y :: C, by rw [HB], HP2, HQ2, HC2, HL2, HC4, by first | exact hO5 | exact hO5.keep (fun _ _ _ => rfl), by first | exact (hBv.setCell (p := ⟨g, k, none⟩) HGS.out _).setCell (p := ⟨g, q, none⟩) HGS.out _ | exact ((hBv.trans (c := v1.drewN _) ⟨rfl, rfl, rfl, Nat.le_refl _, fun _ _ => rfl⟩).setCell (p := ⟨g, k, none⟩) HGS.out _).setCell (p := ⟨g, q, none⟩) HGS.out _⟩
                case measure => simp [intOf]; have := Hl1.out; omega
            · have hdc : decide (cmpL x y < 0) = false := decide_eq_false fun h => hlx (cmpL_neg.1 h)
              rw [hdc] at HCA
              obtain ⟨HF1, HF2, HF3, HF4⟩ := fin fun B' y' e2 => by
                rw [e] at e2
                have := (List.append_inj' e2 rfl).2
                have e3 : y = y' := by simpa using this
                rw [← e3]
                exact ⟨hlx, hy3, hx3⟩
              have HOR : Hid (OR wr s (.slice (some ⟨g, 0, none⟩) (bl + 1) cap) (A ++ x :: C)) := hOR
              clear fin e HP HQ HC HL HC3 hlx hdc CA hOR2 hsw sx sy hx3 hy3 e5 hl1 hln k1 k2 f1 f2 hgs HSW
              generalize B.length = k at *
              generalize A.length = q at *
              go_wp2
              refine wp_region_noPanic ?_
              refine wp_region_held_drew (S := fun w' => w'.cell? ⟨g, q, none⟩ = some (.slice xa 3 xc) ∧ w'.cell? ⟨g, k, none⟩ = some (.slice ya 3 yc)) (by kernel_rfl) (HSX.out _ (Below.refl _ wr).drew) (fun hSx => ?_)
              refine wpAnyH_take (i := 0) (v := .slice (some ⟨g, 0, none⟩) (bl + 1) cap) rfl (by kernel_rfl) (by kernel_rfl) (by kernel_rfl) (fun _ _ _ h => h) (Or.inl ⟨by rfl, fun w' hSw => by (try dsimp only at hSw); obtain ⟨hs0, hs1⟩ := hSw; go_simp⟩) hSx ?_
              try simp only [Act.put, List.setIfInBounds_toArray]
              refine wpAnyH_take (i := 1) (v := .int .i64 (q : Int)) rfl (by kernel_rfl) (by kernel_rfl) (by kernel_rfl) (fun _ _ _ h => h) (Or.inl ⟨by rfl, fun w' hSw => by (try dsimp only at hSw); obtain ⟨hs0, hs1⟩ := hSw; go_simp⟩) hSx ?_
              try simp only [Act.put]
              refine wpAnyH_take (i := 2) (v := .pointer (some ⟨g, q, none⟩)) rfl (by kernel_rfl) (by kernel_rfl) (by kernel_rfl) (fun _ _ _ h => h) (Or.inl ⟨by rfl, fun w' hSw => by (try dsimp only at hSw); obtain ⟨hs0, hs1⟩ := hSw; go_simp⟩) hSx ?_
              try simp only [Act.put]
              refine wpAnyH_take (i := 3) (v := .slice xa 3 xc) rfl (by kernel_rfl) (by kernel_rfl) (by kernel_rfl) (fun _ _ _ h => h) (Or.inl ⟨by rfl, fun w' hSw => by (try dsimp only at hSw); obtain ⟨hs0, hs1⟩ := hSw; go_simp⟩) hSx ?_
              try simp only [Act.put]
              refine wpAnyH_take (i := 4) (v := .slice (some ⟨g, 0, none⟩) (bl + 1) cap) rfl (by kernel_rfl) (by kernel_rfl) (by kernel_rfl) (fun _ _ _ h => h) (Or.inl ⟨by rfl, fun w' hSw => by (try dsimp only at hSw); obtain ⟨hs0, hs1⟩ := hSw; go_simp⟩) hSx ?_
              try simp only [Act.put]
              refine wpAnyH_take (i := 5) (v := .int .i64 (q : Int)) rfl (by kernel_rfl) (by kernel_rfl) (by kernel_rfl) (fun _ _ _ h => h) (Or.inl ⟨by rfl, fun w' hSw => by (try dsimp only at hSw); obtain ⟨hs0, hs1⟩ := hSw; go_simp⟩) hSx ?_
              try simp only [Act.put]
              refine wpAnyH_take (i := 6) (v := .int .i64 (k : Int)) rfl (by kernel_rfl) (by kernel_rfl) (by kernel_rfl) (fun _ _ _ h => h) (Or.inl ⟨by rfl, fun w' hSw => by (try dsimp only at hSw); obtain ⟨hs0, hs1⟩ := hSw; go_simp⟩) hSx ?_
              try simp only [Act.put]
              refine wpAnyH_take (i := 7) (v := .pointer (some ⟨g, k, none⟩)) rfl (by kernel_rfl) (by kernel_rfl) (by kernel_rfl) (fun _ _ _ h => h) (Or.inl ⟨by rfl, fun w' hSw => by (try dsimp only at hSw); obtain ⟨hs0, hs1⟩ := hSw; go_simp⟩) hSx ?_
              try simp only [Act.put]
              refine wpAnyH_take (i := 8) (v := .slice ya 3 yc) rfl (by kernel_rfl) (by kernel_rfl) (by kernel_rfl) (fun _ _ _ h => h) (Or.inl ⟨by rfl, fun w' hSw => by (try dsimp only at hSw); obtain ⟨hs0, hs1⟩ := hSw; go_simp⟩) hSx ?_
              try simp only [Act.put]
              refine wpAnyH_ready (rs := [9]) (by kernel_rfl) (by simp) ?_
              refine AllReadyH.cons rfl (fun J hJ => ?_) AllReadyH.nil
              go_simp
              refine (HCA.out).mono ?_
              rintro e v1 ⟨rfl, hb1⟩
              have hbv : Below wr.heap.size wr v1 := Below.next (Below.refl _ wr).drew hb1
              go_wp2_with fail
              refine hJ.out _ _ (HSX.out _ hbv) (fun hSx => ?_)
              clear hJ J
              try simp only [Act.put, List.setIfInBounds_toArray, List.set_cons_zero, List.set_cons_succ]
              refine wpAnyH_take (i := 10) (v := .bool false) rfl (by kernel_rfl) (by kernel_rfl) (by kernel_rfl) (fun _ _ _ h => h) (Or.inl ⟨by rfl, fun w' hSw => by (try dsimp only at hSw); obtain ⟨hs0, hs1⟩ := hSw; go_simp⟩) hSx ?_
              try simp only [Act.put, List.setIfInBounds_toArray]
              refine wpAnyH_done (by kernel_rfl) ?_ _
              refine NoPanic.normal ?_
              have hO6 := HOR.out.below hbv
              have hBv : Below s w v1 := hB.trans (hbv.mono HKB.out)
              clear HOR HSX hb1 HCA hSx
              go_wp2
              go_roundw
              case rel => exact ⟨bl + 1, _, by go_num, by omega, HF1, HF2, HF3, HF4, hO6, hBv⟩
              case measure => simp [intOf]; omega
    · have hdi : decide ((bl : Int) < (n : Int)) = false := by simp; omega
      obtain rfl : bl = n := by omega
      have hOd := HE.out b HP.out HQ.out
      go_wp2
      go_ret
      exact ⟨_, b, rfl, hOd, hOR, hB⟩

end Go.Proofs.Ytdeofjmgjhfkcaa
