/- The walk of tell. -/
import Derived.Test.YtgpkhfpejopacabGreatDoorPBase
import Derived.Ground.SlsfProg
import Derived.Shelf.SlSortCmp.Whole1
import Derived.Ground.SlgcProg
import Derived.Shelf.SlicesG.Cmp
import Derived.Test.YtgpkhfpejopacabGreatDoorB1
import Derived.Test.YtgpkhfpejopacabGreatDoorB2
import Derived.Deep.RegionHeld3
import Derived.Test.YtgpkhfpejopacabGreatDoorA1
/- The library's slices.SortFunc at lists of numbers, by its contract, at this program's own numbers. -/
namespace Go.Proofs.YtgpkhfpejopacabGreatDoor
open Go.Shelf Go.RowKit Go.Lib Go.Sort

def sortB_ren : Go.Shelf.Ren := ⟨fun | 6 => 74 | 14 => 119 | 15 => 120 | 20 => 145 | 21 => 146 | 22 => 147 | 23 => 148 | 24 => 149 | 25 => 150 | 26 => 151 | 27 => 152 | 28 => 153 | 29 => 154 | 46 => 186 | 47 => 187 | 48 => 188 | 49 => 189 | 50 => 190 | 57 => 215 | n => n, fun | 22 => 22 | 24 => 29 | 25 => 124 | 3 => 3 | 39 => 131 | 0 => 0 | 53 => 206 | 55 => 191 | 4 => 4 | 46 => 200 | 45 => 199 | 50 => 116 | 5 => 5 | 9 => 9 | 66 => 230 | 70 => 234 | 76 => 251 | 77 => 252 | n => n, fun | n => n⟩
theorem sortB : Go.Proofs.SlLaysF.n6 Tryz.prog sortB_ren := {
  mixed := by kernel_rfl
  f6 := ⟨Tryz.f74.name, by decide, Tryz.func74.trans (congrArg some (by kernel_rfl))⟩
  f14 := ⟨Tryz.f119.name, by decide, Tryz.func119.trans (congrArg some (by kernel_rfl))⟩
  f15 := Tryz.func120.trans (congrArg some (by kernel_rfl))
  f20 := ⟨Tryz.f145.name, by decide, Tryz.func145.trans (congrArg some (by kernel_rfl))⟩
  f21 := ⟨Tryz.f146.name, by decide, Tryz.func146.trans (congrArg some (by kernel_rfl))⟩
  f22 := ⟨Tryz.f147.name, by decide, Tryz.func147.trans (congrArg some (by kernel_rfl))⟩
  f23 := ⟨Tryz.f148.name, by decide, Tryz.func148.trans (congrArg some (by kernel_rfl))⟩
  f24 := ⟨Tryz.f149.name, by decide, Tryz.func149.trans (congrArg some (by kernel_rfl))⟩
  f25 := ⟨Tryz.f150.name, by decide, Tryz.func150.trans (congrArg some (by kernel_rfl))⟩
  f26 := ⟨Tryz.f151.name, by decide, Tryz.func151.trans (congrArg some (by kernel_rfl))⟩
  f27 := ⟨Tryz.f152.name, by decide, Tryz.func152.trans (congrArg some (by kernel_rfl))⟩
  f28 := Tryz.func153.trans (congrArg some (by kernel_rfl))
  f29 := Tryz.func154.trans (congrArg some (by kernel_rfl))
  f46 := ⟨Tryz.f186.name, by decide, Tryz.func186.trans (congrArg some (by kernel_rfl))⟩
  f47 := Tryz.func187.trans (congrArg some (by kernel_rfl))
  f48 := Tryz.func188.trans (congrArg some (by kernel_rfl))
  f49 := ⟨Tryz.f189.name, by decide, Tryz.func189.trans (congrArg some (by kernel_rfl))⟩
  f50 := ⟨Tryz.f190.name, by decide, Tryz.func190.trans (congrArg some (by kernel_rfl))⟩
  f57 := ⟨Tryz.f215.name, by decide, Tryz.func215.trans (congrArg some (by kernel_rfl))⟩
  t0 := Tryz.underlying0
  a0 := Tryz.isAgg0
  z0 := Tryz.sizeOf0
  v0 := Tryz.zeroValue0
  t3 := Tryz.underlying3
  a3 := Tryz.isAgg3
  z3 := Tryz.sizeOf3
  v3 := Tryz.zeroValue3
  t4 := Tryz.underlying4
  a4 := Tryz.isAgg4
  z4 := Tryz.sizeOf4
  v4 := Tryz.zeroValue4
  t5 := Tryz.underlying5
  a5 := Tryz.isAgg5
  z5 := Tryz.sizeOf5
  v5 := Tryz.zeroValue5
  t9 := Tryz.underlying9
  a9 := Tryz.isAgg9
  z9 := Tryz.sizeOf9
  v9 := Tryz.zeroValue9
  t22 := Tryz.underlying22
  a22 := Tryz.isAgg22
  z22 := Tryz.sizeOf22
  v22 := Tryz.zeroValue22
  a24 := Tryz.isAgg29
  z24 := Tryz.sizeOf29
  t25 := Tryz.underlying124
  a25 := Tryz.isAgg124
  z25 := Tryz.sizeOf124
  v25 := Tryz.zeroValue124
  t39 := Tryz.underlying131
  a39 := Tryz.isAgg131
  z39 := Tryz.sizeOf131
  v39 := Tryz.zeroValue131
  t45 := Tryz.underlying199
  a45 := Tryz.isAgg199
  z45 := Tryz.sizeOf199
  v45 := Tryz.zeroValue199
  t46 := Tryz.underlying200
  a46 := Tryz.isAgg200
  z46 := Tryz.sizeOf200
  v46 := Tryz.zeroValue200
  t50 := Tryz.underlying116
  a50 := Tryz.isAgg116
  z50 := Tryz.sizeOf116
  v50 := Tryz.zeroValue116
  t53 := Tryz.underlying206
  a53 := Tryz.isAgg206
  z53 := Tryz.sizeOf206
  v53 := Tryz.zeroValue206
  t55 := Tryz.underlying191
  a55 := Tryz.isAgg191
  z55 := Tryz.sizeOf191
  v55 := Tryz.zeroValue191
  t66 := Tryz.underlying230
  a66 := Tryz.isAgg230
  z66 := Tryz.sizeOf230
  v66 := Tryz.zeroValue230
  t70 := Tryz.underlying234
  a70 := Tryz.isAgg234
  z70 := Tryz.sizeOf234
  v70 := Tryz.zeroValue234
  t76 := Tryz.underlying251
  a76 := Tryz.isAgg251
  z76 := Tryz.sizeOf251
  v76 := Tryz.zeroValue251
  t77 := Tryz.underlying252
  a77 := Tryz.isAgg252
  z77 := Tryz.sizeOf252
  v77 := Tryz.zeroValue252 }

end Go.Proofs.YtgpkhfpejopacabGreatDoor

/- The library's cmp.Compare at numbers, by its contract, at this program's own numbers. -/
namespace Go.Proofs.YtgpkhfpejopacabGreatDoor
open Go.Shelf Go.RowKit Go.Lib

def cmpI_ren : Go.Shelf.Ren := ⟨fun | 5 => 121 | 7 => 155 | n => n, fun | 3 => 3 | 4 => 4 | 22 => 3 | n => n, fun | n => n⟩
theorem cmpI : Go.Proofs.SlLaysC2.n5 Tryz.prog cmpI_ren := {
  mixed := by kernel_rfl
  f5 := ⟨Tryz.f121.name, by decide, Tryz.func121.trans (congrArg some (by kernel_rfl))⟩
  f7 := ⟨Tryz.f155.name, by decide, Tryz.func155.trans (congrArg some (by kernel_rfl))⟩
  t3 := Tryz.underlying3
  a3 := Tryz.isAgg3
  z3 := Tryz.sizeOf3
  v3 := Tryz.zeroValue3
  t4 := Tryz.underlying4
  a4 := Tryz.isAgg4
  z4 := Tryz.sizeOf4
  v4 := Tryz.zeroValue4
  t22 := Tryz.underlying3
  a22 := Tryz.isAgg3
  z22 := Tryz.sizeOf3
  v22 := Tryz.zeroValue3 }

end Go.Proofs.YtgpkhfpejopacabGreatDoor

/- The walk of the document's InOrder. -/
/- Lists held against one another. -/
namespace Go.Proofs.YtgpkhfpejopacabGreatDoor
open Go.RowKit Go.Shelf

theorem cmpI_any (x y : Nat) (w : World) : Calls Tryz.prog 121 #[.int .i64 (x : Int), .int .i64 (y : Int)] w fun e w' => e = .returned (.int .i64 (Lib.compareInt x y)) ∧ w' = w := by
  have h := AnyG.cmp_Compare_int cmpI x y w
  change Calls Tryz.prog 121 _ _ _ at h
  exact h
set_option maxRecDepth 100000 in
set_option maxHeartbeats 4000000 in
theorem Compare_any (s t : List Nat) (u v : Value) (w : World) (hu : Sl w u (s.map Int.ofNat)) (hv : Sl w v (t.map Int.ofNat)) (hl : s.length = t.length) (h9 : s.length ≤ 99) :
    Calls Tryz.prog 75 #[u, v] w fun e w' => e = .returned (.int .i64 (cmpL s t)) ∧ w' = w := by
  obtain ⟨a, ca, rfl, hA⟩ := sl_at hu
  obtain ⟨b, cb, rfl, hB⟩ := sl_at hv
  have HA : Hid (∀ i, i < s.length → ∃ b off, a = some ⟨b, off, none⟩ ∧ w.cell? ⟨b, off + i, none⟩ = some (.int .i64 ((s.getD i 0 : Nat) : Int))) := hA
  have HB : Hid (∀ i, i < s.length → ∃ c off, b = some ⟨c, off, none⟩ ∧ w.cell? ⟨c, off + i, none⟩ = some (.int .i64 ((t.getD i 0 : Nat) : Int))) := fun i hi => hB i (by omega)
  have HD : Hid (∀ i, i < s.length → cmpL (s.drop i) (t.drop i) = if s.getD i 0 < t.getD i 0 then -1 else if t.getD i 0 < s.getD i 0 then 1 else cmpL (s.drop (i + 1)) (t.drop (i + 1))) := fun i hi => cmp_drop hi (by omega)
  have HE : Hid (cmpL (s.drop s.length) (t.drop s.length) = 0) := by show _ = _; rw [List.drop_length]; rfl
  rw [← hl]
  obtain ⟨z, Hz⟩ : ∃ z, Hid (cmpL s t = z) := ⟨_, rfl⟩
  rw [Hz.out]
  have Hz0 : Hid (cmpL (s.drop 0) (t.drop 0) = z) := Hz.out
  generalize s.length = n at *
  clear hu hv hA hB hl
  go_enter Tryz.func75, Tryz.ntmps75
  go_wp2
  go_loopw [11] (fun iv wr => ∃ (i : Nat), iv = .int .i64 (i : Int) ∧ i ≤ n ∧ Hid (cmpL (s.drop i) (t.drop i) = z) ∧ wr = w) (fun iv _ => (n - intOf iv).toNat)
  case atStart => exact ⟨0, rfl, by omega, Hz0, rfl⟩
  case round =>
    obtain ⟨i, rfl, hi, Hi, hw⟩ := hrel
    subst hw
    by_cases hlt : i < n
    · have hdi : decide ((i : Int) < (n : Int)) = true := by simp; omega
      have hii : (i : Int) < (n : Int) := by omega
      have hge : decide ((n : Int) ≤ (i : Int)) = false := by simp; omega
      have hge2 : ¬ (n : Int) ≤ (i : Int) := by omega
      obtain ⟨b1, o1, rfl, c1⟩ := HA.out i hlt
      obtain ⟨b2, o2, rfl, c2⟩ := HB.out i hlt
      have hd := HD.out i hlt
      rw [Hi.out] at hd
      have C := fun W => cmpI_any (s.getD i 0) (t.getD i 0) W
      generalize hx : s.getD i 0 = x at *
      generalize hy : t.getD i 0 = y at *
      by_cases h1 : x < y
      · have e1 : Lib.compareInt (x : Int) (y : Int) = -1 := by unfold Lib.compareInt; rw [if_pos (by omega)]
        rw [if_pos h1] at hd
        rw [e1] at C
        clear hx hy h1
        go_wp2_with (go_at_call 121; refine (C _).mono ?_; rintro e w4 ⟨rfl, hw⟩; replace hw := hw.symm; subst hw; clear C)
        go_ret
        exact ⟨by rw [hd]; rfl, rfl⟩
      · by_cases h2 : y < x
        · have e1 : Lib.compareInt (x : Int) (y : Int) = 1 := by unfold Lib.compareInt; rw [if_neg (by omega), if_pos (by omega)]
          rw [if_neg h1, if_pos h2] at hd
          rw [e1] at C
          clear hx hy h1 h2
          go_wp2_with (go_at_call 121; refine (C _).mono ?_; rintro e w4 ⟨rfl, hw⟩; replace hw := hw.symm; subst hw; clear C)
          go_ret
          exact ⟨by rw [hd]; rfl, rfl⟩
        · have e1 : Lib.compareInt (x : Int) (y : Int) = 0 := by unfold Lib.compareInt; rw [if_neg (by omega), if_neg (by omega)]
          rw [if_neg h1, if_neg h2] at hd
          rw [e1] at C
          have Hd : Hid (cmpL (s.drop (i + 1)) (t.drop (i + 1)) = z) := hd.symm
          clear hx hy h1 h2 hd
          go_wp2_with (go_at_call 121; refine (C _).mono ?_; rintro e w4 ⟨rfl, hw⟩; replace hw := hw.symm; subst hw; clear C)
          go_roundw
          case rel => exact ⟨i + 1, by go_num, by omega, Hd, trivial⟩
          case measure => simp [intOf]; omega
    · have hdi : decide ((i : Int) < (n : Int)) = false := by simp; omega
      obtain rfl : i = n := by omega
      have hz : z = 0 := by rw [← Hi.out]; exact HE.out
      go_wp2
      go_ret
      exact ⟨by rw [hz]; rfl, rfl⟩

end Go.Proofs.YtgpkhfpejopacabGreatDoor

namespace Go.Proofs.YtgpkhfpejopacabGreatDoor
open Go.RowKit

/-- Not behind, both of three. -/
def Rq (a b : List Nat) : Prop := (¬ llt b a) ∧ a.length = 3 ∧ b.length = 3
theorem Rq.tr (a b c : List Nat) (h1 : Rq a b) (h2 : Rq b c) : Rq a c := ⟨nlt_trans (h1.2.1.trans h1.2.2.symm) (h2.2.1.trans h2.2.2.symm) h1.1 h2.1, h1.2.1, h2.2.2⟩
theorem drow_at {w : World} {u : Value} {L : List (List Nat)} (h : Rw w u (toZ L)) : ∃ a cap, u = .slice a L.length cap ∧ ∀ i, i < L.length → ∃ b off x, a = some ⟨b, off, none⟩ ∧ w.cell? ⟨b, off + i, none⟩ = some x ∧ Sl w x ((L.getD i []).map Int.ofNat) := by
  obtain ⟨a, cap, rfl, h⟩ := h
  refine ⟨a, cap, by simp [toZ], fun i hi => ?_⟩
  have e : (toZ L)[i]? = some ((L.getD i []).map Int.ofNat) := by simp [toZ, List.getD_eq_getElem?_getD, List.getElem?_eq_getElem hi]
  exact h i _ e
theorem or_len {w : World} {base n : Nat} {v : Value} {ls : List (List Nat)} {vals : List Value} (h : w.ownsRow base 29 1 v n vals) (_ : ls.length = n) : vals.length = n := by have := h.1; omega
/-- Two rows that stand side by side, exchanged. -/
theorem OR.swap {w : World} {base g n cap : Nat} {A C : List (List Nat)} {x y : List Nat} (h : OR w base (.slice (some ⟨g, 0, none⟩) n cap) (A ++ y :: x :: C)) (hn : (A ++ y :: x :: C).length = n) :
    ∃ xa xc ya yc, w.cell? ⟨g, A.length, none⟩ = some (.slice ya y.length yc) ∧ w.cell? ⟨g, A.length + 1, none⟩ = some (.slice xa x.length xc) ∧ Sl w (.slice ya y.length yc) (y.map Int.ofNat) ∧ Sl w (.slice xa x.length xc) (x.map Int.ofNat) ∧ w.frozen? ⟨g, A.length, none⟩ = false ∧ w.frozen? ⟨g, A.length + 1, none⟩ = false ∧ base ≤ g ∧
      ∀ W : World, W.heap = w.heap → OR ((W.setCell ⟨g, A.length, none⟩ (.slice xa x.length xc)).setCell ⟨g, A.length + 1, none⟩ (.slice ya y.length yc)) base (.slice (some ⟨g, 0, none⟩) n cap) (A ++ x :: y :: C) := by
  obtain ⟨vals, h1, h2⟩ := h
  rw [hn] at h1
  have hl : vals.length = n := by have := h1.1; omega
  have hn' : A.length + 1 < n := by rw [← hn]; simp
  obtain ⟨ux, ex⟩ : ∃ ux, vals[A.length + 1]? = some ux := ⟨_, List.getElem?_eq_getElem (by omega)⟩
  obtain ⟨uy, ey⟩ : ∃ uy, vals[A.length]? = some uy := ⟨_, List.getElem?_eq_getElem (by omega)⟩
  have ox := h2 _ ux x ex (by simp)
  have oy := h2 _ uy y ey (by simp)
  obtain ⟨xa, xc, rfl⟩ := own_form ox
  obtain ⟨ya, yc, rfl⟩ := own_form oy
  have hg : base ≤ g := by
    obtain ⟨_, ⟨e0, _⟩ | ⟨g', cap', cur, e0, hg, _⟩⟩ := h1
    · cases e0
    · cases e0; exact hg
  refine ⟨xa, xc, ya, yc, by rw [h1.cellAt _ (by omega)]; exact ey, by rw [h1.cellAt _ (by omega)]; exact ex, oy.sl, ox.sl, h1.frozenAt _, h1.frozenAt _, hg, fun W hW => ?_⟩
  have keep : ∀ {u l}, ORow w base u l → ORow ((W.setCell ⟨g, A.length, none⟩ (.slice xa x.length xc)).setCell ⟨g, A.length + 1, none⟩ (.slice ya y.length yc)) base u l := by
    rintro u l ⟨k0, hn | ⟨g', cap', cur, e1, hg', k1, k2⟩⟩
    · exact ⟨k0, .inl hn⟩
    · refine ⟨k0, .inr ⟨g', cap', cur, e1, hg', ?_, k2⟩⟩
      have hne : g' ≠ g := fun e => by
        subst e
        obtain ⟨_, ⟨e0, _⟩ | ⟨g2, cap2, cur2, e0, _, hg2, _⟩⟩ := h1
        · cases e0
        · cases e0; rw [hg2] at k1; simp at k1
      exact (heap_setCell_other _ ⟨g, A.length + 1, none⟩ g' _ hne).trans ((heap_setCell_other W ⟨g, A.length, none⟩ g' _ hne).trans ((congrArg (·[g']?) hW).trans k1))
  have h1W : W.ownsRow base 29 1 (.slice (some ⟨g, 0, none⟩) n cap) n vals := own_keep h1 fun b _ _ => congrArg (·[b]?) hW
  have h3 := ((h1W.stored A.length (.slice xa x.length xc)).1.stored (A.length + 1) (.slice ya y.length yc)).1
  have hv : (vals.set A.length (.slice xa x.length xc)).set (A.length + 1) (.slice ya y.length yc) = vals.take A.length ++ (.slice xa x.length xc) :: (.slice ya y.length yc) :: vals.drop (A.length + 2) := by
    have e1 : vals = vals.take A.length ++ (.slice ya y.length yc) :: (.slice xa x.length xc) :: vals.drop (A.length + 2) := by
      have a1 := List.drop_eq_getElem_cons (show A.length < vals.length by omega)
      have a2 := List.drop_eq_getElem_cons (show A.length + 1 < vals.length by omega)
      rw [List.getElem?_eq_getElem (by omega)] at ex ey
      rw [Option.some.inj ey] at a1
      rw [Option.some.inj ex] at a2
      conv => lhs; rw [← List.take_append_drop A.length vals, a1, a2]
    have e2 := swap_list (vals.take A.length) (vals.drop (A.length + 2)) (.slice xa x.length xc : Value) (.slice ya y.length yc)
    rw [List.length_take, Nat.min_eq_left (by omega), ← e1] at e2
    exact e2
  refine ⟨_, by rw [show (A ++ x :: y :: C).length = n by rw [← hn]; simp]; exact h3, fun i u l e1 e2 => ?_⟩
  by_cases hi : i = A.length
  · subst hi
    rw [List.getElem?_set_ne (by omega), List.getElem?_set_self (by omega)] at e1
    have e3 : (A ++ x :: y :: C)[A.length]? = some x := by simp
    rw [e3] at e2
    cases e1; cases e2
    exact keep ox
  · by_cases hj : i = A.length + 1
    · subst hj
      rw [List.getElem?_set_self (by rw [List.length_set]; omega)] at e1
      have e3 : (A ++ x :: y :: C)[A.length + 1]? = some y := by simp
      rw [e3] at e2
      cases e1; cases e2
      exact keep oy
    · rw [List.getElem?_set_ne (by omega), List.getElem?_set_ne (by omega)] at e1
      refine keep (h2 i u l e1 ?_)
      rw [← e2]
      by_cases hk : i < A.length
      · rw [List.getElem?_append_left hk, List.getElem?_append_left hk]
      · rw [List.getElem?_append_right (by omega), List.getElem?_append_right (by omega)]
        obtain ⟨m, hm⟩ : ∃ m, i - A.length = m + 2 := ⟨i - A.length - 2, by omega⟩
        rw [hm]; rfl
end Go.Proofs.YtgpkhfpejopacabGreatDoor

/- The walk of the library's SortFunc at lists of three numbers. -/
namespace Go.Proofs.YtgpkhfpejopacabGreatDoor
open Go.RowKit Go.Shelf

/-- A row that is sorted among others: it lies beside the row of rows. -/
structure Elt (w : World) (g : Nat) where
  u : Value
  l : List Nat
  keeps : ∀ W : World, (∀ b, b < w.heap.size → b ≠ g → W.heap[b]? = w.heap[b]?) → Sl W u (l.map Int.ofNat)
  len : l.length = 3
theorem swoE (w : World) (g : Nat) : Go.Sort.SWO (ltOf fun x y : Elt w g => cmpL x.l y.l) where
  irrefl x := decide_eq_false fun h => llt_irr (cmpL_neg.1 h)
  trans x y z h1 h2 := decide_eq_true (cmpL_neg.2 (llt_trans (cmpL_neg.1 (of_decide_eq_true h1)) (cmpL_neg.1 (of_decide_eq_true h2))))
  ntrans x y z h1 h2 := by
    have g1 : ¬ llt x.l y.l := fun h => of_decide_eq_false h1 (cmpL_neg.2 h)
    have g2 : ¬ llt y.l z.l := fun h => of_decide_eq_false h2 (cmpL_neg.2 h)
    exact decide_eq_false fun h => nlt_trans (a := z.l) (b := y.l) (c := x.l) (z.len.trans y.len.symm) (y.len.trans x.len.symm) g2 g1 (cmpL_neg.1 h)
theorem sw_other {α : Type} [Inhabited α] {enc : α → Value} {w : World} {g m b : Nat} {d : Array α} {os : Array Obj} (hb : b < w.heap.size) (hn : b ≠ g) : (sortWorld enc w g 0 m d os).heap[b]? = w.heap[b]? := by
  unfold sortWorld
  rw [Go.Sort.heap_grow_old _ _ (by simpa using hb)]
  have : g ≠ b := fun e => hn e.symm
  simp [Go.Sort.putRow, Go.Sort.mapBlock, Go.Sort.ahead, Array.getElem?_modify, this]
theorem sw_at {α : Type} [Inhabited α] {enc : α → Value} {w : World} {g m : Nat} {d : Array α} {os : Array Obj} {cur : Array Value} {e : TypeId} {fr : Nat × Nat} (hb : w.heap[g]? = some (.cells cur e fr)) : (sortWorld enc w g 0 m d os).heap[g]? = some (.cells (Go.Sort.putCells enc 0 d cur) e fr) := by
  have hg : g < w.heap.size := (Array.getElem?_eq_some_iff.1 hb).1
  unfold sortWorld
  rw [Go.Sort.heap_grow_old _ _ (by simpa using hg)]
  simp [Go.Sort.putRow, Go.Sort.mapBlock, Go.Sort.ahead, Array.getElem?_modify, hb, Go.Sort.onCells]
theorem sw_size {α : Type} [Inhabited α] {enc : α → Value} {w : World} {g m : Nat} {d : Array α} {os : Array Obj} : w.heap.size ≤ (sortWorld enc w g 0 m d os).heap.size := by
  unfold sortWorld
  simp [Go.Sort.putRow, Go.Sort.mapBlock, Go.Sort.ahead, Go.Sort.grow]
theorem put_take {α : Type} [Inhabited α] (enc : α → Value) (cur : Array Value) (ts : List α) (h : ts.length ≤ cur.size) : (Go.Sort.putCells enc 0 ts.toArray cur).toList.take ts.length = ts.map enc := by
  apply List.ext_getElem?
  intro j
  by_cases hj : j < ts.length
  · rw [List.getElem?_take_of_lt hj, Array.getElem?_toList]
    simp [Go.Sort.putCells, hj, show j < cur.size by omega]
  · rw [List.getElem?_take_eq_none (by omega), List.getElem?_eq_none (by simp; omega)]
theorem one_slice {w : World} {u : Value} {l : List Int} (h : Sl w u l) : u.oneCell' = true := by
  obtain ⟨a, c, rfl, _⟩ := h
  rfl
theorem elt_list {w : World} {base g : Nat} (hg : ∀ u l, ORow w base u l → ∀ W : World, (∀ b, b < w.heap.size → b ≠ g → W.heap[b]? = w.heap[b]?) → ORow W base u l) : ∀ {vals : List Value} {L : List (List Nat)}, vals.length = L.length → (∀ (i : Nat) (u : Value) (l : List Nat), vals[i]? = some u → L[i]? = some l → ORow w base u l) → (∀ l ∈ L, l.length = 3) → ∃ d : List (Elt w g), d.map Elt.u = vals ∧ d.map Elt.l = L ∧ ∀ x ∈ d, ORow w base x.u x.l
  | [], [], _, _, _ => ⟨[], rfl, rfl, fun x hx => by simp at hx⟩
  | [], _ :: _, h, _, _ => by simp at h
  | _ :: _, [], h, _, _ => by simp at h
  | u :: vals, l :: L, h, h1, h2 => by
    obtain ⟨d, e1, e2, e3⟩ := elt_list hg (vals := vals) (L := L) (by simpa using h) (fun i u' l' a b => h1 (i + 1) u' l' (by simpa using a) (by simpa using b)) fun l' hl => h2 l' (by simp [hl])
    have ho := h1 0 u l rfl rfl
    refine ⟨⟨u, l, fun W hW => (hg u l ho W hW).sl, h2 l (by simp)⟩ :: d, by simp [e1], by simp [e2], fun x hx => ?_⟩
    rcases List.mem_cons.1 hx with rfl | hx
    · exact ho
    · exact e3 x hx
set_option maxRecDepth 100000 in
set_option maxHeartbeats 2000000 in
theorem ins_none (p : Option Addr) (cap : Nat) (fv : Value) (w : World) : Calls Tryz.prog 145 #[.slice p 0 cap, .int .i64 0, .int .i64 0, fv] w fun e w' => e = .returned (.tuple #[]) ∧ w' = w := by
  go_enter Tryz.func145, Tryz.ntmps145
  go_wp2
  refine wp_loop_rounds 1 ?_
  rw [rounds_succ]
  go_wp2
  go_end0
  exact ⟨rfl, rfl⟩
set_option maxRecDepth 100000 in
set_option maxHeartbeats 2000000 in
theorem pdq_none (p : Option Addr) (cap : Nat) (lim : Int) (fv : Value) (w : World) : Calls Tryz.prog 119 #[.slice p 0 cap, .int .i64 0, .int .i64 0, .int .i64 lim, fv] w fun e w' => e = .returned (.tuple #[]) ∧ w' = w := by
  have hi := fun W => ins_none p cap fv W
  go_enter Tryz.func119, Tryz.ntmps119
  go_wp2
  refine wp_loop_rounds 1 ?_
  rw [rounds_succ]
  go_wp2_with (go_at_call 145; refine (hi _).mono ?_; rintro e w' ⟨rfl, rfl⟩)
  (try simp only [Exit.inBlock, Exit.then]); refine bodyPost_ret (results_none rfl _ _ _) rfl ?_
  exact ⟨rfl, rfl⟩
set_option maxRecDepth 100000 in
set_option maxHeartbeats 2000000 in
theorem sort_none (p : Option Addr) (cap : Nat) (fv : Value) (w : World) : Calls Tryz.prog 74 #[.slice p 0 cap, fv] w fun e w' => e = .returned (.tuple #[]) ∧ w' = w := by
  have hl : ∀ W, Calls Tryz.prog 120 #[.int .u64 0] W fun e w' => e = .returned (.int .i64 (Lib.bitLen 0 : Nat)) ∧ w' = W := fun W => by
    have h := Any.bits_Len (SlLaysF0.n15.bits (P := Tryz.prog) (ρ := sortB_ren) { sortB with }) 0 W (by omega) (by omega)
    change Calls Tryz.prog 120 _ _ _ at h
    exact h
  have hp := fun lim W => pdq_none p cap lim fv W
  go_enter Tryz.func74, Tryz.ntmps74
  go_wp2_with (first | (go_at_call 120; refine (hl _).mono ?_; rintro e w' ⟨rfl, rfl⟩) | (go_at_call 119; refine (hp _ _).mono ?_; rintro e w' ⟨rfl, rfl⟩))
  go_end0
  exact ⟨rfl, rfl⟩
/-- Blocks that are sorted where they lie. -/
theorem sort_any (base n : Nat) (L : List (List Nat)) (v : Value) (w : World) (hn : n ≤ base) (h : OR w base v L) (h3 : ∀ l ∈ L, l.length = 3) (h6 : L.length ≤ 6000) (hbs : n ≤ w.heap.size) :
    Calls Tryz.prog 74 #[v, .func (.func 75) #[] #[]] w fun e w' => e = .returned (.tuple #[]) ∧ (∃ Z, Z.Perm L ∧ Z.Pairwise (fun a b => ¬ llt b a) ∧ OR w' base v Z) ∧ Below n w w' ∧ ∀ b, b < w.heap.size → v.ownBlock ≠ some b → w'.heap[b]? = w.heap[b]? := by
  obtain ⟨vals, h1, h2⟩ := h
  by_cases h0 : L.length = 0
  · obtain rfl := List.eq_nil_of_length_eq_zero h0
    obtain ⟨a, c, rfl⟩ := own_form h1
    refine (sort_none a c _ w).mono ?_
    rintro e w' ⟨rfl, rfl⟩
    exact ⟨rfl, ⟨[], List.Perm.refl _, List.Pairwise.nil, vals, h1, h2⟩, Below.refl _ _, fun _ _ _ => rfl⟩
  · obtain ⟨hl0, ⟨_, e⟩ | ⟨g, cap, cur, rfl, hg, hcell, hcap, hmax, hcs, htake⟩⟩ := h1
    · exact (h0 e).elim
    · have hlen : vals.length = L.length := by omega
      have hkeep : ∀ u l, ORow w base u l → ∀ W : World, (∀ b, b < w.heap.size → b ≠ g → W.heap[b]? = w.heap[b]?) → ORow W base u l := by
        rintro u l ⟨k0, k | ⟨g', cap', cur', e1, hg', k1, k2⟩⟩ W hW
        · exact ⟨k0, .inl k⟩
        · refine ⟨k0, .inr ⟨g', cap', cur', e1, hg', (hW g' (Array.getElem?_eq_some_iff.1 k1).1 fun e => ?_).trans k1, k2⟩⟩
          subst e
          rw [hcell] at k1; simp at k1
      obtain ⟨d, d1, d2, d3⟩ := elt_list hkeep hlen h2 h3
      have hdl : d.length = L.length := by rw [← d2, List.length_map]
      obtain ⟨x0, hx0⟩ : ∃ x, x ∈ d := List.exists_mem_of_length_pos (by omega)
      haveI : Inhabited (Elt w g) := ⟨x0⟩
      have hblk : g < w.heap.size := (Array.getElem?_eq_some_iff.1 hcell).1
      have hH : Go.Sort.Holds Elt.u w g 0 d.toArray := fun j hj => by
        have hj' : j < d.length := by simpa using hj
        refine ⟨?_, frozen_of_row w g _ _ _ hcell⟩
        rw [Nat.zero_add, cell_of_row w g _ _ _ _ hcell]
        have e1 : vals[j]? = some (d[j]).u := by rw [← d1, List.getElem?_map, List.getElem?_eq_getElem hj']; rfl
        rw [← htake, List.getElem?_take, if_pos (by omega), Array.getElem?_toList] at e1
        rw [e1]
        simp [hj']
      have eg : ∀ args w, (callFunc 75 args).run Tryz.prog w = .ok (.enter 75 args) w := enters_of Tryz.func75 (by kernel_rfl) rfl
      have hs := Any.slices_SortFunc sortB Elt.u (fun x => one_slice (x.keeps w fun _ _ _ => rfl)) (fun x y => cmpL x.l y.l) (swoE w g) 75 #[] g 0 cap d.toArray w eg (fun m os dk _ x y => by
        have hW := fun (b : Nat) (hb : b < w.heap.size) (hn : b ≠ g) => sw_other (enc := Elt.u) (m := m) (d := dk) (os := os) hb hn
        refine (Compare_any x.l y.l x.u y.u _ (x.keeps _ hW) (y.keeps _ hW) (x.len.trans y.len.symm) (by rw [x.len]; omega)).mono ?_
        rintro e w' ⟨rfl, rfl⟩
        exact ⟨rfl, 0, #[], by simp [World.drewN]⟩) hH hblk (by simp; omega)
      change Calls Tryz.prog 74 _ _ _ at hs
      have hsz0 : d.toArray.size = L.length := by simpa using hdl
      rw [hsz0] at hs
      refine hs.mono ?_
      rintro e w' ⟨rfl, d', m, os, hp, hsd, rfl⟩
      have hsz : d'.size = L.length := by rw [← hsz0]; exact hp.1
      have hpp : d'.toList.Perm d := by
        have h2 := hp.2.2
        have e1 : d'.extract 0 L.length = d' := by rw [← hsz]; simp
        have e2 : d.toArray.extract 0 L.length = d.toArray := by rw [← hsz0]; simp
        rw [e1, e2] at h2
        exact h2
      have hW := fun (b : Nat) (hb : b < w.heap.size) (hn : b ≠ g) => sw_other (enc := Elt.u) (m := m) (d := d') (os := os) hb hn
      refine ⟨rfl, ⟨d'.toList.map Elt.l, d2 ▸ hpp.map _, ?_, d'.toList.map Elt.u, ?_, fun i u l e1 e2 => ?_⟩, ⟨rfl, rfl, rfl, sw_size, fun k hk => hW k (by omega) (by omega)⟩, fun b hb hn => hW b hb fun e => hn (by rw [e]; rfl)⟩
      · rw [List.pairwise_map, List.pairwise_iff_getElem]
        intro a b ha hb' hab
        have ha' : a < d'.size := by simpa using ha
        have hb2 : b < d'.size := by simpa using hb'
        have h4 := hsd a b (Nat.zero_le _) hab (by omega)
        rw [getElem!_pos d' a ha', getElem!_pos d' b hb2] at h4
        exact fun h => of_decide_eq_false h4 (cmpL_neg.2 h)
      · refine ⟨by simp, .inr ⟨g, cap, _, by simp [hsz], hg, sw_at hcell, by simp [hsz]; omega, hmax, by simpa [Go.Sort.putCells] using hcs, ?_⟩⟩
        have := put_take Elt.u cur d'.toList (by simp; omega)
        simpa using this
      · rw [List.getElem?_map] at e1 e2
        obtain ⟨x, hx, rfl⟩ := Option.map_eq_some_iff.1 e1
        rw [hx] at e2
        cases e2
        exact hkeep _ _ (d3 x (hpp.mem_iff.1 (List.mem_of_getElem? hx))) _ hW

end Go.Proofs.YtgpkhfpejopacabGreatDoor

namespace Go.Proofs.YtgpkhfpejopacabGreatDoor
open Go.RowKit

/-- Blocks in their order. -/
structure Srtd (L Z : List (List Nat)) : Prop where
  perm : Z.Perm L
  ord : Z.Pairwise fun a b => ¬ llt b a
theorem Srtd.len {L Z : List (List Nat)} (h : Srtd L Z) : Z.length = L.length := h.perm.length_eq
theorem OR.put {w : World} {base t i : Nat} {v u : Value} {ls : List (List Nat)} {c : Array Value} {fr : Nat × Nat} (h : OR w base v ls) (ht : w.heap[t]? = some (.cells c 25 fr)) : OR (w.setCell ⟨t, i, none⟩ u) base v ls := by
  have key : ∀ {e : TypeId} {x : Value} {n : Nat} {xs : List Value}, e ≠ 25 → w.ownsRow base e 1 x n xs → (w.setCell ⟨t, i, none⟩ u).ownsRow base e 1 x n xs := by
    rintro e x n xs he ⟨k0, k | ⟨g, cap, cur, e1, hg, k1, k2⟩⟩
    · exact ⟨k0, .inl k⟩
    · refine ⟨k0, .inr ⟨g, cap, cur, e1, hg, (heap_setCell_other w ⟨t, i, none⟩ g u fun e2 => ?_).trans k1, k2⟩⟩
      have e2 : g = t := e2
      rw [e2, ht] at k1
      simp at k1
      exact he k1.2.1.symm
  obtain ⟨vals, h1, h2⟩ := h
  exact ⟨vals, key (by decide) h1, fun j x l a b => key (by decide) (h2 j x l a b)⟩
theorem OR.none_ne {w : World} {base b : Nat} {v : Value} {ls : List (List Nat)} (h : OR w base v ls) (hb : w.heap.size ≤ b) : v.ownBlock ≠ some b := by
  obtain ⟨vals, ⟨_, ⟨rfl, _⟩ | ⟨g, cap, cur, rfl, _, k1, _⟩⟩, _⟩ := h
  · simp [Value.ownBlock]
  · have := (Array.getElem?_eq_some_iff.1 k1).1
    intro e
    have : g = b := by simpa [Value.ownBlock] using e
    omega
set_option maxRecDepth 100000 in
set_option maxHeartbeats 4000000 in
theorem tell_any (p base gb : Nat) (ty : TypeId) (rest : List Value) (L : List (List Nat)) (w : World) (h : Lst w base gb ty rest L) (h3 : ∀ l ∈ L, l.length = 3) (h6 : L.length ≤ 6000) :
    Calls Tryz.prog 28 #[.pointer (some ⟨gb, 0, none⟩), .int .i64 (p : Int)] w fun e w' => ∃ x Z, e = .returned (.agg #[.int .i64 (p : Int), x]) ∧ Srtd L Z ∧ OR w' base x Z ∧ Below base w w' := by
  obtain ⟨v, hbx, hO, hgb, hbs⟩ := h
  have ba := balloc w (.cells #[.int .i64 0, .slice none 0 0] 25)
  have C := sort_any base base L v (w.alloc (.cells #[.int .i64 0, .slice none 0 0] 25)) (Nat.le_refl _) (hO.below ba) h3 h6 (Nat.le_trans hbs ba.size)
  have hlt : gb < w.heap.size := by omega
  have c0 : (w.alloc (.cells #[.int .i64 0, .slice none 0 0] 25)).cell? ⟨gb, 0, none⟩ = some v := by rw [cell_of_row _ _ _ _ _ _ ((ba.block gb hlt).trans hbx)]; rfl
  obtain ⟨va, vc, rfl⟩ := hO.cap
  have HBX : Hid (∀ W, Below base (w.alloc (.cells #[.int .i64 0, .slice none 0 0] 25)) W → W.cell? ⟨gb, 0, none⟩ = some (.slice va L.length vc)) := fun W b => by
    rw [cell_of_row _ _ _ _ _ _ ((b.block gb hgb).trans ((ba.block gb hlt).trans hbx))]; rfl
  have HT : Hid (∀ W : World, (∀ b, b < (w.alloc (.cells #[.int .i64 0, .slice none 0 0] 25)).heap.size → (Value.slice va L.length vc).ownBlock ≠ some b → W.heap[b]? = (w.alloc (.cells #[.int .i64 0, .slice none 0 0] 25)).heap[b]?) → W.heap[w.heap.size]? = some (.cells #[.int .i64 0, .slice none 0 0] 25 (0, 0))) := fun W hW =>
    (hW w.heap.size (by simp) (hO.none_ne (Nat.le_refl _))).trans (heap_alloc_new w _)
  have HC : Hid (Calls Tryz.prog 74 #[.slice va L.length vc, .func (.func 75) #[] #[]] (w.alloc (.cells #[.int .i64 0, .slice none 0 0] 25)) fun e w' => e = .returned (.tuple #[]) ∧ (∃ Z, Z.Perm L ∧ Z.Pairwise (fun a b => ¬ llt b a) ∧ OR w' base (.slice va L.length vc) Z) ∧ Below base (w.alloc (.cells #[.int .i64 0, .slice none 0 0] 25)) w' ∧ ∀ b, b < (w.alloc (.cells #[.int .i64 0, .slice none 0 0] 25)).heap.size → (Value.slice va L.length vc).ownBlock ≠ some b → w'.heap[b]? = (w.alloc (.cells #[.int .i64 0, .slice none 0 0] 25)).heap[b]?) := C
  have HBA : Hid (Below base w (w.alloc (.cells #[.int .i64 0, .slice none 0 0] 25))) := ba.mono hbs
  generalize L.length = n at *
  clear C hbx hO ba
  go_enter Tryz.func28, Tryz.ntmps28
  go_wp2_with (first
    | (go_at_call 74; refine HC.out.mono ?_; rintro e w1 ⟨rfl, ⟨Z, hp, hs, hZ⟩, hB, hf⟩; clear HC; have HZ : Hid (Srtd L Z) := ⟨hp, hs⟩; have ht := HT.out w1 hf; have c1 := HBX.out w1 hB; have HB : Hid (Below base w w1) := HBA.out.trans hB; clear HT hf hB hp hs HBA c0; have t0 : w1.cell? ⟨w.heap.size, 0, none⟩ = some (.int .i64 0) := (by rw [cell_of_row _ _ _ _ _ _ ht]; rfl); have t1 : w1.cell? ⟨w.heap.size, 1, none⟩ = some (.slice none 0 0) := (by rw [cell_of_row _ _ _ _ _ _ ht]; rfl); have f0 : w1.frozen? ⟨w.heap.size, 0, none⟩ = false := frozen_of_row w1 _ 0 _ _ ht; have f1 : w1.frozen? ⟨w.heap.size, 1, none⟩ = false := frozen_of_row w1 _ 1 _ _ ht; have hn1 := heap_setCell_same w1 w.heap.size 0 _ _ (.int .i64 (p : Int)) ht; have hn2 := heap_setCell_same _ w.heap.size 1 _ _ (.slice va n vc) hn1; have HO2 : Hid (OR ((w1.setCell ⟨w.heap.size, 0, none⟩ (.int .i64 (p : Int))).setCell ⟨w.heap.size, 1, none⟩ (.slice va n vc)) base (.slice va n vc) Z) := (hZ.put ht).put hn1; have HN2 : Hid (((w1.setCell ⟨w.heap.size, 0, none⟩ (.int .i64 (p : Int))).setCell ⟨w.heap.size, 1, none⟩ (.slice va n vc)).heap[w.heap.size]? = _) := hn2; clear ht hn1 hn2 hZ)
    | go_in)
  exact post_d 4 Tryz.results28 rfl HN2.out rfl ⟨_, Z, rfl, HZ.out, HO2.out, (HB.out.setCell (p := ⟨w.heap.size, 0, none⟩) hbs _).setCell (p := ⟨w.heap.size, 1, none⟩) hbs _⟩

end Go.Proofs.YtgpkhfpejopacabGreatDoor
