/- The walk of the document's InOrder. -/
import Derived.Test.YtdeofjmgjhfkcabDoorTSo
import Derived.Test.YtdeofjmgjhfkcabDoorPBase
import Derived.Ground.SlgcProg
import Derived.Shelf.SlicesG.Cmp
import Derived.Test.YtdeofjmgjhfkcabDoorDLw
import Derived.Deep.QuietTactic
import Derived.BigQuiet
import Derived.Test.YtdeofjmgjhfkcabDoorDCo
import Derived.Laws.OwnMore
import Derived.Deep.RegionHeld3
/- One more among those in order; nothing of the program. -/
namespace Go.Proofs.YtdeofjmgjhfkcabDoor

theorem swap_list {α : Type} (A C : List α) (x y : α) : ((A ++ y :: x :: C).set A.length x).set (A.length + 1) y = A ++ x :: y :: C := by
  rw [List.set_append_right _ _ (Nat.le_refl _), Nat.sub_self, List.set_cons_zero, List.set_append_right _ _ (by omega), show A.length + 1 - A.length = 1 by omega]
  rfl
theorem getD_mid {A C : List Nat} {x : Nat} : (A ++ x :: C).getD A.length 0 = x := by simp
/-- It stands where it belongs. -/
theorem ins_end {α : Type} {R : α → α → Prop} (tr : ∀ a b c, R a b → R b c → R a c) {A C : List α} {x : α} (h1 : (A ++ C).Pairwise R) (h2 : ∀ c ∈ C, R x c) (h3 : ∀ B y, A = B ++ [y] → R y x) : (A ++ x :: C).Pairwise R := by
  rw [List.pairwise_append] at h1 ⊢
  refine ⟨h1.1, List.pairwise_cons.2 ⟨h2, h1.2.1⟩, fun a ha b hb => ?_⟩
  have hax : R a x := by
    rcases List.eq_nil_or_concat A with e | ⟨B, y, e⟩
    · rw [e] at ha; simp at ha
    · have e : A = B ++ [y] := by rw [e, List.concat_eq_append]
      have hy := h3 B y e
      rw [e] at ha h1
      rcases List.mem_append.1 ha with h | h
      · exact tr _ _ _ ((List.pairwise_append.1 h1.1).2.2 a h y (by simp)) hy
      · have e2 : a = y := by simpa using h
        rw [e2]; exact hy
  rcases List.mem_cons.1 hb with h | h
  · rw [h]; exact hax
  · exact h1.2.2 a ha b h
theorem ins_step {α : Type} {R : α → α → Prop} {A C : List α} {x y : α} (h1 : (A ++ [y] ++ C).Pairwise R) (h2 : ∀ c ∈ C, R x c) (hy : R x y) : (A ++ (y :: C)).Pairwise R ∧ ∀ c ∈ y :: C, R x c := by
  refine ⟨by simpa using h1, fun c hc => ?_⟩
  rcases List.mem_cons.1 hc with h | h
  · rw [h]; exact hy
  · exact h2 c h
theorem mid_perm {α : Type} (A C : List α) (x : α) : (A ++ x :: C).Perm (x :: (A ++ C)) := List.perm_middle
theorem snoc_perm {α : Type} (A : List α) (x : α) : (A ++ [x]).Perm (x :: A) := List.perm_append_comm
theorem llt_trans : ∀ {a b c : List Nat}, llt a b → llt b c → llt a c
  | [], _, _, h, _ => by cases h
  | _ :: _, [], _, h, _ => by cases h
  | _ :: _, _ :: _, [], _, h => by cases h
  | x :: a, y :: b, z :: c, h1, h2 => by
    rcases h1 with h1 | ⟨e1, h1⟩ <;> rcases h2 with h2 | ⟨e2, h2⟩
    · exact .inl (by omega)
    · exact .inl (by omega)
    · exact .inl (by omega)
    · exact .inr ⟨by omega, llt_trans h1 h2⟩
/-- Not behind: it goes on. -/
theorem nlt_trans {a b c : List Nat} (h1 : a.length = b.length) (_ : b.length = c.length) (hab : ¬ llt b a) (hbc : ¬ llt c b) : ¬ llt c a := fun h => by
  rcases llt_tri h1 with g | g | g
  · exact hbc (llt_trans h g)
  · rw [g] at h; exact hbc h
  · exact hab g

end Go.Proofs.YtdeofjmgjhfkcabDoor

/- The library's cmp.Compare at numbers, by its contract, at this program's own numbers. -/
namespace Go.Proofs.YtdeofjmgjhfkcabDoor
open Go.Shelf Go.RowKit Go.Lib

def cmpI_ren : Go.Shelf.Ren := ⟨fun | 5 => 49 | 7 => 67 | n => n, fun | 3 => 3 | 4 => 4 | 22 => 3 | n => n, fun | n => n⟩
theorem cmpI : Go.Proofs.SlLaysC2.n5 Tryd.prog cmpI_ren := {
  mixed := by kernel_rfl
  f5 := ⟨Tryd.f49.name, by decide, Tryd.func49.trans (congrArg some (by kernel_rfl))⟩
  f7 := ⟨Tryd.f67.name, by decide, Tryd.func67.trans (congrArg some (by kernel_rfl))⟩
  t3 := Tryd.underlying3
  a3 := Tryd.isAgg3
  z3 := Tryd.sizeOf3
  v3 := Tryd.zeroValue3
  t4 := Tryd.underlying4
  a4 := Tryd.isAgg4
  z4 := Tryd.sizeOf4
  v4 := Tryd.zeroValue4
  t22 := Tryd.underlying3
  a22 := Tryd.isAgg3
  z22 := Tryd.sizeOf3
  v22 := Tryd.zeroValue3 }

end Go.Proofs.YtdeofjmgjhfkcabDoor

/- Which of two lists comes first: the walks of the library's Compare and of the document's Ahead. -/
namespace Go.Proofs.YtdeofjmgjhfkcabDoor
open Go.RowKit

theorem cmp_drop {s t : List Nat} {i : Nat} (h1 : i < s.length) (h2 : i < t.length) : cmpL (s.drop i) (t.drop i) = if s.getD i 0 < t.getD i 0 then -1 else if t.getD i 0 < s.getD i 0 then 1 else cmpL (s.drop (i + 1)) (t.drop (i + 1)) := by
  rw [List.drop_eq_getElem_cons h1, List.drop_eq_getElem_cons h2]
  simp only [List.getD_eq_getElem?_getD, List.getElem?_eq_getElem h1, List.getElem?_eq_getElem h2, Option.getD_some]
  rfl
theorem sl_at {w : World} {u : Value} {s : List Nat} (h : Sl w u (s.map Int.ofNat)) : ∃ a cap, u = .slice a s.length cap ∧ ∀ i, i < s.length → ∃ b off, a = some ⟨b, off, none⟩ ∧ w.cell? ⟨b, off + i, none⟩ = some (.int .i64 ((s.getD i 0 : Nat) : Int)) := by
  obtain ⟨a, cap, rfl, h⟩ := h
  refine ⟨a, cap, by simp, fun i hi => ?_⟩
  obtain ⟨b, off, e, hc⟩ := h i (by simpa using hi)
  refine ⟨b, off, e, hc.trans ?_⟩
  simp [List.getD_eq_getElem?_getD, List.getElem?_eq_getElem hi]
theorem cmpI_any (x y : Nat) (w : World) : Calls Tryd.prog 49 #[.int .i64 (x : Int), .int .i64 (y : Int)] w fun e w' => e = .returned (.int .i64 (Lib.compareInt x y)) ∧ w' = w := by
  have h := AnyG.cmp_Compare_int cmpI x y w
  change Calls Tryd.prog 49 _ _ _ at h
  exact h
set_option maxRecDepth 100000 in
set_option maxHeartbeats 4000000 in
theorem Compare_any (s t : List Nat) (u v : Value) (w : World) (hu : Sl w u (s.map Int.ofNat)) (hv : Sl w v (t.map Int.ofNat)) (hl : s.length = t.length) (h9 : s.length ≤ 99) :
    Calls Tryd.prog 30 #[u, v] w fun e w' => e = .returned (.int .i64 (cmpL s t)) ∧ w' = w := by
  obtain ⟨a, ca, rfl, hA⟩ := sl_at hu
  obtain ⟨b, cb, rfl, hB⟩ := sl_at hv
  have HA : Hid (∀ i, i < s.length → ∃ b off, a = some ⟨b, off, none⟩ ∧ w.cell? ⟨b, off + i, none⟩ = some (.int .i64 ((s.getD i 0 : Nat) : Int))) := hA
  have HB : Hid (∀ i, i < s.length → ∃ c off, b = some ⟨c, off, none⟩ ∧ w.cell? ⟨c, off + i, none⟩ = some (.int .i64 ((t.getD i 0 : Nat) : Int))) := fun i hi => hB i (by omega)
  have HD : Hid (∀ i, i < s.length → cmpL (s.drop i) (t.drop i) = if s.getD i 0 < t.getD i 0 then -1 else if t.getD i 0 < s.getD i 0 then 1 else cmpL (s.drop (i + 1)) (t.drop (i + 1))) := fun i hi => cmp_drop hi (by omega)
  have HE : Hid (cmpL (s.drop s.length) (t.drop s.length) = 0) := by show _ = _; rw [List.drop_length]; rfl
  rw [← hl]
  obtain ⟨z, Hz⟩ : ∃ z, Hid (cmpL s t = z) := ⟨_, rfl⟩
  rw [Hz.out]
  have Hz0 : Hid (cmpL (s.drop 0) (t.drop 0) = z) := Hz.out
  generalize s.length = n at *
  clear hu hv hA hB hl
  go_enter Tryd.func30, Tryd.ntmps30
  go_wp2
  go_loopw [11] (fun iv wr => ∃ (i : Nat), iv = .int .i64 (i : Int) ∧ i ≤ n ∧ Hid (cmpL (s.drop i) (t.drop i) = z) ∧ wr = w) (fun iv _ => (n - intOf iv).toNat)
  case atStart => exact ⟨0, rfl, by omega, Hz0, rfl⟩
  case round =>
    obtain ⟨i, rfl, hi, Hi, hw⟩ := hrel
    subst hw
    by_cases hlt : i < n
    · have hdi : decide ((i : Int) < (n : Int)) = true := by simp; omega
      have hii : (i : Int) < (n : Int) := by omega
      have hge : decide ((n : Int) ≤ (i : Int)) = false := by simp; omega
      have hge2 : ¬ (n : Int) ≤ (i : Int) := by omega
      obtain ⟨b1, o1, rfl, c1⟩ := HA.out i hlt
      obtain ⟨b2, o2, rfl, c2⟩ := HB.out i hlt
      have hd := HD.out i hlt
      rw [Hi.out] at hd
      have C := fun W => cmpI_any (s.getD i 0) (t.getD i 0) W
      generalize hx : s.getD i 0 = x at *
      generalize hy : t.getD i 0 = y at *
      by_cases h1 : x < y
      · have e1 : Lib.compareInt (x : Int) (y : Int) = -1 := by unfold Lib.compareInt; rw [if_pos (by omega)]
        rw [if_pos h1] at hd
        rw [e1] at C
        clear hx hy h1
        go_wp2_with (go_at_call 49; refine (C _).mono ?_; rintro e w4 ⟨rfl, hw⟩; replace hw := hw.symm; subst hw; clear C)
        go_ret
        exact ⟨by rw [hd]; rfl, rfl⟩
      · by_cases h2 : y < x
        · have e1 : Lib.compareInt (x : Int) (y : Int) = 1 := by unfold Lib.compareInt; rw [if_neg (by omega), if_pos (by omega)]
          rw [if_neg h1, if_pos h2] at hd
          rw [e1] at C
          clear hx hy h1 h2
          go_wp2_with (go_at_call 49; refine (C _).mono ?_; rintro e w4 ⟨rfl, hw⟩; replace hw := hw.symm; subst hw; clear C)
          go_ret
          exact ⟨by rw [hd]; rfl, rfl⟩
        · have e1 : Lib.compareInt (x : Int) (y : Int) = 0 := by unfold Lib.compareInt; rw [if_neg (by omega), if_neg (by omega)]
          rw [if_neg h1, if_neg h2] at hd
          rw [e1] at C
          have Hd : Hid (cmpL (s.drop (i + 1)) (t.drop (i + 1)) = z) := hd.symm
          clear hx hy h1 h2 hd
          go_wp2_with (go_at_call 49; refine (C _).mono ?_; rintro e w4 ⟨rfl, hw⟩; replace hw := hw.symm; subst hw; clear C)
          go_roundw
          case rel => exact ⟨i + 1, by go_num, by omega, Hd, trivial⟩
          case measure => simp [intOf]; omega
    · have hdi : decide ((i : Int) < (n : Int)) = false := by simp; omega
      obtain rfl : i = n := by omega
      have hz : z = 0 := by rw [← Hi.out]; exact HE.out
      go_wp2
      go_ret
      exact ⟨by rw [hz]; rfl, rfl⟩
end Go.Proofs.YtdeofjmgjhfkcabDoor

/- The walk of the document's Sorted. -/
namespace Go.Proofs.YtdeofjmgjhfkcabDoor
open Go.RowKit

theorem map_swap (A C : List Nat) (x y : Nat) : (((((A ++ y :: x :: C).map Int.ofNat).map (Value.int .i64)).set A.length (.int .i64 (x : Int))).set (A.length + 1) (.int .i64 (y : Int))) = ((A ++ x :: y :: C).map Int.ofNat).map (Value.int .i64) := by
  have := swap_list ((A.map Int.ofNat).map (Value.int .i64)) ((C.map Int.ofNat).map (Value.int .i64)) (.int .i64 (x : Int)) (.int .i64 (y : Int))
  simp only [List.length_map] at this
  simp only [List.map_append, List.map_cons]
  exact this
end Go.Proofs.YtdeofjmgjhfkcabDoor

namespace Go.Proofs.YtdeofjmgjhfkcabDoor
open Go.RowKit

/-- Not behind, both of three. -/
def Rq (a b : List Nat) : Prop := (¬ llt b a) ∧ a.length = 3 ∧ b.length = 3
theorem Rq.tr (a b c : List Nat) (h1 : Rq a b) (h2 : Rq b c) : Rq a c := ⟨nlt_trans (h1.2.1.trans h1.2.2.symm) (h2.2.1.trans h2.2.2.symm) h1.1 h2.1, h1.2.1, h2.2.2⟩
theorem drow_at {w : World} {u : Value} {L : List (List Nat)} (h : Rw w u (toZ L)) : ∃ a cap, u = .slice a L.length cap ∧ ∀ i, i < L.length → ∃ b off x, a = some ⟨b, off, none⟩ ∧ w.cell? ⟨b, off + i, none⟩ = some x ∧ Sl w x ((L.getD i []).map Int.ofNat) := by
  obtain ⟨a, cap, rfl, h⟩ := h
  refine ⟨a, cap, by simp [toZ], fun i hi => ?_⟩
  have e : (toZ L)[i]? = some ((L.getD i []).map Int.ofNat) := by simp [toZ, List.getD_eq_getElem?_getD, List.getElem?_eq_getElem hi]
  exact h i _ e
theorem or_len {w : World} {base n : Nat} {v : Value} {ls : List (List Nat)} {vals : List Value} (h : w.ownsRow base 29 1 v n vals) (_ : ls.length = n) : vals.length = n := by have := h.1; omega
/-- Two rows that stand side by side, exchanged. -/
theorem OR.swap {w : World} {base g n cap : Nat} {A C : List (List Nat)} {x y : List Nat} (h : OR w base (.slice (some ⟨g, 0, none⟩) n cap) (A ++ y :: x :: C)) (hn : (A ++ y :: x :: C).length = n) :
    ∃ xa xc ya yc, w.cell? ⟨g, A.length, none⟩ = some (.slice ya y.length yc) ∧ w.cell? ⟨g, A.length + 1, none⟩ = some (.slice xa x.length xc) ∧ Sl w (.slice ya y.length yc) (y.map Int.ofNat) ∧ Sl w (.slice xa x.length xc) (x.map Int.ofNat) ∧ w.frozen? ⟨g, A.length, none⟩ = false ∧ w.frozen? ⟨g, A.length + 1, none⟩ = false ∧ base ≤ g ∧
      ∀ W : World, W.heap = w.heap → OR ((W.setCell ⟨g, A.length, none⟩ (.slice xa x.length xc)).setCell ⟨g, A.length + 1, none⟩ (.slice ya y.length yc)) base (.slice (some ⟨g, 0, none⟩) n cap) (A ++ x :: y :: C) := by
  obtain ⟨vals, h1, h2⟩ := h
  rw [hn] at h1
  have hl : vals.length = n := by have := h1.1; omega
  have hn' : A.length + 1 < n := by rw [← hn]; simp
  obtain ⟨ux, ex⟩ : ∃ ux, vals[A.length + 1]? = some ux := ⟨_, List.getElem?_eq_getElem (by omega)⟩
  obtain ⟨uy, ey⟩ : ∃ uy, vals[A.length]? = some uy := ⟨_, List.getElem?_eq_getElem (by omega)⟩
  have ox := h2 _ ux x ex (by simp)
  have oy := h2 _ uy y ey (by simp)
  obtain ⟨xa, xc, rfl⟩ := own_form ox
  obtain ⟨ya, yc, rfl⟩ := own_form oy
  have hg : base ≤ g := by
    obtain ⟨_, ⟨e0, _⟩ | ⟨g', cap', cur, e0, hg, _⟩⟩ := h1
    · cases e0
    · cases e0; exact hg
  refine ⟨xa, xc, ya, yc, by rw [h1.cellAt _ (by omega)]; exact ey, by rw [h1.cellAt _ (by omega)]; exact ex, oy.sl, ox.sl, h1.frozenAt _, h1.frozenAt _, hg, fun W hW => ?_⟩
  have keep : ∀ {u l}, ORow w base u l → ORow ((W.setCell ⟨g, A.length, none⟩ (.slice xa x.length xc)).setCell ⟨g, A.length + 1, none⟩ (.slice ya y.length yc)) base u l := by
    rintro u l ⟨k0, hn | ⟨g', cap', cur, e1, hg', k1, k2⟩⟩
    · exact ⟨k0, .inl hn⟩
    · refine ⟨k0, .inr ⟨g', cap', cur, e1, hg', ?_, k2⟩⟩
      have hne : g' ≠ g := fun e => by
        subst e
        obtain ⟨_, ⟨e0, _⟩ | ⟨g2, cap2, cur2, e0, _, hg2, _⟩⟩ := h1
        · cases e0
        · cases e0; rw [hg2] at k1; simp at k1
      exact (heap_setCell_other _ ⟨g, A.length + 1, none⟩ g' _ hne).trans ((heap_setCell_other W ⟨g, A.length, none⟩ g' _ hne).trans ((congrArg (·[g']?) hW).trans k1))
  have h1W : W.ownsRow base 29 1 (.slice (some ⟨g, 0, none⟩) n cap) n vals := own_keep h1 fun b _ _ => congrArg (·[b]?) hW
  have h3 := ((h1W.stored A.length (.slice xa x.length xc)).1.stored (A.length + 1) (.slice ya y.length yc)).1
  have hv : (vals.set A.length (.slice xa x.length xc)).set (A.length + 1) (.slice ya y.length yc) = vals.take A.length ++ (.slice xa x.length xc) :: (.slice ya y.length yc) :: vals.drop (A.length + 2) := by
    have e1 : vals = vals.take A.length ++ (.slice ya y.length yc) :: (.slice xa x.length xc) :: vals.drop (A.length + 2) := by
      have a1 := List.drop_eq_getElem_cons (show A.length < vals.length by omega)
      have a2 := List.drop_eq_getElem_cons (show A.length + 1 < vals.length by omega)
      rw [List.getElem?_eq_getElem (by omega)] at ex ey
      rw [Option.some.inj ey] at a1
      rw [Option.some.inj ex] at a2
      conv => lhs; rw [← List.take_append_drop A.length vals, a1, a2]
    have e2 := swap_list (vals.take A.length) (vals.drop (A.length + 2)) (.slice xa x.length xc : Value) (.slice ya y.length yc)
    rw [List.length_take, Nat.min_eq_left (by omega), ← e1] at e2
    exact e2
  refine ⟨_, by rw [show (A ++ x :: y :: C).length = n by rw [← hn]; simp]; exact h3, fun i u l e1 e2 => ?_⟩
  by_cases hi : i = A.length
  · subst hi
    rw [List.getElem?_set_ne (by omega), List.getElem?_set_self (by omega)] at e1
    have e3 : (A ++ x :: y :: C)[A.length]? = some x := by simp
    rw [e3] at e2
    cases e1; cases e2
    exact keep ox
  · by_cases hj : i = A.length + 1
    · subst hj
      rw [List.getElem?_set_self (by rw [List.length_set]; omega)] at e1
      have e3 : (A ++ x :: y :: C)[A.length + 1]? = some y := by simp
      rw [e3] at e2
      cases e1; cases e2
      exact keep oy
    · rw [List.getElem?_set_ne (by omega), List.getElem?_set_ne (by omega)] at e1
      refine keep (h2 i u l e1 ?_)
      rw [← e2]
      by_cases hk : i < A.length
      · rw [List.getElem?_append_left hk, List.getElem?_append_left hk]
      · rw [List.getElem?_append_right (by omega), List.getElem?_append_right (by omega)]
        obtain ⟨m, hm⟩ : ∃ m, i - A.length = m + 2 := ⟨i - A.length - 2, by omega⟩
        rw [hm]; rfl
end Go.Proofs.YtdeofjmgjhfkcabDoor
