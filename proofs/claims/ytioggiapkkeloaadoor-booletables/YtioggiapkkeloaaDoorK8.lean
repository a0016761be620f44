/- The walk of Back. -/
import Derived.Test.YtioggiapkkeloaaDoorK5
import Derived.Test.YtioggiapkkeloaaDoorBoT
namespace Go.Proofs.YtioggiapkkeloaaDoor
open Go.RowKit

def bkQ (l : List Int) : List Int := if bF l = 0 then bkL (btN l.length) l else []
theorem bkQ_no {l : List Int} {u : Nat} (h : bF l = u) (hu : u ≠ 0) : bkQ l = [] := by unfold bkQ; rw [if_neg (by omega)]
set_option maxHeartbeats 4000000 in
theorem Back_shape (l : List Int) (v : Value) (w : World) (hv : Sl w v l) (hl : l.length ≤ maxLen) (h9 : btN l.length = 9) :
    Calls Tryd.prog 26 #[v] w fun e w' => e = .returned (.tuple #[.slice none 0 0, .int .i64 2]) ∧ w' = w := by
  obtain ⟨a, cap, rfl, _⟩ := hv
  have C := width_bad l.length cap a w hl h9
  generalize l.length = z at *
  clear h9
  go_enter Tryd.func26, Tryd.ntmps26
  go_wp2_with (go_at_call 27; refine C.mono ?_; rintro e w1 ⟨rfl, hw⟩; replace hw := hw.symm; subst hw; clear C)
  go_ret2
  exact ⟨rfl, rfl⟩
set_option maxHeartbeats 4000000 in
theorem Back_range (l : List Int) (v : Value) (w : World) (hT : Tab w) (hv : Sl w v l) (h8 : btN l.length ≤ 8) (hb : wiB (-(l.length : Int)) l.length l = false) :
    Calls Tryd.prog 26 #[v] w fun e w' => e = .returned (.tuple #[.slice none 0 0, .int .i64 1]) ∧ w' = w := by
  have hls := bt_some h8
  have hpw := pow256 h8
  rw [← hls] at hpw
  have D := within_any l (-(l.length : Int)) l.length v w hv (by omega) (by omega)
  rw [hb] at D
  obtain ⟨a, cap, rfl, _⟩ := hv
  have C := width_ok l.length cap a w hT h8
  generalize l.length = z at *
  generalize btN z = n at *
  clear hls hb hT
  go_enter Tryd.func26, Tryd.ntmps26
  go_wp2_with (first
    | (go_at_call 27; refine C.mono ?_; rintro e w1 ⟨rfl, hw⟩; replace hw := hw.symm; subst hw; clear C)
    | (go_at_call 28; refine D.mono ?_; rintro e w1 ⟨rfl, hw⟩; replace hw := hw.symm; subst hw; clear D))
  go_ret2
  exact ⟨rfl, rfl⟩
set_option maxRecDepth 100000 in
set_option maxHeartbeats 8000000 in
theorem Back_main (l : List Int) (v : Value) (w : World) (hT : Tab w) (hv : Sl w v l) (h8 : btN l.length ≤ 8) (hb : wiB (-(l.length : Int)) l.length l = true) :
    Calls Tryd.prog 26 #[v] w fun e w' => (∃ y, e = .returned (.tuple #[y, .int .i64 (bF l : Int)]) ∧ Sl w' y (bkQ l)) ∧ Below w.heap.size w w' := by
  have hls := bt_some h8
  have hpw := pow256 h8
  have D := within_any l (-(l.length : Int)) l.length v w hv (by rw [hls]; omega) (by rw [hls]; omega)
  rw [hb] at D
  have hwi := wi_is hb
  have HW : Hid ((∀ x, x < 2 ^ btN l.length → Wh (btN l.length) (tf l) x = (2 ^ btN l.length : Nat) ∨ Wh (btN l.length) (tf l) x = -((2 ^ btN l.length : Nat) : Int)) → bF l = 0) := fun h => bF_whole rfl h8 hwi h
  have HN : Hid (∀ x, x < 2 ^ btN l.length → ¬ (Wh (btN l.length) (tf l) x = (2 ^ btN l.length : Nat) ∨ Wh (btN l.length) (tf l) x = -((2 ^ btN l.length : Nat) : Int)) → bF l = 4) := fun x hx h => bF_none rfl h8 hwi hx h
  have HQ : Hid (bF l = 0 → bkQ l = (List.range (2 ^ btN l.length)).map (bkF (btN l.length) (tf l))) := fun h => by unfold bkQ; rw [if_pos h]; rfl
  have HQ4 : Hid (bF l = 4 → bkQ l = []) := fun h => bkQ_no h (by decide)
  have hF : ∀ x, -(256 : Int) ≤ tf l x ∧ tf l x ≤ 256 := fun x => by
    by_cases hx : x < l.length
    · have := hwi x hx
      unfold tf
      rw [hls] at this
      omega
    · have : tf l x = 0 := by unfold tf; rw [List.getD_eq_getElem?_getD, List.getElem?_eq_none (by omega)]; rfl
      omega
  have E : Hid (∀ W, Below w.heap.size w W → Calls Tryd.prog 34 #[v, .func (.func 35) #[] #[], .func (.func 36) #[] #[]] W fun e w' => (∃ g, W.heap.size ≤ g ∧ e = .returned (.slice (some ⟨g, 0, none⟩) (2 ^ btN l.length) (2 ^ btN l.length)) ∧ OwV 3 (fun b => .int .i64 b) w' g (2 ^ btN l.length) (Wh (btN l.length) (tf l))) ∧ Below W.heap.size W w') := fun W b =>
    (foldP_any (btN l.length) 35 256 l (tf l) v W h8 hls (hv.below b) (by decide) (by decide) hF e35 (fun x W _ => itself_any (tf l x) W)).mono fun e w' h => ⟨⟨_, Nat.le_refl _, h.1.1, h.1.2⟩, h.2⟩
  have HB : Hid (∀ x, bkF (btN l.length) (tf l) x = if Wh (btN l.length) (tf l) x < 0 then 1 else 0) := fun _ => rfl
  obtain ⟨a, cap, ev⟩ : ∃ a cap, v = .slice a l.length cap := by obtain ⟨a, c, e, _⟩ := hv; exact ⟨a, c, e⟩
  rw [ev] at D E ⊢
  have C := width_ok l.length cap a w hT h8
  obtain ⟨z, Hz⟩ : ∃ z : Nat, Hid (2 ^ btN l.length = z) := ⟨_, rfl⟩
  rw [Hz.out] at hpw HW HN HQ E hls
  rw [hls] at C D E ⊢
  rw [hls] at HW HN HQ HB
  obtain ⟨n, Hn⟩ : ∃ n : Nat, Hid (btN z = n) := ⟨_, rfl⟩
  rw [Hn.out] at C HW HN HQ HB E
  generalize Wh n (tf l) = S at *
  generalize bkF n (tf l) = B at *
  generalize bkQ l = Q at *
  generalize bF l = u at *
  have hmk := foldI_make z (by omega)
  clear hv ev hls hb hwi hF hT h8 Hz Hn
  obtain ⟨p1, p2⟩ := hpw
  go_enter Tryd.func26, Tryd.ntmps26
  go_wp2_with (first
    | (go_at_call 27; refine C.mono ?_; rintro e w1 ⟨rfl, hw⟩; replace hw := hw.symm; subst hw; clear C)
    | (go_at_call 28; refine D.mono ?_; rintro e w1 ⟨rfl, hw⟩; replace hw := hw.symm; subst hw; clear D; have E2 := E.out _ (balloc w (.cells (madeCells #[.int .i64 0] z) 3)); clear E)
    | (go_at_call 34; refine E2.mono ?_; rintro e w2 ⟨⟨g, hg, rfl, hO⟩, b2⟩; clear E2))
  have hg2 : w.heap.size < g := by simp at hg; omega
  have hB0 := Below.next (balloc w (.cells (madeCells #[.int .i64 0] z) 3)) b2
  have hT0 : OwV 3 (fun b => .int .i64 b) w2 w.heap.size z (fun x => if x < 0 then B x else 0) := OwV.below (OwV.made z w _ _ rfl) b2
  clear hg b2
  go_loopw [31] (fun iv wr => ∃ (j : Nat), iv = .int .i64 (j : Int) ∧ j ≤ z ∧ Hid (∀ x, x < j → S x = (z : Int) ∨ S x = -(z : Int)) ∧ OwV 3 (fun b => .int .i64 b) wr g z S ∧ OwV 3 (fun b => .int .i64 b) wr w.heap.size z (fun x => if x < j then B x else 0) ∧ Below w.heap.size w wr) (fun iv _ => (z - intOf iv).toNat)
  case atStart => exact ⟨0, rfl, by omega, (fun x h => by omega : ∀ x, x < 0 → _), hO, hT0, hB0⟩
  case round =>
    clear hO hT0 hB0
    obtain ⟨j, rfl, hj, HJ, hO, hT, hB⟩ := hrel
    by_cases hlt : j < z
    · have hdj : decide ((j : Int) < (z : Int)) = true := by simp; omega
      have hji : (j : Int) < z := by omega
      have cj := hO.cell j hlt
      have ct := hT.cell j hlt
      have hfz := hT.frozen j
      have hlo := hT.lt
      have HN2 := HN.out j hlt
      have hBj := HB.out j
      have HJ2 : Hid ((S j = (z : Int) ∨ S j = -(z : Int)) → ∀ x, x < j + 1 → S x = (z : Int) ∨ S x = -(z : Int)) := fun h x hx => by
        by_cases e : x = j
        · subst e; exact h
        · exact HJ.out x (by omega)
      have HT2 : Hid (∀ y, B j = y → OwV 3 (fun b => .int .i64 b) (wr.setCell ⟨w.heap.size, j, none⟩ (.int .i64 y)) w.heap.size z (fun x => if x < j + 1 then B x else 0)) := fun y hy => (hT.set j y).congr fun x hx => by
        unfold updV
        by_cases e : x = j
        · subst e; rw [if_pos rfl, if_pos (by omega)]; exact hy.symm
        · rw [if_neg e]
          dsimp only
          by_cases c : x < j
          · rw [if_pos c, if_pos (by omega)]
          · rw [if_neg c, if_neg (by omega)]
      have HO2 : Hid (∀ y : Int, OwV 3 (fun b => .int .i64 b) (wr.setCell ⟨w.heap.size, j, none⟩ (.int .i64 y)) g z S) := fun y => hO.other _ _ (by dsimp only; omega)
      have HB2 : Hid (∀ y : Int, Below w.heap.size w (wr.setCell ⟨w.heap.size, j, none⟩ (.int .i64 y))) := fun y => hB.setCell (Nat.le_refl _) _
      obtain ⟨s, Hs⟩ : ∃ s, Hid (S j = s) := ⟨_, rfl⟩
      rw [Hs.out] at cj HN2 hBj HJ2
      have hneg : IntKind.i64.wrap (-(z : Int)) = -(z : Int) := by rw [IntKind.wrap_i64]; omega
      clear HJ hT
      by_cases h1 : s = (z : Int)
      · have d1 : (s == (z : Int)) = true := by simp [h1]
        have HJ3 : Hid (∀ x, x < j + 1 → S x = (z : Int) ∨ S x = -(z : Int)) := HJ2.out (.inl h1)
        have HT3 : Hid (OwV 3 (fun b => .int .i64 b) (wr.setCell ⟨w.heap.size, j, none⟩ (.int .i64 0)) w.heap.size z (fun x => if x < j + 1 then B x else 0)) := HT2.out 0 (by rw [hBj, if_neg (by omega)])
        have HO3 : Hid (OwV 3 (fun b => .int .i64 b) (wr.setCell ⟨w.heap.size, j, none⟩ (.int .i64 0)) g z S) := HO2.out 0
        have HB3 : Hid (Below w.heap.size w (wr.setCell ⟨w.heap.size, j, none⟩ (.int .i64 0))) := HB2.out 0
        clear h1 HN2 HJ2 HT2 HO2 HB2 hBj hO
        go_wp2
        go_roundw
        case rel => exact ⟨j + 1, by go_num, by omega, HJ3, HO3.out, HT3.out, HB3.out⟩
        case measure => simp [intOf]; omega
      · have d1 : (s == (z : Int)) = false := by simp [h1]
        by_cases h2 : s = -(z : Int)
        · have d2 : (s == -(z : Int)) = true := by simp [h2]
          have HJ3 : Hid (∀ x, x < j + 1 → S x = (z : Int) ∨ S x = -(z : Int)) := HJ2.out (.inr h2)
          have HT3 : Hid (OwV 3 (fun b => .int .i64 b) (wr.setCell ⟨w.heap.size, j, none⟩ (.int .i64 1)) w.heap.size z (fun x => if x < j + 1 then B x else 0)) := HT2.out 1 (by rw [hBj, if_pos (by omega)])
          have HO3 : Hid (OwV 3 (fun b => .int .i64 b) (wr.setCell ⟨w.heap.size, j, none⟩ (.int .i64 1)) g z S) := HO2.out 1
          have HB3 : Hid (Below w.heap.size w (wr.setCell ⟨w.heap.size, j, none⟩ (.int .i64 1))) := HB2.out 1
          clear h1 h2 HN2 HJ2 HT2 HO2 HB2 hBj hO
          go_wp2
          go_roundw
          case rel => exact ⟨j + 1, by go_num, by omega, HJ3, HO3.out, HT3.out, HB3.out⟩
          case measure => simp [intOf]; omega
        · have d2 : (s == -(z : Int)) = false := by simp [h2]
          obtain rfl : u = 4 := HN2 (fun h => by rcases h with h | h; exact h1 h; exact h2 h)
          obtain rfl := HQ4.out rfl
          clear h1 h2 HN2 HJ2 HT2 HO2 HB2 hBj hO
          go_wp2
          go_ret2
          exact ⟨⟨_, rfl, Sl.nil _⟩, hB⟩
    · have hdj : decide ((j : Int) < (z : Int)) = false := by simp; omega
      obtain rfl : u = 0 := HW.out fun x hx => HJ.out x (by omega)
      have hsl := (hT.congr (f' := B) fun x hx => if_pos (by omega)).sl z
      rw [← HQ.out rfl] at hsl
      clear hT hO
      go_wp2
      go_ret2
      exact ⟨⟨_, rfl, hsl⟩, hB⟩
theorem Back_any (l : List Int) (v : Value) (w : World) (hT : Tab w) (hv : Sl w v l) (hl : l.length ≤ maxLen) :
    Calls Tryd.prog 26 #[v] w fun e w' => (∃ y, e = .returned (.tuple #[y, .int .i64 (bF l : Int)]) ∧ Sl w' y (bkQ l)) ∧ Below w.heap.size w w' := by
  by_cases h9 : btN l.length = 9
  · refine (Back_shape l v w hv hl h9).mono ?_
    rintro e w' ⟨rfl, rfl⟩
    rw [bkQ_no (bF_shape h9) (by decide), bF_shape h9]
    exact ⟨⟨_, rfl, Sl.nil _⟩, Below.refl _ _⟩
  · have h8 : btN l.length ≤ 8 := by have := bt_le l.length; omega
    cases hb : wiB (-(l.length : Int)) l.length l with
    | true => exact Back_main l v w hT hv h8 hb
    | false =>
      refine (Back_range l v w hT hv h8 hb).mono ?_
      rintro e w' ⟨rfl, rfl⟩
      have : bF l = 1 := by
        apply Classical.byContradiction
        intro c
        have : wiB (-(l.length : Int)) l.length l = true := wi_yes fun j hj => by
          apply Classical.byContradiction
          intro k
          exact c (bF_range h8 hj k)
        rw [hb] at this
        cases this
      rw [bkQ_no this (by decide), this]
      exact ⟨⟨_, rfl, Sl.nil _⟩, Below.refl _ _⟩
end Go.Proofs.YtioggiapkkeloaaDoor
