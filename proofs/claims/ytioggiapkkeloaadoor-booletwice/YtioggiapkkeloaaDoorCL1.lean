/- What the faces are to tell; the laws BooleTables, BooleAsks, BooleSiegenthaler over that. -/
import Derived.Test.YtioggiapkkeloaaDoorK1
namespace Go.Proofs.YtioggiapkkeloaaDoor
open Go.RowKit

def bN (l : List Int) : Nat := btN l.length
def ckN (l : List Int) : Nat := if tF l = 0 then bN l else 0
def anR (l : List Int) : List Int := if tF l = 0 then anL (bN l) l else []
def dgR (l : List Int) : Nat := if tF l = 0 then dgN (bN l) l else 0
def spR (l : List Int) : List Int := if tF l = 0 then spL (bN l) l else []
def bnR (l : List Int) : Bool := if tF l = 0 then flB (2 ^ bN l) (spF (bN l) l) else false
def imR (l : List Int) : Nat := if tF l = 0 then imN (bN l) (spF (bN l) l) (bN l) else 0
def FaR (l : List Int) (f : Nat) : Prop := (tF l = 0 ∧ FarIs (2 ^ bN l) (spF (bN l) l) f) ∨ (tF l ≠ 0 ∧ f = 0)
def bkR (l : List Int) : List Int := if bF l = 0 then bkL (bN l) l else []
def FCheck : Prop := ∀ (l : List Int) (v : Value) (W : World), Tab W → Sl W v l → l.length ≤ maxLen → Calls Tryd.prog 10 #[v] W fun e w' => e = .returned (.tuple #[.int .i64 (ckN l : Int), .int .i64 (tF l : Int)]) ∧ Below W.heap.size W w'
def FAnf : Prop := ∀ (l : List Int) (v : Value) (W : World), Tab W → Sl W v l → l.length ≤ maxLen → Calls Tryd.prog 11 #[v] W fun e w' => (∃ y, e = .returned (.tuple #[y, .int .i64 (tF l : Int)]) ∧ Sl w' y (anR l)) ∧ Below W.heap.size W w'
def FDegree : Prop := ∀ (l : List Int) (v : Value) (W : World), Tab W → Sl W v l → l.length ≤ maxLen → Calls Tryd.prog 12 #[v] W fun e w' => e = .returned (.tuple #[.int .i64 (dgR l : Int), .int .i64 (tF l : Int)]) ∧ Below W.heap.size W w'
def FSpectrum : Prop := ∀ (l : List Int) (v : Value) (W : World), Tab W → Sl W v l → l.length ≤ maxLen → Calls Tryd.prog 13 #[v] W fun e w' => (∃ y, e = .returned (.tuple #[y, .int .i64 (tF l : Int)]) ∧ Sl w' y (spR l)) ∧ Below W.heap.size W w'
def FFar : Prop := ∀ (l : List Int) (v : Value) (W : World), Tab W → Sl W v l → l.length ≤ maxLen → Calls Tryd.prog 19 #[v] W fun e w' => (∃ f : Nat, e = .returned (.tuple #[.int .i64 (f : Int), .int .i64 (tF l : Int)]) ∧ FaR l f) ∧ Below W.heap.size W w'
def FBent : Prop := ∀ (l : List Int) (v : Value) (W : World), Tab W → Sl W v l → l.length ≤ maxLen → Calls Tryd.prog 20 #[v] W fun e w' => e = .returned (.tuple #[.bool (bnR l), .int .i64 (tF l : Int)]) ∧ Below W.heap.size W w'
def FImmune : Prop := ∀ (l : List Int) (v : Value) (W : World), Tab W → Sl W v l → l.length ≤ maxLen → Calls Tryd.prog 21 #[v] W fun e w' => e = .returned (.tuple #[.int .i64 (imR l : Int), .int .i64 (tF l : Int)]) ∧ Below W.heap.size W w'
def FBack : Prop := ∀ (l : List Int) (v : Value) (W : World), Tab W → Sl W v l → l.length ≤ maxLen → Calls Tryd.prog 26 #[v] W fun e w' => (∃ y, e = .returned (.tuple #[y, .int .i64 (bF l : Int)]) ∧ Sl w' y (bkR l)) ∧ Below W.heap.size W w'
theorem sl_len {w : World} {v : Value} {l : List Int} (h : Sl w v l) : ∃ a c, v = .slice a l.length c := by
  obtain ⟨a, c, e, _⟩ := h
  exact ⟨a, c, e⟩
theorem ints_same (l : List Int) (u v : Value) (w : World) (hu : Sl w u l) (hv : Sl w v l) (hl : l.length ≤ maxLen) :
    Calls Tryd.prog 18 #[u, v] w fun e w' => e = .returned (.bool true) ∧ Below w.heap.size w w' := by
  refine (ints_any l l u v w hu hv hl hl).mono ?_
  rintro e w' ⟨b, rfl, hb, k⟩
  obtain rfl : b = true := hb.2 rfl
  exact ⟨rfl, k⟩
set_option maxRecDepth 100000 in
set_option maxHeartbeats 8000000 in
theorem Tables_bad (hC : FCheck) (hA : FAnf) (hD : FDegree) (hS : FSpectrum) (l : List Int) (v : Value) (w : World) (hT : Tab w) (hv : Sl w v l) (hl : l.length ≤ maxLen) (hz : tF l ≠ 0) :
    Calls Tryd.prog 3 #[v] w fun e w' => e = .returned (.bool true) ∧ Below w.heap.size w w' := by
  have C0 := TableFault_any l v w hv hl
  have C1 := hC l v w hT hv hl
  have C2 : Hid (∀ W, Below w.heap.size w W → Calls Tryd.prog 11 #[v] W fun e w' => (∃ y, e = .returned (.tuple #[y, .int .i64 (tF l : Int)]) ∧ Sl w' y (anR l)) ∧ Below W.heap.size W w') := fun W b => hA l v W (hT.next b) (hv.below b) hl
  have C3 : Hid (∀ W, Below w.heap.size w W → Calls Tryd.prog 12 #[v] W fun e w' => e = .returned (.tuple #[.int .i64 (dgR l : Int), .int .i64 (tF l : Int)]) ∧ Below W.heap.size W w') := fun W b => hD l v W (hT.next b) (hv.below b) hl
  have C4 : Hid (∀ W, Below w.heap.size w W → Calls Tryd.prog 13 #[v] W fun e w' => (∃ y, e = .returned (.tuple #[y, .int .i64 (tF l : Int)]) ∧ Sl w' y (spR l)) ∧ Below W.heap.size W w') := fun W b => hS l v W (hT.next b) (hv.below b) hl
  have e1 : ckN l = 0 := by unfold ckN; rw [if_neg hz]
  have e2 : anR l = [] := by unfold anR; rw [if_neg hz]
  have e3 : dgR l = 0 := by unfold dgR; rw [if_neg hz]
  have e4 : spR l = [] := by unfold spR; rw [if_neg hz]
  rw [e1] at C1
  rw [e2] at C2
  rw [e3] at C3
  rw [e4] at C4
  obtain ⟨u, Hu⟩ : ∃ u, Hid (tF l = u) := ⟨_, rfl⟩
  rw [Hu.out] at C0 C1 C2 C3 C4 hz
  have hne : ((u : Int) != 0) = true := by simp; omega
  have huu : ((u : Int) != (u : Int)) = false := by simp
  obtain ⟨a, c, rfl⟩ := sl_len hv
  generalize l.length = z at *
  clear hv hz e1 e2 e3 e4
  go_enter Tryd.func3, Tryd.ntmps3
  go_wp2_with (first
    | (go_at_call 9; refine C0.mono ?_; rintro e w0 ⟨rfl, hw⟩; replace hw := hw.symm; subst hw; clear C0)
    | (go_at_call 10; refine C1.mono ?_; rintro e w1 ⟨rfl, b1⟩; clear C1; have D2 := C2.out _ b1; clear C2)
    | (go_at_call 11; refine D2.mono ?_; rintro e w2 ⟨⟨y, rfl, hy⟩, b2⟩; clear D2; obtain ⟨ya, yc, ey⟩ := sl_len hy; rw [List.length_nil] at ey; subst ey; have B2 := Below.next b1 b2; have D3 := C3.out _ B2; clear C3)
    | (go_at_call 12; refine D3.mono ?_; rintro e w3 ⟨rfl, b3⟩; clear D3; have B3 := Below.next B2 b3; have D4 := C4.out _ B3; clear C4)
    | (go_at_call 13; refine D4.mono ?_; rintro e w4 ⟨⟨x, rfl, hx⟩, b4⟩; clear D4; obtain ⟨xa, xc, ex⟩ := sl_len hx; rw [List.length_nil] at ex; subst ex))
  go_ret
  exact ⟨rfl, Below.next B3 b4⟩
set_option maxRecDepth 100000 in
set_option maxHeartbeats 8000000 in
theorem Tables_ok (hC : FCheck) (hA : FAnf) (hD : FDegree) (hS : FSpectrum) (l : List Int) (v : Value) (w : World) (hT : Tab w) (hv : Sl w v l) (hl : l.length ≤ maxLen) (hz : tF l = 0) :
    Calls Tryd.prog 3 #[v] w fun e w' => e = .returned (.bool true) ∧ Below w.heap.size w w' := by
  have G := tF_ok hz
  have C0 := TableFault_any l v w hv hl
  have C1 := hC l v w hT hv hl
  have C2 : Hid (∀ W, Below w.heap.size w W → Calls Tryd.prog 11 #[v] W fun e w' => (∃ y, e = .returned (.tuple #[y, .int .i64 (tF l : Int)]) ∧ Sl w' y (anR l)) ∧ Below W.heap.size W w') := fun W b => hA l v W (hT.next b) (hv.below b) hl
  have C3 : Hid (∀ W, Below w.heap.size w W → Calls Tryd.prog 12 #[v] W fun e w' => e = .returned (.tuple #[.int .i64 (dgR l : Int), .int .i64 (tF l : Int)]) ∧ Below W.heap.size W w') := fun W b => hD l v W (hT.next b) (hv.below b) hl
  have C4 : Hid (∀ W, Below w.heap.size w W → Calls Tryd.prog 13 #[v] W fun e w' => (∃ y, e = .returned (.tuple #[y, .int .i64 (tF l : Int)]) ∧ Sl w' y (spR l)) ∧ Below W.heap.size W w') := fun W b => hS l v W (hT.next b) (hv.below b) hl
  have C5 : Hid (∀ W, Below w.heap.size w W → Calls Tryd.prog 15 #[v] W fun e w' => (∃ y, e = .returned y ∧ Sl w' y (anR l)) ∧ Below W.heap.size W w') := fun W b => (AnfOf_any (bN l) l v W (hv.below b) G).mono fun _ _ ⟨⟨y, he, hW⟩, hb⟩ => ⟨⟨y, he, by
    unfold anR
    rw [if_pos hz]
    exact row_sl hW (by simp)⟩, hb⟩
  have C6 : Hid (∀ y W, Sl W y (anR l) → Calls Tryd.prog 16 #[y] W fun e w' => e = .returned (.int .i64 (dgR l : Int)) ∧ w' = W) := fun y W h => by
    have e : anR l = anL (bN l) l := by unfold anR; rw [if_pos hz]
    rw [e] at h
    have k := DegreeOf_any (bN l) (anL (bN l) l) y W h G.le (by simp)
    have e2 : dgT (tf (anL (bN l) l)) (2 ^ bN l) = dgR l := by
      unfold dgR dgN
      rw [if_pos hz]
      exact dgT_congr fun u hu => anL_at l hu
    rw [e2] at k
    exact k
  have C7 : Hid (∀ W, Below w.heap.size w W → Calls Tryd.prog 17 #[v] W fun e w' => (∃ y, e = .returned y ∧ Sl w' y (spR l)) ∧ Below W.heap.size W w') := fun W b => (SpectrumOf_any (bN l) l v W (hv.below b) G).mono fun _ _ ⟨⟨y, he, hW⟩, hb⟩ => ⟨⟨y, he, by
    unfold spR
    rw [if_pos hz]
    exact row_sl hW (by simp)⟩, hb⟩
  obtain ⟨p1, p2⟩ := pow256 G.le
  have la : (anR l).length ≤ maxLen := by unfold anR; rw [if_pos hz, anL_len]; unfold maxLen; have : 2 ^ bN l ≤ 256 := p2; omega
  have ls : (spR l).length ≤ maxLen := by unfold spR; rw [if_pos hz, spL_len]; unfold maxLen; have : 2 ^ bN l ≤ 256 := p2; omega
  have CB := fun W => BitsOf_any l.length W hl
  have eB : btZ l.length = (ckN l : Int) := by
    unfold ckN bN
    rw [if_pos hz]
    exact btZ_is G.le G.len.symm
  rw [eB] at CB
  have E1 : Hid (∀ y y' W, Sl W y (anR l) → Sl W y' (anR l) → Calls Tryd.prog 18 #[y, y'] W fun e w' => e = .returned (.bool true) ∧ Below W.heap.size W w') := fun y y' W h h' => ints_same _ y y' W h h' la
  have E2 : Hid (∀ y y' W, Sl W y (spR l) → Sl W y' (spR l) → Calls Tryd.prog 18 #[y, y'] W fun e w' => e = .returned (.bool true) ∧ Below W.heap.size W w') := fun y y' W h h' => ints_same _ y y' W h h' ls
  rw [hz] at C0 C1 C2 C3 C4
  generalize anR l = A at *
  generalize spR l = S at *
  generalize ckN l = k at *
  generalize dgR l = d at *
  have hkk : ((k : Int) == (k : Int)) = true := by simp
  have hdd : ((d : Int) == (d : Int)) = true := by simp
  obtain ⟨a, c, rfl⟩ := sl_len hv
  generalize l.length = z at *
  obtain ⟨qa, Hqa⟩ : ∃ q, Hid (A.length = q) := ⟨_, rfl⟩
  obtain ⟨qs, Hqs⟩ : ∃ q, Hid (S.length = q) := ⟨_, rfl⟩
  clear hv hz G la ls eB p1 p2
  go_enter Tryd.func3, Tryd.ntmps3
  go_wp2_with (first
    | (go_at_call 9; refine C0.mono ?_; rintro e w0 ⟨rfl, hw⟩; replace hw := hw.symm; subst hw; clear C0)
    | (go_at_call 10; refine C1.mono ?_; rintro e w1 ⟨rfl, b1⟩; clear C1; have D2 := C2.out _ b1; clear C2)
    | (go_at_call 11; refine D2.mono ?_; rintro e w2 ⟨⟨y, rfl, hy⟩, b2⟩; clear D2; obtain ⟨ya, yc, ey⟩ := sl_len hy; rw [Hqa.out] at ey; subst ey; have B2 := Below.next b1 b2; have D3 := C3.out _ B2; clear C3)
    | (go_at_call 12; refine D3.mono ?_; rintro e w3 ⟨rfl, b3⟩; clear D3; have B3 := Below.next B2 b3; have D4 := C4.out _ B3; clear C4)
    | (go_at_call 13; refine D4.mono ?_; rintro e w4 ⟨⟨x, rfl, hx⟩, b4⟩; clear D4; obtain ⟨xa, xc, ex⟩ := sl_len hx; rw [Hqs.out] at ex; subst ex; have B4 := Below.next B3 b4)
    | (go_at_call 14; refine (CB _).mono ?_; rintro e w5 ⟨rfl, hw⟩; replace hw := hw.symm; subst hw; clear CB; have D5 := C5.out _ B4; clear C5)
    | (go_at_call 15; refine D5.mono ?_; rintro e w6 ⟨⟨y', rfl, hy'⟩, b6⟩; clear D5; obtain ⟨za, zc, ez⟩ := sl_len hy'; rw [Hqa.out] at ez; subst ez; have B6 := Below.next B4 b6; have D6 := C6.out _ _ hy'; clear C6)
    | (go_at_call 16; refine D6.mono ?_; rintro e w7 ⟨rfl, hw⟩; replace hw := hw.symm; subst hw; clear D6; have D7 := C7.out _ B6; clear C7)
    | (go_at_call 17; refine D7.mono ?_; rintro e w8 ⟨⟨x', rfl, hx'⟩, b8⟩; clear D7; obtain ⟨va, vc, ev⟩ := sl_len hx'; rw [Hqs.out] at ev; subst ev; have B8 := Below.next B6 b8; have D8 := E1.out _ _ _ (hy.below (Below.next (Below.next b3 b4) (Below.next b6 b8))) (hy'.below b8); clear E1)
    | (go_at_call 18; refine D8.mono ?_; rintro e w9 ⟨rfl, b9⟩; clear D8; have D9 := E2.out _ _ _ (hx.below (Below.next (Below.next b6 b8) b9)) (hx'.below b9); clear E2)
    | (go_at_call 18; refine D9.mono ?_; rintro e w10 ⟨rfl, b10⟩; clear D9))
  go_ret
  exact ⟨rfl, Below.next (Below.next B8 b9) b10⟩
theorem Tables_law (hC : FCheck) (hA : FAnf) (hD : FDegree) (hS : FSpectrum) (l : List Int) (v : Value) (w : World) (hT : Tab w) (hv : Sl w v l) (hl : l.length ≤ maxLen) :
    Calls Tryd.prog 3 #[v] w fun e w' => e = .returned (.bool true) ∧ Below w.heap.size w w' := by
  by_cases hz : tF l = 0
  · exact Tables_ok hC hA hD hS l v w hT hv hl hz
  · exact Tables_bad hC hA hD hS l v w hT hv hl hz
end Go.Proofs.YtioggiapkkeloaaDoor
