/- The law BooleBacks over what Back is to tell. -/
import Derived.Test.YtioggiapkkeloabDoorK8
namespace Go.Proofs.YtioggiapkkeloabDoor
open Go.RowKit

def bN (l : List Int) : Nat := btN l.length
def bkR (l : List Int) : List Int := if bF l = 0 then bkL (bN l) l else []
def FBack : Prop := ∀ (l : List Int) (v : Value) (W : World), Tab W → Sl W v l → l.length ≤ maxLen → Calls Tryd.prog 4 #[v] W fun e w' => (∃ y, e = .returned (.tuple #[y, .int .i64 (bF l : Int)]) ∧ Sl w' y (bkR l)) ∧ Below W.heap.size W w'
theorem sl_len {w : World} {v : Value} {l : List Int} (h : Sl w v l) : ∃ a c, v = .slice a l.length c := by
  obtain ⟨a, c, e, _⟩ := h
  exact ⟨a, c, e⟩
theorem ints_same (l : List Int) (u v : Value) (w : World) (hu : Sl w u l) (hv : Sl w v l) (hl : l.length ≤ maxLen) :
    Calls Tryd.prog 6 #[u, v] w fun e w' => e = .returned (.bool true) ∧ Below w.heap.size w w' := by
  refine (ints_any l l u v w hu hv hl hl).mono ?_
  rintro e w' ⟨b, rfl, hb, k⟩
  obtain rfl : b = true := hb.2 rfl
  exact ⟨rfl, k⟩
theorem sl_none (w : World) : Sl w (.slice none 0 0) [] := ⟨none, 0, rfl, fun j hj => absurd hj (by simp)⟩
theorem BackOf_any (l : List Int) (v : Value) (w : World) (hv : Sl w v l) (hl : l.length ≤ maxLen) :
    Calls Tryd.prog 5 #[v] w fun e w' => (∃ y, e = .returned (.tuple #[y, .int .i64 (bF l : Int)]) ∧ Sl w' y (bkR l)) ∧ Below w.heap.size w w' := by
  by_cases h9 : btN l.length = 9
  · refine (BackOf_shape l v w hv hl h9).mono ?_
    rintro e w' ⟨rfl, b⟩
    have e1 : bF l = 2 := by unfold bF; rw [if_pos h9]
    have e2 : bkR l = [] := by unfold bkR; rw [if_neg (by omega)]
    rw [e1, e2]
    exact ⟨⟨_, rfl, sl_none w'⟩, b⟩
  · have h8 : btN l.length ≤ 8 := by have := bt_le l.length; omega
    have hlen := bt_some h8
    refine (BackOf_main (bN l) l v w hv h8 hlen).mono ?_
    rintro e w' ⟨⟨y, rfl, hy⟩, b⟩
    refine ⟨⟨y, rfl, ?_⟩, b⟩
    unfold bkR
    rcases hy with ⟨h0, hW⟩ | ⟨h0, rfl⟩
    · rw [if_pos h0]
      exact row_sl hW (by simp [bkL])
    · rw [if_neg h0]
      exact sl_none w'
theorem bk_len (l : List Int) : (bkR l).length ≤ maxLen := by
  unfold bkR
  split
  · rename_i h
    have h8 : btN l.length ≤ 8 := by
      rcases Nat.lt_or_ge 8 (btN l.length) with k | k
      · have : btN l.length = 9 := by have := bt_le l.length; omega
        unfold bF at h
        rw [if_pos this] at h
        omega
      · exact k
    have : (bkL (bN l) l).length = 2 ^ bN l := by simp [bkL]
    rw [this]
    have p := (pow256 (n := bN l) h8).2
    unfold maxLen
    omega
  · simp
set_option maxRecDepth 100000 in
set_option maxHeartbeats 8000000 in
theorem Backs_law (hB : FBack) (l : List Int) (v : Value) (w : World) (hT : Tab w) (hv : Sl w v l) (hl : l.length ≤ maxLen) :
    Calls Tryd.prog 3 #[v] w fun e w' => e = .returned (.bool true) ∧ Below w.heap.size w w' := by
  have C1 := hB l v w hT hv hl
  have C2 : Hid (∀ W, Below w.heap.size w W → Calls Tryd.prog 5 #[v] W fun e w' => (∃ y, e = .returned (.tuple #[y, .int .i64 (bF l : Int)]) ∧ Sl w' y (bkR l)) ∧ Below W.heap.size W w') := fun W b => BackOf_any l v W (hv.below b) hl
  have hq := bk_len l
  have C3 : Hid (∀ y y' W, Sl W y (bkR l) → Sl W y' (bkR l) → Calls Tryd.prog 6 #[y, y'] W fun e w' => e = .returned (.bool true) ∧ Below W.heap.size W w') := fun y y' W h h' => ints_same _ y y' W h h' hq
  generalize bkR l = A at *
  generalize bF l = u at *
  have huu : ((u : Int) == (u : Int)) = true := by simp
  obtain ⟨qa, Hqa⟩ : ∃ q, Hid (A.length = q) := ⟨_, rfl⟩
  obtain ⟨a, c, rfl⟩ := sl_len hv
  clear hv hq
  go_enter Tryd.func3, Tryd.ntmps3
  go_wp2_with (first
    | (go_at_call 4; refine C1.mono ?_; rintro e w1 ⟨⟨y, rfl, hy⟩, b1⟩; clear C1; obtain ⟨ya, yc, ey⟩ := sl_len hy; rw [Hqa.out] at ey; subst ey; have D2 := C2.out _ b1; clear C2)
    | (go_at_call 5; refine D2.mono ?_; rintro e w2 ⟨⟨x, rfl, hx⟩, b2⟩; clear D2; obtain ⟨xa, xc, ex⟩ := sl_len hx; rw [Hqa.out] at ex; subst ex; have B2 := Below.next b1 b2; have D3 := C3.out _ _ _ (hy.below b2) hx; clear C3)
    | (go_at_call 6; refine D3.mono ?_; rintro e w3 ⟨rfl, b3⟩; clear D3))
  go_ret
  exact ⟨rfl, Below.next B2 b3⟩
theorem Back_face : FBack := fun l v w hT hv hl => Back_any l v w hT hv hl
end Go.Proofs.YtioggiapkkeloabDoor
