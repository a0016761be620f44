/- The law BooleAsks over what the faces tell. -/
import Derived.Test.YtioggiapkkeloaaDoorCL1
namespace Go.Proofs.YtioggiapkkeloaaDoor
open Go.RowKit

theorem FaR.one {l : List Int} {f g : Nat} (h : FaR l f) (h' : FaR l g) : f = g := by
  rcases h with ⟨a, h⟩ | ⟨a, h⟩ <;> rcases h' with ⟨b, h'⟩ | ⟨b, h'⟩
  · exact h.one h'
  · exact absurd a b
  · exact absurd b a
  · rw [h, h']
theorem flB_congr {N : Nat} {S T : Nat → Int} (h1 : 1 ≤ N) (h : ∀ a, a < N → S a = T a) : flB N S = flB N T := by
  have k : flB N S = true ↔ flB N T = true := by
    rw [flB_iff, flB_iff]
    constructor
    · intro g a ha
      have := g a ha
      rwa [h a ha, h 0 h1] at this
    · intro g a ha
      have := g a ha
      rwa [← h a ha, ← h 0 h1] at this
  cases e : flB N S <;> cases e' : flB N T <;> simp_all
theorem imB_congr {n m : Nat} {S T : Nat → Int} (h : ∀ a, a < 2 ^ n → S a = T a) : imB n S m = imB n T m := by
  have k : imB n S m = true ↔ imB n T m = true := by
    rw [imB_iff, imB_iff]
    constructor
    · intro g a ha
      rw [← h a ha]
      exact g a ha
    · intro g a ha
      rw [h a ha]
      exact g a ha
  cases e : imB n S m <;> cases e' : imB n T m <;> simp_all
theorem imN_congr {n : Nat} {S T : Nat → Int} (h : ∀ a, a < 2 ^ n → S a = T a) : ∀ m, imN n S m = imN n T m
  | 0 => rfl
  | m + 1 => by
    unfold imN
    rw [imB_congr h, imN_congr h m]
set_option maxRecDepth 100000 in
set_option maxHeartbeats 8000000 in
theorem Asks_bad (hF : FFar) (hB : FBent) (hI : FImmune) (l : List Int) (v : Value) (w : World) (hT : Tab w) (hv : Sl w v l) (hl : l.length ≤ maxLen) (hz : tF l ≠ 0) :
    Calls Tryd.prog 4 #[v] w fun e w' => e = .returned (.bool true) ∧ Below w.heap.size w w' := by
  have C0 := TableFault_any l v w hv hl
  have C1 := hF l v w hT hv hl
  have C2 : Hid (∀ W, Below w.heap.size w W → Calls Tryd.prog 20 #[v] W fun e w' => e = .returned (.tuple #[.bool (bnR l), .int .i64 (tF l : Int)]) ∧ Below W.heap.size W w') := fun W b => hB l v W (hT.next b) (hv.below b) hl
  have C3 : Hid (∀ W, Below w.heap.size w W → Calls Tryd.prog 21 #[v] W fun e w' => e = .returned (.tuple #[.int .i64 (imR l : Int), .int .i64 (tF l : Int)]) ∧ Below W.heap.size W w') := fun W b => hI l v W (hT.next b) (hv.below b) hl
  have e1 : Hid (∀ f, FaR l f → f = 0) := fun f h => by
    rcases h with h | h
    · exact absurd h.1 hz
    · exact h.2
  have e2 : bnR l = false := by unfold bnR; rw [if_neg hz]
  have e3 : imR l = 0 := by unfold imR; rw [if_neg hz]
  rw [e2] at C2
  rw [e3] at C3
  obtain ⟨u, Hu⟩ : ∃ u, Hid (tF l = u) := ⟨_, rfl⟩
  rw [Hu.out] at C0 C1 C2 C3 hz
  have hne : ((u : Int) != 0) = true := by simp; omega
  have huu : ((u : Int) != (u : Int)) = false := by simp
  obtain ⟨a, c, rfl⟩ := sl_len hv
  clear hv hz e2 e3
  go_enter Tryd.func4, Tryd.ntmps4
  go_wp2_with (first
    | (go_at_call 9; refine C0.mono ?_; rintro e w0 ⟨rfl, hw⟩; replace hw := hw.symm; subst hw; clear C0)
    | (go_at_call 19; refine C1.mono ?_; rintro e w1 ⟨⟨f, rfl, hf⟩, b1⟩; clear C1; replace hf := e1.out f hf; subst hf; have D2 := C2.out _ b1; clear C2)
    | (go_at_call 20; refine D2.mono ?_; rintro e w2 ⟨rfl, b2⟩; clear D2; have B2 := Below.next b1 b2; have D3 := C3.out _ B2; clear C3)
    | (go_at_call 21; refine D3.mono ?_; rintro e w3 ⟨rfl, b3⟩; clear D3))
  go_ret
  exact ⟨rfl, Below.next B2 b3⟩
set_option maxRecDepth 100000 in
set_option maxHeartbeats 8000000 in
theorem Asks_ok (hF : FFar) (hB : FBent) (hI : FImmune) (l : List Int) (v : Value) (w : World) (hT : Tab w) (hv : Sl w v l) (hl : l.length ≤ maxLen) (hz : tF l = 0) :
    Calls Tryd.prog 4 #[v] w fun e w' => e = .returned (.bool true) ∧ Below w.heap.size w w' := by
  have G : GoodT (bN l) l := tF_ok hz
  obtain ⟨p1, p2⟩ := pow256 G.le
  have C0 := TableFault_any l v w hv hl
  have C1 := hF l v w hT hv hl
  have C2 : Hid (∀ W, Below w.heap.size w W → Calls Tryd.prog 20 #[v] W fun e w' => e = .returned (.tuple #[.bool (bnR l), .int .i64 (tF l : Int)]) ∧ Below W.heap.size W w') := fun W b => hB l v W (hT.next b) (hv.below b) hl
  have C3 : Hid (∀ W, Below w.heap.size w W → Calls Tryd.prog 21 #[v] W fun e w' => e = .returned (.tuple #[.int .i64 (imR l : Int), .int .i64 (tF l : Int)]) ∧ Below W.heap.size W w') := fun W b => hI l v W (hT.next b) (hv.below b) hl
  have C4 : Hid (∀ W, Below w.heap.size w W → Calls Tryd.prog 17 #[v] W fun e w' => (∃ y, e = .returned y ∧ Sl w' y (spL (bN l) l)) ∧ Below W.heap.size W w') := fun W b => (SpectrumOf_any (bN l) l v W (hv.below b) G).mono fun _ _ ⟨⟨y, he, hW⟩, hb⟩ => ⟨⟨y, he, row_sl hW (by simp)⟩, hb⟩
  have C5 : Hid (∀ W, Below w.heap.size w W → Calls Tryd.prog 22 #[v] W fun e w' => (∃ f : Nat, e = .returned (.int .i64 (f : Int)) ∧ FaR l f) ∧ w' = W) := fun W b => (FarOf_any (bN l) l v W (hv.below b) G).mono fun _ _ ⟨⟨f, he, hf⟩, hb⟩ => ⟨⟨f, he, .inl ⟨hz, hf⟩⟩, hb⟩
  have C6 : Hid (∀ y W, Sl W y (spL (bN l) l) → Calls Tryd.prog 23 #[y] W fun e w' => e = .returned (.bool (bnR l)) ∧ Below W.heap.size W w') := fun y W h => by
    have k := BentOf_any (2 ^ bN l) (spL (bN l) l) y W h p1 (by omega) (by simp) fun a ha => by
      have e : tf (spL (bN l) l) a = spF (bN l) l a := spL_at l ha
      have := spF_abs G ha
      rw [e]
      have p3 : (2 ^ bN l : Int) ≤ 256 := by
        have : ((2 ^ bN l : Nat) : Int) ≤ 256 := by omega
        simpa using this
      omega
    have e2 : flB (2 ^ bN l) (tf (spL (bN l) l)) = bnR l := by
      unfold bnR
      rw [if_pos hz]
      exact flB_congr p1 fun a ha => spL_at l ha
    rw [e2] at k
    exact k
  have C7 : Hid (∀ y W, Sl W y (spL (bN l) l) → Calls Tryd.prog 24 #[y] W fun e w' => e = .returned (.int .i64 (imR l : Int)) ∧ w' = W) := fun y W h => by
    have k := ImmuneOf_any (bN l) (spL (bN l) l) y W h G.le (by simp)
    have e2 : imN (bN l) (tf (spL (bN l) l)) (bN l) = imR l := by
      unfold imR
      rw [if_pos hz]
      exact imN_congr (fun a ha => spL_at l ha) _
    rw [e2] at k
    exact k
  rw [hz] at C0 C1 C2 C3
  have HO : Hid (∀ f g, FaR l f → FaR l g → f = g) := fun f g h h' => h.one h'
  generalize FaR l = F at *
  generalize spL (bN l) l = S at *
  generalize bnR l = q at *
  generalize imR l = d at *
  have hqq : (q == q) = true := by simp
  have hdd : ((d : Int) == (d : Int)) = true := by simp
  obtain ⟨a, c, rfl⟩ := sl_len hv
  generalize l.length = z at *
  obtain ⟨qs, Hqs⟩ : ∃ q, Hid (S.length = q) := ⟨_, rfl⟩
  clear hv hz G p1 p2
  go_enter Tryd.func4, Tryd.ntmps4
  go_wp2_with (first
    | (go_at_call 9; refine C0.mono ?_; rintro e w0 ⟨rfl, hw⟩; replace hw := hw.symm; subst hw; clear C0)
    | (go_at_call 19; refine C1.mono ?_; rintro e w1 ⟨⟨f, rfl, hf⟩, b1⟩; clear C1; have D2 := C2.out _ b1; clear C2)
    | (go_at_call 20; refine D2.mono ?_; rintro e w2 ⟨rfl, b2⟩; clear D2; have B2 := Below.next b1 b2; have D3 := C3.out _ B2; clear C3)
    | (go_at_call 21; refine D3.mono ?_; rintro e w3 ⟨rfl, b3⟩; clear D3; have B3 := Below.next B2 b3; have D4 := C4.out _ B3; clear C4)
    | (go_at_call 17; refine D4.mono ?_; rintro e w4 ⟨⟨x, rfl, hx⟩, b4⟩; clear D4; obtain ⟨xa, xc, ex⟩ := sl_len hx; rw [Hqs.out] at ex; subst ex; have B4 := Below.next B3 b4; have D5 := C5.out _ B4; clear C5)
    | (go_at_call 22; refine D5.mono ?_; rintro e w5 ⟨⟨g, rfl, hg⟩, hw⟩; replace hw := hw.symm; subst hw; clear D5; replace hg := HO.out _ _ hf hg; subst hg; have hff : ((f : Int) == (f : Int)) = true := (by simp); have D6 := C6.out _ _ hx; clear C6)
    | (go_at_call 23; refine D6.mono ?_; rintro e w6 ⟨rfl, b6⟩; clear D6; have D7 := C7.out _ _ (hx.below b6); clear C7)
    | (go_at_call 24; refine D7.mono ?_; rintro e w7 ⟨rfl, hw⟩; replace hw := hw.symm; subst hw; clear D7))
  go_ret
  exact ⟨rfl, Below.next B4 b6⟩
theorem Asks_law (hF : FFar) (hB : FBent) (hI : FImmune) (l : List Int) (v : Value) (w : World) (hT : Tab w) (hv : Sl w v l) (hl : l.length ≤ maxLen) :
    Calls Tryd.prog 4 #[v] w fun e w' => e = .returned (.bool true) ∧ Below w.heap.size w w' := by
  by_cases hz : tF l = 0
  · exact Asks_ok hF hB hI l v w hT hv hl hz
  · exact Asks_bad hF hB hI l v w hT hv hl hz
end Go.Proofs.YtioggiapkkeloaaDoor
