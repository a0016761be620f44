/- The walks of Check, Spectrum, Far, Bent, Anf, Degree, Immune. -/
import Derived.Test.YtioggiapkkeloaaDoorCL1
import Derived.Test.YtioggiapkkeloaaDoorK6
import Derived.Test.YtioggiapkkeloaaDoorK8
namespace Go.Proofs.YtioggiapkkeloaaDoor
open Go.RowKit

set_option maxHeartbeats 4000000 in
theorem Check_any : FCheck := by
  intro l v w hT hv hl
  by_cases h9 : btN l.length = 9
  · have e1 : tF l = 2 := tF_shape h9
    have e2 : ckN l = 0 := by unfold ckN; rw [if_neg (by omega)]
    rw [e1, e2]
    obtain ⟨a, cap, rfl, _⟩ := hv
    have C := width_bad l.length cap a w hl h9
    generalize l.length = z at *
    clear h9 e1 e2
    go_enter Tryd.func10, Tryd.ntmps10
    go_wp2_with (go_at_call 27; refine C.mono ?_; rintro e w1 ⟨rfl, hw⟩; replace hw := hw.symm; subst hw; clear C)
    go_ret2
    exact ⟨rfl, Below.refl _ _⟩
  · have h8 : btN l.length ≤ 8 := by have := bt_le l.length; omega
    have hls := bt_some h8
    have hpw := pow256 h8
    rw [← hls] at hpw
    have D := within_any l 0 1 v w hv (by omega) (by omega)
    have HT : Hid (wiB 0 1 l = true → tF l = 0 ∧ ckN l = btN l.length) := fun h => by
      have k : tF l = 0 := tF_good ⟨h8, hls, fun j hj => by have := wi_is h j (by rw [hls]; exact hj); omega⟩
      refine ⟨k, ?_⟩
      unfold ckN
      rw [if_pos k]
      rfl
    have HF : Hid (wiB 0 1 l = false → tF l = 1 ∧ ckN l = 0) := fun h => by
      have k : tF l = 1 := by
        apply Classical.byContradiction
        intro c
        have : wiB 0 1 l = true := wi_yes fun j hj => by
          apply Classical.byContradiction
          intro k
          exact c (tF_range h8 hj (by omega))
        rw [h] at this
        cases this
      refine ⟨k, ?_⟩
      unfold ckN
      rw [if_neg (by omega)]
    obtain ⟨a, cap, rfl, _⟩ := hv
    have C := width_ok l.length cap a w hT h8
    cases hb : wiB 0 1 l with
    | true =>
      obtain ⟨e1, e2⟩ := HT.out hb
      rw [e1, e2]
      rw [hb] at D
      generalize l.length = z at *
      generalize btN z = n at *
      clear hls h9 hb e1 e2 HT HF hT
      go_enter Tryd.func10, Tryd.ntmps10
      go_wp2_with (first
        | (go_at_call 27; refine C.mono ?_; rintro e w1 ⟨rfl, hw⟩; replace hw := hw.symm; subst hw; clear C)
        | (go_at_call 28; refine D.mono ?_; rintro e w1 ⟨rfl, hw⟩; replace hw := hw.symm; subst hw; clear D))
      go_ret2
      exact ⟨rfl, Below.refl _ _⟩
    | false =>
      obtain ⟨e1, e2⟩ := HF.out hb
      rw [e1, e2]
      rw [hb] at D
      generalize l.length = z at *
      generalize btN z = n at *
      clear hls h9 hb e1 e2 HT HF hT
      go_enter Tryd.func10, Tryd.ntmps10
      go_wp2_with (first
        | (go_at_call 27; refine C.mono ?_; rintro e w1 ⟨rfl, hw⟩; replace hw := hw.symm; subst hw; clear C)
        | (go_at_call 28; refine D.mono ?_; rintro e w1 ⟨rfl, hw⟩; replace hw := hw.symm; subst hw; clear D))
      go_ret2
      exact ⟨rfl, Below.refl _ _⟩
theorem check_bad {l : List Int} {v : Value} {w : World} (hT : Tab w) (hv : Sl w v l) (hl : l.length ≤ maxLen) (hz : tF l ≠ 0) :
    ∃ u : Nat, tF l = u ∧ ((u : Int) != 0) = true ∧ Calls Tryd.prog 10 #[v] w fun e w' => e = .returned (.tuple #[.int .i64 0, .int .i64 (u : Int)]) ∧ Below w.heap.size w w' := by
  have C := Check_any l v w hT hv hl
  have e : ckN l = 0 := by unfold ckN; rw [if_neg hz]
  rw [e] at C
  exact ⟨tF l, rfl, by simp; omega, C⟩
theorem check_ok {l : List Int} {v : Value} {w : World} (hT : Tab w) (hv : Sl w v l) (hl : l.length ≤ maxLen) (hz : tF l = 0) :
    Calls Tryd.prog 10 #[v] w fun e w' => e = .returned (.tuple #[.int .i64 (bN l : Int), .int .i64 0]) ∧ Below w.heap.size w w' := by
  have C := Check_any l v w hT hv hl
  have e : ckN l = bN l := by unfold ckN; rw [if_pos hz]
  rw [e, hz] at C
  exact C
/-- What spectrum tells, wherever it is asked. -/
theorem spec_later {l : List Int} {v : Value} {w : World} (hv : Sl w v l) (hz : tF l = 0) : ∀ W, Below w.heap.size w W → Calls Tryd.prog 31 #[v] W fun e w' => (∃ g, W.heap.size ≤ g ∧ e = .returned (.slice (some ⟨g, 0, none⟩) (2 ^ bN l) (2 ^ bN l)) ∧ OwV 3 (fun b => .int .i64 b) w' g (2 ^ bN l) (spF (bN l) l)) ∧ Below W.heap.size W w' := fun W b =>
  (spectrum_any (bN l) l v W (hv.below b) (tF_ok hz)).mono fun _ _ h => ⟨⟨_, Nat.le_refl _, h.1.1, h.1.2⟩, h.2⟩
theorem prod_later {l : List Int} {v : Value} {w : World} (hv : Sl w v l) (hz : tF l = 0) : ∀ W, Below w.heap.size w W → Calls Tryd.prog 29 #[v] W fun e w' => (∃ g, W.heap.size ≤ g ∧ e = .returned (.slice (some ⟨g, 0, none⟩) (2 ^ bN l) (2 ^ bN l)) ∧ OwV 4 (fun b => .bool b) w' g (2 ^ bN l) (fun u => anF (bN l) (tf l) u == 1)) ∧ Below W.heap.size W w' := fun W b =>
  (products_any (bN l) l v W (hv.below b) (tF_ok hz)).mono fun _ _ h => ⟨⟨_, Nat.le_refl _, h.1.1, h.1.2⟩, h.2⟩
set_option maxHeartbeats 4000000 in
theorem Spectrum_any : FSpectrum := by
  intro l v w hT hv hl
  by_cases hz : tF l = 0
  · have C := check_ok hT hv hl hz
    have D : Hid (∀ W, Below w.heap.size w W → _) := spec_later hv hz
    have e : spR l = (List.range (2 ^ bN l)).map (spF (bN l) l) := by unfold spR; rw [if_pos hz]; rfl
    rw [e, hz]
    generalize spF (bN l) l = S at *
    generalize bN l = n at *
    obtain ⟨z, Hz⟩ : ∃ z : Nat, Hid (2 ^ n = z) := ⟨_, rfl⟩
    rw [Hz.out] at D ⊢
    clear hv e hT hl hz Hz
    go_enter Tryd.func13, Tryd.ntmps13
    go_wp2_with (first
      | (go_at_call 10; refine C.mono ?_; rintro e w1 ⟨rfl, b1⟩; clear C; have D2 := D.out _ b1; clear D)
      | (go_at_call 31; refine D2.mono ?_; rintro e w2 ⟨⟨g, hg, rfl, hO⟩, b2⟩; clear D2))
    go_ret2
    exact ⟨⟨_, rfl, hO.sl z⟩, Below.next b1 b2⟩
  · obtain ⟨u, hu, hne, C⟩ := check_bad hT hv hl hz
    have e : spR l = [] := by unfold spR; rw [if_neg hz]
    rw [e, hu]
    clear hv e hT hl hz hu
    go_enter Tryd.func13, Tryd.ntmps13
    go_wp2_with (go_at_call 10; refine C.mono ?_; rintro e w1 ⟨rfl, b1⟩; clear C)
    go_ret2
    exact ⟨⟨_, rfl, Sl.nil _⟩, b1⟩
/-- What sizes tells of a spectrum. -/
theorem size_later {l : List Int} (hz : tF l = 0) : ∀ (W : World) (g : Nat), OwV 3 (fun b => .int .i64 b) W g (2 ^ bN l) (spF (bN l) l) → Calls Tryd.prog 33 #[.slice (some ⟨g, 0, none⟩) (2 ^ bN l) (2 ^ bN l)] W fun e w' => e = .returned (.tuple #[.int .i64 (lsT (2 ^ bN l) (spF (bN l) l) (2 ^ bN l) : Int), .int .i64 (grT (spF (bN l) l) (2 ^ bN l) : Int)]) ∧ w' = W := fun W g h =>
  sizes_any (2 ^ bN l) g (spF (bN l) l) W (pow256 (tF_ok hz).le).2 h fun _ ha => sizes_le (tF_ok hz) ha
set_option maxHeartbeats 4000000 in
theorem Far_any : FFar := by
  intro l v w hT hv hl
  by_cases hz : tF l = 0
  · have C := check_ok hT hv hl hz
    have D : Hid (∀ W, Below w.heap.size w W → _) := spec_later hv hz
    have E : Hid (∀ (W : World) (g : Nat), _ → _) := size_later hz
    obtain ⟨hfar, hle⟩ := far_is (tF_ok hz)
    have hfr : FaR l ((2 ^ bN l - grT (spF (bN l) l) (2 ^ bN l)) / 2) := .inl ⟨hz, hfar⟩
    have hls := (tF_ok hz).len
    have hpw := pow256 (tF_ok hz).le
    change l.length = 2 ^ bN l at hls
    change 1 ≤ 2 ^ bN l ∧ 2 ^ bN l ≤ 256 at hpw
    change grT (spF (bN l) l) (2 ^ bN l) ≤ 2 ^ bN l at hle
    rw [hz]
    obtain ⟨a, c, rfl⟩ := sl_len hv
    rw [hls] at C D ⊢
    generalize spF (bN l) l = S at *
    generalize lsT (2 ^ bN l) S (2 ^ bN l) = L at *
    generalize grT S (2 ^ bN l) = M at *
    obtain ⟨n, hn⟩ : ∃ n, bN l = n := ⟨_, rfl⟩
    rw [hn] at C D E hle hfr hpw ⊢
    obtain ⟨z, Hz⟩ : ∃ z : Nat, Hid (2 ^ n = z) := ⟨_, rfl⟩
    rw [Hz.out] at C D E hle hfr hpw ⊢
    obtain ⟨f, Hf⟩ : ∃ f, Hid ((z - M) / 2 = f) := ⟨_, rfl⟩
    rw [Hf.out] at hfr
    have q0 : (z : Int) - (M : Int) = ((z - M : Nat) : Int) := by omega
    have q1 : ((z : Int) - (M : Int)) / 2 = (f : Int) := by rw [← Hf.out]; omega
    have q2 : ((z : Int) - (M : Int)).tdiv 2 = (f : Int) := by rw [Int.tdiv_eq_ediv_of_nonneg (by omega)]; exact q1
    have hw : IntKind.i64.wrap ((z : Int) - (M : Int)) = (z : Int) - (M : Int) := by rw [IntKind.wrap_i64]; omega
    have hf99 : f ≤ 999 := by rw [← Hf.out]; omega
    clear hv hT hl hz Hz hfar hls q0
    go_enter Tryd.func19, Tryd.ntmps19
    go_wp2_with (first
      | (go_at_call 10; refine C.mono ?_; rintro e w1 ⟨rfl, b1⟩; clear C; have D2 := D.out _ b1; clear D)
      | (go_at_call 31; refine D2.mono ?_; rintro e w2 ⟨⟨g, hg, rfl, hO⟩, b2⟩; clear D2; have E2 := E.out _ _ hO; clear E)
      | (go_at_call 33; refine E2.mono ?_; rintro e w3 ⟨rfl, hw3⟩; replace hw3 := hw3.symm; subst hw3; clear E2))
    go_ret2
    exact ⟨⟨f, rfl, hfr⟩, Below.next b1 b2⟩
  · obtain ⟨u, hu, hne, C⟩ := check_bad hT hv hl hz
    have hfr : FaR l 0 := .inr ⟨hz, rfl⟩
    rw [hu]
    clear hv hT hl hz hu
    go_enter Tryd.func19, Tryd.ntmps19
    go_wp2_with (go_at_call 10; refine C.mono ?_; rintro e w1 ⟨rfl, b1⟩; clear C)
    go_ret2
    exact ⟨⟨0, rfl, hfr⟩, b1⟩
set_option maxHeartbeats 4000000 in
theorem Bent_any : FBent := by
  intro l v w hT hv hl
  by_cases hz : tF l = 0
  · have C := check_ok hT hv hl hz
    have D : Hid (∀ W, Below w.heap.size w W → _) := spec_later hv hz
    have E : Hid (∀ (W : World) (g : Nat), _ → _) := size_later hz
    have hb : bnR l = flB (2 ^ bN l) (spF (bN l) l) := by unfold bnR; rw [if_pos hz]
    have hf := flat_sizes (N := 2 ^ bN l) (S := spF (bN l) l) (Nat.two_pow_pos _) fun a ha => sizes_le (tF_ok hz) ha
    rw [hz, hb]
    generalize spF (bN l) l = S at *
    generalize flB (2 ^ bN l) S = q at *
    generalize lsT (2 ^ bN l) S (2 ^ bN l) = L at *
    generalize grT S (2 ^ bN l) = M at *
    generalize bN l = n at *
    obtain ⟨z, Hz⟩ : ∃ z : Nat, Hid (2 ^ n = z) := ⟨_, rfl⟩
    rw [Hz.out] at D E
    clear hv hT hl hz Hz hb
    go_enter Tryd.func20, Tryd.ntmps20
    go_wp2_with (first
      | (go_at_call 10; refine C.mono ?_; rintro e w1 ⟨rfl, b1⟩; clear C; have D2 := D.out _ b1; clear D)
      | (go_at_call 31; refine D2.mono ?_; rintro e w2 ⟨⟨g, hg, rfl, hO⟩, b2⟩; clear D2; have E2 := E.out _ _ hO; clear E)
      | (go_at_call 33; refine E2.mono ?_; rintro e w3 ⟨rfl, hw3⟩; replace hw3 := hw3.symm; subst hw3; clear E2))
    go_ret2
    exact ⟨rfl, Below.next b1 b2⟩
  · obtain ⟨u, hu, hne, C⟩ := check_bad hT hv hl hz
    have hb : bnR l = false := by unfold bnR; rw [if_neg hz]
    rw [hu, hb]
    clear hv hT hl hz hu hb
    go_enter Tryd.func20, Tryd.ntmps20
    go_wp2_with (go_at_call 10; refine C.mono ?_; rintro e w1 ⟨rfl, b1⟩; clear C)
    go_ret2
    exact ⟨rfl, b1⟩
theorem Back_face : FBack := fun l v w hT hv hl => Back_any l v w hT hv hl
end Go.Proofs.YtioggiapkkeloaaDoor
