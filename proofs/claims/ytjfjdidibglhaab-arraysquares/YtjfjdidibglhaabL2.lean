/- The walk of apart. -/
import Derived.Test.YtjfjdidibglhaabL1
namespace Go.Proofs.Ytjfjdidibglhaab
open Go.RowKit

/-- The cell lies ahead of this one. -/
def Sn (r c i j : Nat) : Prop := i < r ∨ (i = r ∧ j < c)
structure ApI (m n : Nat) (t : Nat → Nat → Nat) (r c : Nat) (f g : Nat → Bool) : Prop where
  f : ∀ a x, x < 8 → (f (a * 8 + x) = true ↔ ∃ j, a < m ∧ j < n ∧ Sn r c a j ∧ t a j = x)
  g : ∀ b x, x < 8 → (g (b * 8 + x) = true ↔ ∃ i, i < m ∧ b < n ∧ Sn r c i b ∧ t i b = x)
  ap : ∀ i j i' j', i < m → j < n → i' < m → j' < n → Sn r c i j → Sn r c i' j' → t i j = t i' j' → (i = i' → j = j') ∧ (j = j' → i = i')
theorem ApI.start (m n : Nat) (t : Nat → Nat → Nat) : ApI m n t 0 0 (fun _ => false) (fun _ => false) := by
  have h : ∀ i j, ¬ Sn 0 0 i j := fun i j h => by unfold Sn at h; omega
  exact ⟨fun a x _ => ⟨fun e => (by cases e), fun ⟨j, _, _, s, _⟩ => (h _ _ s).elim⟩, fun a x _ => ⟨fun e => (by cases e), fun ⟨j, _, _, s, _⟩ => (h _ _ s).elim⟩, fun i j _ _ _ _ _ _ s => (h _ _ s).elim⟩
theorem eight {a x a' x' : Nat} (h : x < 8) (h' : x' < 8) : a * 8 + x = a' * 8 + x' ↔ a = a' ∧ x = x' := by omega
theorem sn_succ {r c i j : Nat} : Sn r (c + 1) i j ↔ Sn r c i j ∨ (i = r ∧ j = c) := by unfold Sn; omega
theorem ApI.step {m n : Nat} {t : Nat → Nat → Nat} {r c : Nat} {f g : Nat → Bool} (h : ApI m n t r c f g) (hr : r < m) (hc : c < n) (hx : t r c < 8) (h1 : f (r * 8 + t r c) = false) (h2 : g (c * 8 + t r c) = false) :
    ApI m n t r (c + 1) (updM f (r * 8 + t r c)) (updM g (c * 8 + t r c)) := by
  have n1 : ∀ j, j < n → Sn r c r j → t r j ≠ t r c := fun j hj s e => by
    have := (h.f r (t r c) hx).2 ⟨j, hr, hj, s, e⟩
    rw [h1] at this; cases this
  have n2 : ∀ i, i < m → Sn r c i c → t i c ≠ t r c := fun i hi s e => by
    have := (h.g c (t r c) hx).2 ⟨i, hi, hc, s, e⟩
    rw [h2] at this; cases this
  refine ⟨fun a x hx' => ?_, fun b x hx' => ?_, fun i j i' j' hi hj hi' hj' s s' e => ?_⟩
  · unfold updM
    by_cases e : a * 8 + x = r * 8 + t r c
    · rw [if_pos e]
      obtain ⟨rfl, rfl⟩ := (eight hx' hx).1 e
      exact ⟨fun _ => ⟨c, hr, hc, sn_succ.2 (.inr ⟨rfl, rfl⟩), rfl⟩, fun _ => rfl⟩
    · rw [if_neg e, h.f a x hx']
      constructor
      · rintro ⟨j, a1, a2, a3, a4⟩; exact ⟨j, a1, a2, sn_succ.2 (.inl a3), a4⟩
      · rintro ⟨j, a1, a2, a3, a4⟩
        rcases sn_succ.1 a3 with a3 | ⟨rfl, rfl⟩
        · exact ⟨j, a1, a2, a3, a4⟩
        · subst a4; exact (e rfl).elim
  · unfold updM
    by_cases e : b * 8 + x = c * 8 + t r c
    · rw [if_pos e]
      obtain ⟨rfl, rfl⟩ := (eight hx' hx).1 e
      exact ⟨fun _ => ⟨r, hr, hc, sn_succ.2 (.inr ⟨rfl, rfl⟩), rfl⟩, fun _ => rfl⟩
    · rw [if_neg e, h.g b x hx']
      constructor
      · rintro ⟨j, a1, a2, a3, a4⟩; exact ⟨j, a1, a2, sn_succ.2 (.inl a3), a4⟩
      · rintro ⟨j, a1, a2, a3, a4⟩
        rcases sn_succ.1 a3 with a3 | ⟨rfl, rfl⟩
        · exact ⟨j, a1, a2, a3, a4⟩
        · subst a4; exact (e rfl).elim
  · rcases sn_succ.1 s with s | ⟨rfl, rfl⟩
    · rcases sn_succ.1 s' with s' | ⟨rfl, rfl⟩
      · exact h.ap i j i' j' hi hj hi' hj' s s' e
      · exact ⟨fun x => by subst x; exact (n1 j hj s e).elim, fun x => by subst x; exact (n2 i hi s e).elim⟩
    · rcases sn_succ.1 s' with s' | ⟨rfl, rfl⟩
      · exact ⟨fun x => by subst x; exact (n1 j' hj' s' e.symm).elim, fun x => by subst x; exact (n2 i' hi' s' e.symm).elim⟩
      · exact ⟨fun _ => rfl, fun _ => rfl⟩
theorem ApI.next {m n : Nat} {t : Nat → Nat → Nat} {r : Nat} {f g : Nat → Bool} (h : ApI m n t r n f g) : ApI m n t (r + 1) 0 f g := by
  have k : ∀ i j, j < n → (Sn r n i j ↔ Sn (r + 1) 0 i j) := fun i j hj => by unfold Sn; omega
  refine ⟨fun a x hx => ?_, fun b x hx => ?_, fun i j i' j' hi hj hi' hj' s s' e => h.ap i j i' j' hi hj hi' hj' ((k _ _ hj).2 s) ((k _ _ hj').2 s') e⟩
  · rw [h.f a x hx]
    exact ⟨fun ⟨j, a1, a2, a3, a4⟩ => ⟨j, a1, a2, (k _ _ a2).1 a3, a4⟩, fun ⟨j, a1, a2, a3, a4⟩ => ⟨j, a1, a2, (k _ _ a2).2 a3, a4⟩⟩
  · rw [h.g b x hx]
    exact ⟨fun ⟨j, a1, a2, a3, a4⟩ => ⟨j, a1, a2, (k _ _ a2).1 a3, a4⟩, fun ⟨j, a1, a2, a3, a4⟩ => ⟨j, a1, a2, (k _ _ a2).2 a3, a4⟩⟩
theorem ApI.bad1 {m n : Nat} {t : Nat → Nat → Nat} {r c : Nat} {f g : Nat → Bool} (h : ApI m n t r c f g) (hr : r < m) (hc : c < n) (hx : t r c < 8) (h1 : f (r * 8 + t r c) = true) : ¬ Ap m n t := fun ha => by
  obtain ⟨j, a1, a2, a3, a4⟩ := (h.f r _ hx).1 h1
  have := (ha r j r c hr a2 hr hc a4).1 rfl
  unfold Sn at a3; omega
theorem ApI.bad2 {m n : Nat} {t : Nat → Nat → Nat} {r c : Nat} {f g : Nat → Bool} (h : ApI m n t r c f g) (hr : r < m) (hc : c < n) (hx : t r c < 8) (h1 : g (c * 8 + t r c) = true) : ¬ Ap m n t := fun ha => by
  obtain ⟨i, a1, a2, a3, a4⟩ := (h.g c _ hx).1 h1
  have := (ha i c r c a1 hc hr hc a4).2 rfl
  unfold Sn at a3; omega
theorem ApI.all {m n : Nat} {t : Nat → Nat → Nat} {f g : Nat → Bool} (h : ApI m n t m 0 f g) : Ap m n t := fun i j i' j' hi hj hi' hj' e => h.ap i j i' j' hi hj hi' hj' (.inl hi) (.inl hi') e

set_option maxHeartbeats 4000000 in
theorem apart_any (m n : Nat) (t : Nat → Nat → Nat) (v : Value) (w : World) (b : Bool) (hm : m ≤ 8) (hn : n ≤ 8) (ht : ∀ r c, r < m → c < n → t r c < 8) (hT : Teller v m n t w) (hb : b = true ↔ Ap m n t) :
    Calls Try.prog 16 #[.int .i64 (m : Int), .int .i64 (n : Int), v] w fun e w' => e = .returned (.bool b) ∧ Below w.heap.size w w' := by
  obtain ⟨g, lb, rfl, eg, hT⟩ := hT
  have HT : Hid (TellAt g lb m n t w) := hT
  have HB : Hid (b = true ↔ Ap m n t) := hb
  have HX : Hid (∀ r c, r < m → c < n → t r c < 8) := ht
  have hbf : ¬ Ap m n t → b = false := fun h => by
    cases b with
    | false => rfl
    | true => exact (h (hb.1 rfl)).elim
  have HF : Hid (¬ Ap m n t → b = false) := hbf
  have E43 := e43
  clear hT hb ht hbf
  go_enter Try.func16, Try.ntmps16
  have C1 := once_any w
  go_wp2_with (first
    | (go_at_call 17; refine C1.mono ?_; rintro e w1 ⟨rfl, hM1, b1⟩; have C2 := once_any w1; clear C1)
    | (go_at_call 17; refine C2.mono ?_; rintro e w2 ⟨rfl, hM2, b2⟩; clear C2))
  have hs1 := hM1.lt
  replace hM1 := hM1.below b2
  have hs2 := hM2.lt
  have b12 := Below.next b1 b2
  clear b1 b2
  go_loopw [15] (fun i wr => ∃ (r : Nat) (f h : Nat → Bool), i = .int .i64 (r : Int) ∧ r ≤ m ∧ Met wr w.heap.size f ∧ Met wr w1.heap.size h ∧ Hid (ApI m n t r 0 f h) ∧ Below w.heap.size w wr) (fun i _ => (m - intOf i).toNat)
  case atStart => exact ⟨0, _, _, rfl, by omega, hM1, hM2, ApI.start m n t, b12⟩
  case round =>
    clear hM1 hM2 b12
    obtain ⟨r, f, h, rfl, hr, hM1, hM2, HI, hB⟩ := hrel
    by_cases hlt : r < m
    · have hdr : decide ((r : Int) < (m : Int)) = true := by simp; omega
      go_wp2
      go_loopw [19] (fun i wr => ∃ (c : Nat) (f h : Nat → Bool), i = .int .i64 (c : Int) ∧ c ≤ n ∧ Met wr w.heap.size f ∧ Met wr w1.heap.size h ∧ Hid (ApI m n t r c f h) ∧ Below w.heap.size w wr) (fun i _ => (n - intOf i).toNat)
      case atStart => exact ⟨0, _, _, rfl, by omega, hM1, hM2, HI, hB⟩
      case round =>
        clear hM1 hM2 HI hB f h
        obtain ⟨c, f, h, rfl, hc, hM1, hM2, HI, hB⟩ := hrel
        by_cases hlc : c < n
        · have hdc : decide ((c : Int) < (n : Int)) = true := by simp; omega
          have C := HT.out _ hB r c hlt hlc
          have hx8 := HX.out r c hlt hlc
          obtain ⟨x, Hx⟩ : ∃ x, Hid (t r c = x) := ⟨_, rfl⟩
          rw [Hx.out] at C hx8
          have hxr : r < 8 := by omega
          have hxc : c < 8 := by omega
          cases hf : f (r * 8 + x) with
          | true =>
            have hbb : b = false := HF.out (HI.out.bad1 hlt hlc (by rw [Hx.out]; exact hx8) (by rw [Hx.out]; exact hf))
            subst hbb
            have D1 := fun W (hM : Met W w.heap.size f) => once1_old w.heap.size r x f W hxr hx8 hM hf
            go_wp2_with (first
              | (go_at_fn g; refine C.mono ?_; rintro e w3 ⟨rfl, b3⟩)
              | (go_at_call 24; refine (D1 _ (hM1.below b3)).mono ?_; rintro e w4 ⟨rfl, rfl⟩))
            go_ret
            exact ⟨rfl, Below.next hB b3⟩
          | false =>
            have D1 := fun W (hM : Met W w.heap.size f) => once1_new w.heap.size r x f W hxr hx8 hM hf
            cases hh : h (c * 8 + x) with
            | true =>
              have hbb : b = false := HF.out (HI.out.bad2 hlt hlc (by rw [Hx.out]; exact hx8) (by rw [Hx.out]; exact hh))
              subst hbb
              have D2 := fun W (hM : Met W w1.heap.size h) => once1_old w1.heap.size c x h W hxc hx8 hM hh
              go_wp2_with (first
                | (go_at_fn g; refine C.mono ?_; rintro e w3 ⟨rfl, b3⟩)
                | (go_at_call 24; refine (D1 _ (hM1.below b3)).mono ?_; rintro e w4 ⟨rfl, rfl⟩; clear D1)
                | (go_at_call 24; refine (D2 _ ((hM2.below b3).other _ _ (by show w1.heap.size ≠ w.heap.size; omega))).mono ?_; rintro e w4 ⟨rfl, rfl⟩; clear D2))
              go_ret
              exact ⟨rfl, (Below.next hB b3).setCell (Nat.le_refl _) _⟩
            | false =>
              have HI2 := HI.out.step hlt hlc (by rw [Hx.out]; exact hx8) (by rw [Hx.out]; exact hf) (by rw [Hx.out]; exact hh)
              rw [Hx.out] at HI2
              have HI3 : Hid (ApI m n t r (c + 1) (updM f (r * 8 + x)) (updM h (c * 8 + x))) := HI2
              have D2 := fun W (hM : Met W w1.heap.size h) => once1_new w1.heap.size c x h W hxc hx8 hM hh
              clear HI2 HI
              go_wp2_with (first
                | (go_at_fn g; refine C.mono ?_; rintro e w3 ⟨rfl, b3⟩)
                | (go_at_call 24; refine (D1 _ (hM1.below b3)).mono ?_; rintro e w4 ⟨rfl, rfl⟩; clear D1)
                | (go_at_call 24; refine (D2 _ ((hM2.below b3).other _ _ (by show w1.heap.size ≠ w.heap.size; omega))).mono ?_; rintro e w4 ⟨rfl, rfl⟩; clear D2))
              go_roundw
              case rel =>
                refine ⟨c + 1, _, _, by go_num, by omega, ((hM1.below b3).set _).other _ _ (by show w.heap.size ≠ w1.heap.size; omega), ((hM2.below b3).other _ _ (by show w1.heap.size ≠ w.heap.size; omega)).set _, HI3, ((Below.next hB b3).setCell (Nat.le_refl _) _).setCell (by show w.heap.size ≤ w1.heap.size; omega) _⟩
              case measure => simp [intOf]; omega
        · have hdc : decide ((c : Int) < (n : Int)) = false := by simp; omega
          obtain rfl : c = n := by omega
          go_wp2
          go_roundw
          case rel => exact ⟨r + 1, f, h, by go_num, by omega, hM1, hM2, HI.out.next, hB⟩
          case measure => simp [intOf]; omega
    · have hdr : decide ((r : Int) < (m : Int)) = false := by simp; omega
      obtain rfl : r = m := by omega
      have hbb : b = true := HB.out.2 HI.out.all
      subst hbb
      go_wp2
      go_ret
      exact ⟨rfl, hB⟩
end Go.Proofs.Ytjfjdidibglhaab
