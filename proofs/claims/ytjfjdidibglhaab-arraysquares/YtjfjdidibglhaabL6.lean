/- The walk of orthogonal. -/
import Derived.Test.YtjfjdidibglhaabL2
namespace Go.Proofs.Ytjfjdidibglhaab
open Go.RowKit

/-- No pair twice. -/
def Orth (n : Nat) (s t : Nat → Nat → Nat) : Prop := ∀ i j i' j', i < n → j < n → i' < n → j' < n → s i j = s i' j' → t i j = t i' j' → i = i' ∧ j = j'
structure OrI (n : Nat) (s t : Nat → Nat → Nat) (r c : Nat) (f : Nat → Bool) : Prop where
  f : ∀ x y, y < 8 → (f (x * 8 + y) = true ↔ ∃ i j, i < n ∧ j < n ∧ Sn r c i j ∧ s i j = x ∧ t i j = y)
  ap : ∀ i j i' j', i < n → j < n → i' < n → j' < n → Sn r c i j → Sn r c i' j' → s i j = s i' j' → t i j = t i' j' → i = i' ∧ j = j'
theorem OrI.start (n : Nat) (s t : Nat → Nat → Nat) : OrI n s t 0 0 (fun _ => false) := by
  have h : ∀ i j, ¬ Sn 0 0 i j := fun i j h => by unfold Sn at h; omega
  exact ⟨fun a x _ => ⟨fun e => (by cases e), fun ⟨i, j, _, _, s, _⟩ => (h _ _ s).elim⟩, fun i j _ _ _ _ _ _ s => (h _ _ s).elim⟩
theorem OrI.step {n : Nat} {s t : Nat → Nat → Nat} {r c : Nat} {f : Nat → Bool} (h : OrI n s t r c f) (hr : r < n) (hc : c < n) (hx : t r c < 8) (h1 : f (s r c * 8 + t r c) = false) :
    OrI n s t r (c + 1) (updM f (s r c * 8 + t r c)) := by
  have n1 : ∀ i j, i < n → j < n → Sn r c i j → s i j = s r c → t i j = t r c → False := fun i j hi hj S e e2 => by
    have := (h.f (s r c) (t r c) hx).2 ⟨i, j, hi, hj, S, e, e2⟩
    rw [h1] at this; cases this
  refine ⟨fun x y hy => ?_, fun i j i' j' hi hj hi' hj' S S' e e2 => ?_⟩
  · unfold updM
    by_cases e : x * 8 + y = s r c * 8 + t r c
    · rw [if_pos e]
      obtain ⟨rfl, rfl⟩ := (eight hy hx).1 e
      exact ⟨fun _ => ⟨r, c, hr, hc, sn_succ.2 (.inr ⟨rfl, rfl⟩), rfl, rfl⟩, fun _ => rfl⟩
    · rw [if_neg e, h.f x y hy]
      constructor
      · rintro ⟨i, j, a1, a2, a3, a4⟩; exact ⟨i, j, a1, a2, sn_succ.2 (.inl a3), a4⟩
      · rintro ⟨i, j, a1, a2, a3, a4, a5⟩
        rcases sn_succ.1 a3 with a3 | ⟨rfl, rfl⟩
        · exact ⟨i, j, a1, a2, a3, a4, a5⟩
        · subst a4 a5; exact (e rfl).elim
  · rcases sn_succ.1 S with S | ⟨rfl, rfl⟩
    · rcases sn_succ.1 S' with S' | ⟨rfl, rfl⟩
      · exact h.ap i j i' j' hi hj hi' hj' S S' e e2
      · exact (n1 i j hi hj S e e2).elim
    · rcases sn_succ.1 S' with S' | ⟨rfl, rfl⟩
      · exact (n1 i' j' hi' hj' S' e.symm e2.symm).elim
      · exact ⟨rfl, rfl⟩
theorem OrI.next {n : Nat} {s t : Nat → Nat → Nat} {r : Nat} {f : Nat → Bool} (h : OrI n s t r n f) : OrI n s t (r + 1) 0 f := by
  have k : ∀ i j, j < n → (Sn r n i j ↔ Sn (r + 1) 0 i j) := fun i j hj => by unfold Sn; omega
  refine ⟨fun a x hx => ?_, fun i j i' j' hi hj hi' hj' s s' e => h.ap i j i' j' hi hj hi' hj' ((k _ _ hj).2 s) ((k _ _ hj').2 s') e⟩
  rw [h.f a x hx]
  exact ⟨fun ⟨i, j, a1, a2, a3, a4⟩ => ⟨i, j, a1, a2, (k _ _ a2).1 a3, a4⟩, fun ⟨i, j, a1, a2, a3, a4⟩ => ⟨i, j, a1, a2, (k _ _ a2).2 a3, a4⟩⟩
theorem OrI.bad {n : Nat} {s t : Nat → Nat → Nat} {r c : Nat} {f : Nat → Bool} (h : OrI n s t r c f) (hr : r < n) (hc : c < n) (hx : t r c < 8) (h1 : f (s r c * 8 + t r c) = true) : ¬ Orth n s t := fun ha => by
  obtain ⟨i, j, a1, a2, a3, a4, a5⟩ := (h.f _ _ hx).1 h1
  have := ha i j r c a1 a2 hr hc a4 a5
  unfold Sn at a3; omega
theorem OrI.all {n : Nat} {s t : Nat → Nat → Nat} {f : Nat → Bool} (h : OrI n s t n 0 f) : Orth n s t := fun i j i' j' hi hj hi' hj' e => h.ap i j i' j' hi hj hi' hj' (.inl hi) (.inl hi') e

set_option maxHeartbeats 4000000 in
theorem orthogonal_any (n : Nat) (s t : Nat → Nat → Nat) (u v : Value) (w : World) (b : Bool) (hn : n ≤ 8) (hs : ∀ r c, r < n → c < n → s r c < 8) (ht : ∀ r c, r < n → c < n → t r c < 8) (hS : Teller u n n s w) (hT : Teller v n n t w) (hb : b = true ↔ Orth n s t) :
    Calls Try.prog 9 #[.int .i64 (n : Int), u, v] w fun e w' => e = .returned (.bool b) ∧ Below w.heap.size w w' := by
  obtain ⟨g, lb, rfl, eg, hT⟩ := hT
  obtain ⟨h, hb', rfl, eh, hS⟩ := hS
  have HT : Hid (TellAt g lb n n t w) := hT
  have HS : Hid (TellAt h hb' n n s w) := hS
  have HB : Hid (b = true ↔ Orth n s t) := hb
  have HX : Hid (∀ r c, r < n → c < n → t r c < 8) := ht
  have HY : Hid (∀ r c, r < n → c < n → s r c < 8) := hs
  have HF : Hid (¬ Orth n s t → b = false) := fun h => by
    cases b with
    | false => rfl
    | true => exact (h (hb.1 rfl)).elim
  have E43 := e43
  clear hT hS hb ht hs
  go_enter Try.func9, Try.ntmps9
  have C1 := once_any w
  go_wp2_with (go_at_call 17; refine C1.mono ?_; rintro e w1 ⟨rfl, hM1, b1⟩)
  have hs1 := hM1.lt
  clear C1
  go_loopw [12] (fun i wr => ∃ (r : Nat) (f : Nat → Bool), i = .int .i64 (r : Int) ∧ r ≤ n ∧ Met wr w.heap.size f ∧ Hid (OrI n s t r 0 f) ∧ Below w.heap.size w wr) (fun i _ => (n - intOf i).toNat)
  case atStart => exact ⟨0, _, rfl, by omega, hM1, OrI.start n s t, b1⟩
  case round =>
    clear hM1 b1
    obtain ⟨r, f, rfl, hr, hM1, HI, hB⟩ := hrel
    by_cases hlt : r < n
    · have hdr : decide ((r : Int) < (n : Int)) = true := by simp; omega
      go_wp2
      go_loopw [16] (fun i wr => ∃ (c : Nat) (f : Nat → Bool), i = .int .i64 (c : Int) ∧ c ≤ n ∧ Met wr w.heap.size f ∧ Hid (OrI n s t r c f) ∧ Below w.heap.size w wr) (fun i _ => (n - intOf i).toNat)
      case atStart => exact ⟨0, _, rfl, by omega, hM1, HI, hB⟩
      case round =>
        clear hM1 HI hB f
        obtain ⟨c, f, rfl, hc, hM1, HI, hB⟩ := hrel
        by_cases hlc : c < n
        · have hdc : decide ((c : Int) < (n : Int)) = true := by simp; omega
          have C := fun W (bW : Below w.heap.size w W) => HT.out W bW r c hlt hlc
          have D := HS.out _ hB r c hlt hlc
          have hx8 := HX.out r c hlt hlc
          have hy8 := HY.out r c hlt hlc
          obtain ⟨x, Hx⟩ : ∃ x, Hid (t r c = x) := ⟨_, rfl⟩
          obtain ⟨y, Hy⟩ : ∃ y, Hid (s r c = y) := ⟨_, rfl⟩
          rw [Hx.out] at C hx8
          rw [Hy.out] at D hy8
          cases hf : f (y * 8 + x) with
          | true =>
            have hbb : b = false := HF.out (HI.out.bad hlt hlc (by rw [Hx.out]; exact hx8) (by rw [Hx.out, Hy.out]; exact hf))
            subst hbb
            have D1 := fun W (hM : Met W w.heap.size f) => once1_old w.heap.size y x f W hy8 hx8 hM hf
            go_wp2_with (first
              | (go_at_fn h; refine D.mono ?_; rintro e w3 ⟨rfl, b3⟩; clear D)
              | (go_at_fn g; refine (C _ (Below.next hB b3)).mono ?_; rintro e w4 ⟨rfl, b4⟩; clear C)
              | (go_at_call 24; refine (D1 _ (hM1.below (Below.next b3 b4))).mono ?_; rintro e w5 ⟨rfl, rfl⟩))
            go_ret
            exact ⟨rfl, Below.next (Below.next hB b3) b4⟩
          | false =>
            have D1 := fun W (hM : Met W w.heap.size f) => once1_new w.heap.size y x f W hy8 hx8 hM hf
            have HI2 := HI.out.step hlt hlc (by rw [Hx.out]; exact hx8) (by rw [Hx.out, Hy.out]; exact hf)
            rw [Hx.out, Hy.out] at HI2
            have HI3 : Hid (OrI n s t r (c + 1) (updM f (y * 8 + x))) := HI2
            clear HI2 HI
            go_wp2_with (first
              | (go_at_fn h; refine D.mono ?_; rintro e w3 ⟨rfl, b3⟩; clear D)
              | (go_at_fn g; refine (C _ (Below.next hB b3)).mono ?_; rintro e w4 ⟨rfl, b4⟩; clear C)
              | (go_at_call 24; refine (D1 _ (hM1.below (Below.next b3 b4))).mono ?_; rintro e w5 ⟨rfl, rfl⟩))
            go_roundw
            case rel => exact ⟨c + 1, _, by go_num, by omega, (hM1.below (Below.next b3 b4)).set _, HI3, (Below.next (Below.next hB b3) b4).setCell (Nat.le_refl _) _⟩
            case measure => simp [intOf]; omega
        · have hdc : decide ((c : Int) < (n : Int)) = false := by simp; omega
          obtain rfl : c = n := by omega
          go_wp2
          go_roundw
          case rel => exact ⟨r + 1, f, by go_num, by omega, hM1, HI.out.next, hB⟩
          case measure => simp [intOf]; omega
    · have hdr : decide ((r : Int) < (n : Int)) = false := by simp; omega
      obtain rfl : r = n := by omega
      have hbb : b = true := HB.out.2 HI.out.all
      subst hbb
      go_wp2
      go_ret
      exact ⟨rfl, hB⟩
end Go.Proofs.Ytjfjdidibglhaab
