/- How many teams one comes to. Nothing of the program. -/
import Derived.Test.YtpeplnojmogkfaaRdC
namespace Go.Proofs.Ytpeplnojmogkfaa

def upB (f : Nat → Bool) (i : Nat) : Nat → Bool := fun j => if j = i then true else f j
def cnB (n : Nat) (f : Nat → Bool) : Nat := ((List.range n).filter f).length
theorem cnB_le (n : Nat) (f : Nat → Bool) : cnB n f ≤ n := by
  have := List.length_filter_le f (List.range n)
  rwa [List.length_range] at this
theorem cnB_step : ∀ {n : Nat} {f : Nat → Bool} {i : Nat}, i < n → f i = false → cnB n (upB f i) = cnB n f + 1
  | 0, _, i, h, _ => by omega
  | n + 1, f, i, h, hf => by
    have e : ∀ g : Nat → Bool, cnB (n + 1) g = cnB n g + if g n = true then 1 else 0 := fun g => by
      unfold cnB
      rw [List.range_succ, List.filter_append, List.length_append]
      cases h : g n <;> simp [h]
    rw [e, e]
    by_cases hi : i = n
    · subst hi
      have e2 : cnB i (upB f i) = cnB i f := by
        unfold cnB
        congr 1
        refine List.filter_congr fun j hj => ?_
        have := List.mem_range.1 hj
        unfold upB
        rw [if_neg (by omega)]
      rw [e2, hf]
      unfold upB
      simp
    · rw [cnB_step (show i < n by omega) hf]
      have e2 : upB f i n = f n := by unfold upB; rw [if_neg (fun e => hi e.symm)]
      rw [e2]
      omega
theorem cnB_all {n : Nat} {f : Nat → Bool} : cnB n f = n ↔ ∀ x, x < n → f x = true := by
  constructor
  · intro h x hx
    refine Classical.byContradiction fun hf => ?_
    have := cnB_step hx (Bool.eq_false_iff.2 hf)
    have := cnB_le n (upB f x)
    omega
  · intro h
    unfold cnB
    rw [List.filter_eq_self.2 fun x hx => h x (List.mem_range.1 hx)]
    simp
/-- What is marked: from the first team, by those who meet. -/
structure RgI (n : Nat) (k l : List Nat) (f : Nat → Bool) (c : Nat) : Prop where
  zero : f 0 = true
  cnt : cnB n f = c
  snd : ∀ T : Nat → Prop, T 0 → (∀ x, x < n → T x → T (k.getD x 0) ∧ T (l.getD x 0)) → ∀ x, x < n → f x = true → T x
theorem rgI_start {n : Nat} {k l : List Nat} (h : 0 < n) : RgI n k l (upB (fun _ => false) 0) 1 where
  zero := by simp [upB]
  cnt := by
    rw [cnB_step h rfl]
    unfold cnB
    rw [List.filter_eq_nil_iff.2 (by simp)]
    rfl
  snd := fun T h0 _ x _ hx => by
    unfold upB at hx
    by_cases e : x = 0
    · rw [e]; exact h0
    · rw [if_neg e] at hx; cases hx
theorem RgI.more {n : Nat} {k l : List Nat} (hk : Rnd n fun x => k.getD x 0) (hl : Rnd n fun x => l.getD x 0) {f : Nat → Bool} {c x : Nat} (h : RgI n k l f c) (hx : x < n) (hf : f x = false) (hy : f (k.getD x 0) = true ∨ f (l.getD x 0) = true) : RgI n k l (upB f x) (c + 1) where
  zero := by
    unfold upB
    split
    · rfl
    · exact h.zero
  cnt := by rw [cnB_step hx hf, h.cnt]
  snd := fun T h0 hT y hyn hfy => by
    by_cases e : y = x
    · rw [e]
      have k1 : k.getD x 0 < n ∧ k.getD x 0 ≠ x ∧ k.getD (k.getD x 0) 0 = x := hk x hx
      have l1 : l.getD x 0 < n ∧ l.getD x 0 ≠ x ∧ l.getD (l.getD x 0) 0 = x := hl x hx
      rcases hy with hy | hy
      · have := (hT _ k1.1 (h.snd T h0 hT _ k1.1 hy)).1
        rwa [k1.2.2] at this
      · have := (hT _ l1.1 (h.snd T h0 hT _ l1.1 hy)).2
        rwa [l1.2.2] at this
    · unfold upB at hfy
      rw [if_neg e] at hfy
      exact h.snd T h0 hT y hyn hfy
/-- Nothing more is come to. -/
def ClB (n : Nat) (k l : List Nat) (f : Nat → Bool) (m : Nat) : Prop := ∀ x, x < m → x < n → f x = false → f (k.getD x 0) = false ∧ f (l.getD x 0) = false
theorem RgI.done {n : Nat} {k l : List Nat} (hk : Rnd n fun x => k.getD x 0) (hl : Rnd n fun x => l.getD x 0) {f : Nat → Bool} {c : Nat} (h : RgI n k l f c) (hc : ClB n k l f n) : c = n ↔ Cn n k l := by
  rw [← h.cnt, cnB_all]
  constructor
  · intro ha T h0 hT x hx
    exact h.snd T h0 hT x hx (ha x hx)
  · intro hcn
    have := hcn (fun x => x < n → f x = true) (fun _ => h.zero) fun x hx hT => ?_
    · exact fun x hx => this x hx hx
    · have k1 : k.getD x 0 < n ∧ k.getD x 0 ≠ x ∧ k.getD (k.getD x 0) 0 = x := hk x hx
      have l1 : l.getD x 0 < n ∧ l.getD x 0 ≠ x ∧ l.getD (l.getD x 0) 0 = x := hl x hx
      have hfx := hT hx
      refine ⟨fun hy => ?_, fun hy => ?_⟩
      · cases hq : f (k.getD x 0) with
        | true => rfl
        | false =>
          have := (hc _ hy hy hq).1
          rw [k1.2.2, hfx] at this
          cases this
      · cases hq : f (l.getD x 0) with
        | true => rfl
        | false =>
          have := (hc _ hy hy hq).2
          rw [l1.2.2, hfx] at this
          cases this
end Go.Proofs.Ytpeplnojmogkfaa
