/- A scope in which the run jumps back to three labels, each behind the one before. -/
import Derived.Scope
import Derived.ScopeJumps
namespace Go.Proofs.Ytcjkcgfohmhbcab

/-- As Q; by a goto to a label: what holds there. -/
def leaps (J : Nat → Act → World → Prop) (Q : Exit → Act → World → Prop) : Exit → Act → World → Prop
  | .goto l, a, w => J l a w
  | e, a, w => Q e a w
@[go_sem] theorem leaps_normal (J : Nat → Act → World → Prop) (Q : Exit → Act → World → Prop) (a : Act) (w : World) : leaps J Q .normal a w = Q .normal a w := rfl
@[go_sem] theorem leaps_ret (J : Nat → Act → World → Prop) (Q : Exit → Act → World → Prop) (a : Act) (w : World) : leaps J Q .ret a w = Q .ret a w := rfl
/-- What holds at a label, at less than a bound. -/
def lessJ (J : Nat → Nat → Act → World → Prop) (M : Nat) : Nat → Act → World → Prop := fun l a w => ∃ m, m < M ∧ J l m a w
theorem wp_leaps {P : Program} {a : Act} {w : World} {Q : Exit → Act → World → Prop} {c r0 r1 r2 : Code} (J : Nat → Nat → Act → World → Prop)
    (h0 : findLabel c 0 = some (Code.skip.seq r0)) (h1 : findLabel c 1 = some (Code.skip.seq r1)) (h2 : findLabel c 2 = some (Code.skip.seq r2)) (hJ : ∀ l m a w, J l m a w → l < 3)
    (p2 : ∀ M m a w, m ≤ M → J 2 m a w → r2.wp P (leaps (lessJ J M) Q) a w)
    (p1 : (∀ M m a w, m ≤ M → J 2 m a w → r2.wp P (leaps (lessJ J M) Q) a w) → ∀ M m a w, m ≤ M → J 1 m a w → r1.wp P (leaps (lessJ J M) Q) a w)
    (p0 : (∀ M m a w, m ≤ M → J 1 m a w → r1.wp P (leaps (lessJ J M) Q) a w) → ∀ M m a w, m ≤ M → J 0 m a w → r0.wp P (leaps (lessJ J M) Q) a w)
    (first : (∀ M m a w, m ≤ M → J 0 m a w → r0.wp P (leaps (lessJ J M) Q) a w) → ∃ M, c.wp P (leaps (lessJ J M) Q) a w) : (Code.scope c).wp P Q a w := by
  have q2 := p2
  have q1 := p1 q2
  have q0 := p0 q1
  obtain ⟨M, hfirst⟩ := first q0
  have pass : ∀ l m a w, J l m a w → ∃ rest, findLabel c l = some rest ∧ rest.wp P (leaps (lessJ J m) Q) a w := by
    intro l m a w h
    have hl := hJ l m a w h
    match l, hl, h with
    | 0, _, h => exact ⟨_, h0, wp_seq (wp_skip (q0 m m a w (Nat.le_refl _) h))⟩
    | 1, _, h => exact ⟨_, h1, wp_seq (wp_skip (q1 m m a w (Nat.le_refl _) h))⟩
    | 2, _, h => exact ⟨_, h2, wp_seq (wp_skip (q2 m m a w (Nat.le_refl _) h))⟩
  intro b k cs
  have key : ∀ n l rest a w, findLabel c l = some rest → J l n a w → ∃ e a' w', Q e a' w' ∧ Arrives P (lone (b.at a (.code rest :: .inScope c :: k)) cs w) b k cs e a' w' := by
    intro n
    induction n using Nat.strongRecOn with
    | _ n ih =>
      intro l rest a w hr hj
      obtain ⟨rest', hr', hp⟩ := pass l n a w hj
      rw [hr] at hr'
      cases hr'
      obtain ⟨e, a₁, w₁, hq, harr⟩ := hp b (.inScope c :: k) cs
      cases e with
      | normal => exact ⟨.normal, a₁, w₁, hq, Steps.trans harr (.one step_inScope)⟩
      | exit id => exact ⟨.exit id, a₁, w₁, hq, fun k' hk => harr k' (by simp [exitTo, hk])⟩
      | goto l' =>
        obtain ⟨m, hm, hj'⟩ := hq
        obtain ⟨rest2, hr2, _⟩ := pass l' m a₁ w₁ hj'
        obtain ⟨e₂, a₂, w₂, hq₂, harr₂⟩ := ih m hm l' rest2 a₁ w₁ hr2 hj'
        have hg : gotoIn l' (.inScope c :: k) = some (.code rest2 :: .inScope c :: k) := by simp [gotoIn, hr2]
        exact ⟨e₂, a₂, w₂, hq₂, .of_steps (harr _ hg) harr₂⟩
      | ret => exact ⟨_, a₁, w₁, hq, harr⟩
      | panic ch => exact ⟨_, a₁, w₁, hq, harr⟩
      | outgrown => exact ⟨_, a₁, w₁, hq, harr⟩
  obtain ⟨e, a₁, w₁, hq, harr⟩ := hfirst b (.inScope c :: k) cs
  cases e with
  | normal => exact ⟨.normal, a₁, w₁, hq, .head step_scope (Steps.trans harr (.one step_inScope))⟩
  | exit id => exact ⟨.exit id, a₁, w₁, hq, fun k' hk => .head step_scope (harr k' (by simp [exitTo, hk]))⟩
  | goto l' =>
    obtain ⟨m, _, hj'⟩ := hq
    obtain ⟨rest2, hr2, _⟩ := pass l' m a₁ w₁ hj'
    obtain ⟨e₂, a₂, w₂, hq₂, harr₂⟩ := key m l' rest2 a₁ w₁ hr2 hj'
    have hg : gotoIn l' (.inScope c :: k) = some (.code rest2 :: .inScope c :: k) := by simp [gotoIn, hr2]
    exact ⟨e₂, a₂, w₂, hq₂, .of_steps (.head step_scope (harr _ hg)) harr₂⟩
  | ret => exact ⟨_, a₁, w₁, hq, .of_steps (.one step_scope) harr⟩
  | panic ch => exact ⟨_, a₁, w₁, hq, .of_steps (.one step_scope) harr⟩
  | outgrown => exact ⟨_, a₁, w₁, hq, .of_steps (.one step_scope) harr⟩
end Go.Proofs.Ytcjkcgfohmhbcab
