/- Paths counted. Nothing of the program. -/
import Derived.Test.YtgkfddcmngodgabTrL
namespace Go.Proofs.Ytgkfddcmngodgab

/-- Sums over picks. -/
def sN : List Nat → (Nat → List Nat → Nat) → Nat
  | [], _ => 0
  | a :: S, f => f a S + sN S fun b R => f b (a :: R)
theorem sN_par : ∀ (S : List Nat) (f : Nat → List Nat → Nat), (sN S f % 2 == 1) = sP S fun b R => f b R % 2 == 1
  | [], _ => rfl
  | a :: S, f => by
    have h := sN_par S fun b R => f b (a :: R)
    show ((f a S + sN S fun b R => f b (a :: R)) % 2 == 1) = ((f a S % 2 == 1) ^^ sP S fun b R => f b (a :: R) % 2 == 1)
    rw [← h]
    rcases Nat.mod_two_eq_zero_or_one (f a S) with e1 | e1 <;> rcases Nat.mod_two_eq_zero_or_one (sN S fun b R => f b (a :: R)) with e2 | e2 <;> rw [Nat.add_mod, e1, e2] <;> rfl
theorem erase_cons_ne {a b : Nat} {S : List Nat} (h : a ≠ b) : (a :: S).erase b = a :: S.erase b := by
  rw [List.erase_cons]; simp [h]
/-- A list without doubles: a sum over its members. -/
theorem sN_sum : ∀ {S : List Nat} (f : Nat → List Nat → Nat), S.Nodup → sN S f = sumL (S.map fun b => f b (S.erase b))
  | [], _, _ => rfl
  | a :: S, f, h => by
    obtain ⟨h1, h2⟩ := List.nodup_cons.1 h
    have hS := sN_sum (fun b R => f b (a :: R)) h2
    show (f a S + sN S fun b R => f b (a :: R)) = _
    rw [hS, List.map_cons, sumL_cons, List.erase_cons_head]
    congr 2
    refine List.map_congr_left fun b hb => ?_
    have hne : a ≠ b := fun e => h1 (by rw [e]; exact hb)
    rw [erase_cons_ne hne]
/-- Paths that go on from a through all of R. -/
def cnN (d : Nat → Nat → Bool) : Nat → List Nat → Nat → Nat
  | 0, _, _ => 1
  | k + 1, R, a => sN R fun b R' => if d a b then cnN d k R' b else 0
theorem cnN_par (d : Nat → Nat → Bool) : ∀ (k : Nat) (R : List Nat) (a : Nat), (cnN d k R a % 2 == 1) = pfN d k R a
  | 0, _, _ => rfl
  | k + 1, R, a => by
    unfold cnN pfN
    rw [sN_par]
    congr 1
    funext b R'
    cases d a b with
    | false => rfl
    | true => simpa using cnN_par d k R' b
/-- All paths. -/
def cH (d : Nat → Nat → Bool) (S : List Nat) : Nat := sN S fun a R => cnN d R.length R a
theorem cH_par (d : Nat → Nat → Bool) (S : List Nat) : (cH d S % 2 == 1) = pH d S := by
  unfold cH pH
  rw [sN_par]
  congr 1
  funext a R
  exact cnN_par d R.length R a
theorem odd_paths {n : Nat} (hn : 1 ≤ n) {t : Nat → Nat → Bool} (h : Trn (List.range n) t) : cH t (List.range n) % 2 = 1 := by
  have := cH_par t (List.range n)
  rw [redei hn h] at this
  simpa using this
end Go.Proofs.Ytgkfddcmngodgab
