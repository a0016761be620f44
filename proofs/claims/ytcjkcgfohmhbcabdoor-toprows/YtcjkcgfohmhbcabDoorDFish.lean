/- Fisher and Ryser; derived and residual; nothing of the program. -/
import Derived.Test.YtcjkcgfohmhbcabDoorDPure
namespace Go.Proofs.YtcjkcgfohmhbcabDoor

/-- In how many points two blocks meet. -/
def mt (b c : List Nat) : Nat := b.countP fun x => c.contains x
theorem mt_self (b : List Nat) : mt b b = b.length := by
  unfold mt
  rw [List.countP_eq_length]
  exact fun x hx => List.contains_iff_mem.2 hx
theorem nb_one (B : List (List Nat)) (x : Nat) : nb B [x] = dS B fun b => if b.contains x = true then 1 else 0 := by
  rw [dS_count]
  unfold nb
  congr 1
  funext b
  simp
theorem nb_both (B : List (List Nat)) (x y : Nat) : nb B [x, y] = dS B fun b => if (b.contains x && b.contains y) = true then 1 else 0 := by
  rw [dS_count]
  unfold nb
  congr 1
  funext b
  simp
theorem mt_sum (a : List Nat) (B : List (List Nat)) : dS B (mt a) = dS a fun x => nb B [x] := by
  have e : dS B (mt a) = dS B fun b => dS a fun x => if b.contains x = true then 1 else 0 := dS_congr fun b _ => (dS_count _ _).symm
  rw [e, dS_swap]
  exact dS_congr fun x _ => (nb_one B x).symm
theorem mt_sq (a b : List Nat) : mt a b * mt a b = dS a fun x => dS a fun y => if (b.contains x && b.contains y) = true then 1 else 0 := by
  have e : ∀ x, dS a (fun y => if (b.contains x && b.contains y) = true then 1 else 0) = mt a b * if b.contains x = true then 1 else 0 := fun x => by
    rw [dS_count]
    cases b.contains x with
    | true => rw [if_pos rfl, Nat.mul_one]; unfold mt; congr 1
    | false => rw [if_neg (by decide), Nat.mul_zero, List.countP_eq_zero]; intro y _; simp
  rw [dS_congr fun x _ => e x, dS_mul, dS_count]
  rfl
theorem mt_sum2 (a : List Nat) (B : List (List Nat)) : dS B (fun b => mt a b * mt a b) = dS a fun x => dS a fun y => nb B [x, y] := by
  rw [dS_congr fun b _ => mt_sq a b, dS_swap]
  refine dS_congr fun x _ => ?_
  rw [dS_swap]
  exact dS_congr fun y _ => (nb_both B x y).symm
theorem one_other {r l x : Nat} : ∀ {a : List Nat}, a.Nodup → x ∈ a → dS a (fun y => if y = x then r else l) = r + (a.length - 1) * l
  | [], _, h => by simp at h
  | y :: a, nd, h => by
    have nd' := List.nodup_cons.1 nd
    rw [dS_cons, List.length_cons, Nat.add_sub_cancel]
    by_cases e : y = x
    · subst e
      rw [if_pos rfl, dS_congr (g := fun _ => l) fun z hz => if_neg (fun (e : z = y) => nd'.1 (by rw [← e]; exact hz)), dS_const]
    · have hx : x ∈ a := (List.mem_cons.1 h).resolve_left fun e' => e e'.symm
      rw [if_neg e, one_other nd'.2 hx]
      have : 1 ≤ a.length := List.length_pos_of_mem hx
      obtain ⟨m, hm⟩ : ∃ m, a.length = m + 1 := ⟨a.length - 1, by omega⟩
      rw [hm, Nat.add_sub_cancel, Nat.add_mul]; omega
/-- Sums of meets with one block, of a design of level 2. -/
theorem meets_of {v k r l : Nat} {B : List (List Nat)} {a : List Nat} (ha : Pts v a) (hk : a.length = k) (h1 : Lev v B 1 r) (h2 : Lev v B 2 l) :
    dS B (mt a) = k * r ∧ dS B (fun b => mt a b * mt a b) = k * (r + (k - 1) * l) := by
  constructor
  · rw [mt_sum, dS_congr (g := fun _ => r) fun x hx => h1 [x] ((Pts.nil v).cons (ha.lt x hx) (by simp)) rfl, dS_const, hk]
  · rw [mt_sum2, dS_congr (g := fun _ => r + (k - 1) * l), dS_const, hk]
    intro x hx
    rw [← hk, ← one_other ha.nd hx]
    refine dS_congr fun y hy => ?_
    by_cases e : y = x
    · subst e
      rw [if_pos rfl, nb_two]
      exact h1 [y] ((Pts.nil v).cons (ha.lt y hy) (by simp)) rfl
    · rw [if_neg e]
      exact h2 [x, y] (((Pts.nil v).cons (ha.lt y hy) (by simp)).cons (ha.lt x hx) (by simp [Ne.symm e])) rfl

/-! ### Squares that are summed up -/
theorem dS_perm {α : Type} {f : α → Nat} {l m : List α} (h : l.Perm m) : dS l f = dS m f := by
  induction h with
  | nil => rfl
  | cons x _ ih => rw [dS_cons, dS_cons, ih]
  | swap x y l => rw [dS_cons, dS_cons, dS_cons, dS_cons]; omega
  | trans _ _ ih1 ih2 => exact ih1.trans ih2
/-- What counting says of a design of level 2: its other numbers. -/
structure Two (v k r l : Nat) (B : List (List Nat)) : Prop where
  bl : Bls v B
  sz : ∀ b ∈ B, b.length = k
  l1 : Lev v B 1 r
  l2 : Lev v B 2 l
  e1 : r * (k - 1) = l * (v - 1)
  e2 : B.length * k = r * v
/-- The meets of one block with all others. -/
theorem Two.others {v k r l : Nat} {B B1 B2 : List (List Nat)} {a : List Nat} (T : Two v k r l B) (hB : B = B1 ++ a :: B2) :
    dS (B1 ++ B2) (mt a) + k = k * r ∧ dS (B1 ++ B2) (fun b => mt a b * mt a b) + k * k = k * (r + (k - 1) * l) ∧ (B1 ++ B2).length + 1 = B.length := by
  have ha : a ∈ B := by rw [hB]; simp
  obtain ⟨s1, s2⟩ := meets_of (T.bl a ha) (T.sz a ha) T.l1 T.l2
  have pm : B.Perm (a :: (B1 ++ B2)) := by rw [hB]; exact List.perm_middle
  rw [dS_perm pm, dS_cons] at s1 s2
  rw [mt_self, T.sz a ha] at s1 s2
  refine ⟨by omega, by omega, ?_⟩
  rw [pm.length_eq, List.length_cons]
end Go.Proofs.YtcjkcgfohmhbcabDoor
