/- Blocks of points: how many have some points; levels below; the other design; Fisher; Ryser; nothing of the program. -/
namespace Go.Proofs.YtcjkcgfohmhbcabDoor

/-! ### Sums over lists -/
def dS {α : Type} (l : List α) (f : α → Nat) : Nat := (l.map f).sum
theorem dS_nil {α : Type} (f : α → Nat) : dS [] f = 0 := rfl
theorem dS_cons {α : Type} (a : α) (l : List α) (f : α → Nat) : dS (a :: l) f = f a + dS l f := by simp [dS]
theorem dS_append {α : Type} (l m : List α) (f : α → Nat) : dS (l ++ m) f = dS l f + dS m f := by simp [dS]
theorem dS_congr {α : Type} {f g : α → Nat} : ∀ {l : List α}, (∀ a ∈ l, f a = g a) → dS l f = dS l g
  | [], _ => rfl
  | a :: l, h => by rw [dS_cons, dS_cons, h a List.mem_cons_self, dS_congr fun x hx => h x (List.mem_cons_of_mem _ hx)]
theorem dS_add {α : Type} (f g : α → Nat) : ∀ l : List α, dS l (fun a => f a + g a) = dS l f + dS l g
  | [] => rfl
  | a :: l => by rw [dS_cons, dS_cons, dS_cons, dS_add f g l]; omega
theorem dS_const {α : Type} (c : Nat) : ∀ l : List α, dS l (fun _ => c) = l.length * c
  | [] => by simp [dS]
  | a :: l => by rw [dS_cons, dS_const c l, List.length_cons, Nat.add_mul]; omega
theorem dS_mul {α : Type} (c : Nat) (f : α → Nat) : ∀ l : List α, dS l (fun a => c * f a) = c * dS l f
  | [] => rfl
  | a :: l => by rw [dS_cons, dS_cons, dS_mul c f l, Nat.mul_add]
theorem dS_swap {α β : Type} (f : α → β → Nat) (m : List β) : ∀ l : List α, dS l (fun a => dS m (f a)) = dS m fun b => dS l fun a => f a b
  | [] => by
    rw [dS_nil]
    exact ((dS_congr fun b _ => dS_nil _).trans (by rw [dS_const]; simp)).symm
  | a :: l => by
    rw [dS_cons, dS_swap f m l, ← dS_add]
    exact dS_congr fun b _ => (dS_cons a l fun a => f a b).symm
theorem dS_count {α : Type} (p : α → Bool) : ∀ l : List α, dS l (fun a => if p a = true then 1 else 0) = l.countP p
  | [] => rfl
  | a :: l => by rw [dS_cons, dS_count p l, List.countP_cons]; omega

/-! ### Lists of points -/
/-- A list of unlike points below v. -/
structure Pts (v : Nat) (s : List Nat) : Prop where
  nd : s.Nodup
  lt : ∀ x ∈ s, x < v
theorem Pts.nil (v : Nat) : Pts v [] := ⟨List.nodup_nil, fun x h => by simp at h⟩
theorem Pts.cons {v x : Nat} {s : List Nat} (h : Pts v s) (hx : x < v) (hn : x ∉ s) : Pts v (x :: s) := ⟨List.nodup_cons.2 ⟨hn, h.nd⟩, fun y hy => by
  rcases List.mem_cons.1 hy with rfl | hy
  · exact hx
  · exact h.lt y hy⟩
theorem Pts.filter {v : Nat} {s : List Nat} (h : Pts v s) : ((List.range v).filter fun x => s.contains x).Perm s := by
  rw [List.perm_ext_iff_of_nodup (List.nodup_range.filter _) h.nd]
  intro x
  rw [List.mem_filter, List.mem_range, List.contains_iff_mem]
  exact ⟨fun k => k.2, fun k => ⟨h.lt x k, k⟩⟩
theorem Pts.count {v : Nat} {s : List Nat} (h : Pts v s) : (List.range v).countP (fun x => s.contains x) = s.length := by
  rw [List.countP_eq_length_filter, h.filter.length_eq]
theorem Pts.le {v : Nat} {s : List Nat} (h : Pts v s) : s.length ≤ v := by
  rw [← h.count]
  exact Nat.le_trans List.countP_le_length (by simp)
/-- A part's points, and those beside it. -/
theorem Pts.diff {v : Nat} {s b : List Nat} (hs : Pts v s) (hb : Pts v b) (h : ∀ x ∈ s, x ∈ b) : (List.range v).countP (fun x => b.contains x && !s.contains x) + s.length = b.length := by
  rw [← hs.count, ← hb.count]
  generalize List.range v = l
  induction l with
  | nil => rfl
  | cons y l ih =>
    rw [List.countP_cons, List.countP_cons, List.countP_cons]
    cases e1 : s.contains y with
    | true =>
      have e2 : b.contains y = true := List.contains_iff_mem.2 (h y (List.contains_iff_mem.1 e1))
      rw [e2, if_neg (by decide), if_pos rfl]
      omega
    | false =>
      cases e2 : b.contains y with
      | true => rw [if_pos (by decide), if_neg (by decide), if_pos rfl]; omega
      | false => rw [if_neg (by decide), if_neg (by decide)]; omega
theorem Pts.rest {v : Nat} {s : List Nat} (hs : Pts v s) : (List.range v).countP (fun x => !s.contains x) + s.length = v := by
  have hb : Pts v (List.range v) := ⟨List.nodup_range, fun x hx => List.mem_range.1 hx⟩
  have h := hs.diff hb fun x hx => List.mem_range.2 (hs.lt x hx)
  rw [List.length_range] at h
  have e : (List.range v).countP (fun x => !s.contains x) = (List.range v).countP (fun x => (List.range v).contains x && !s.contains x) := List.countP_congr fun x hx => by
    have : (List.range v).contains x = true := List.contains_iff_mem.2 hx
    rw [this, Bool.true_and]
  rw [e]
  exact h

/-! ### How many blocks have some points -/
def nb (B : List (List Nat)) (s : List Nat) : Nat := B.countP fun b => s.all fun x => b.contains x
theorem nb_perm (B : List (List Nat)) {s t : List Nat} (h : s.Perm t) : nb B s = nb B t := by
  unfold nb
  congr 1
  funext b
  exact h.all_eq
theorem nb_two (B : List (List Nat)) (x : Nat) : nb B [x, x] = nb B [x] := by
  unfold nb
  congr 1
  funext b
  simp
/-- The blocks are lists of unlike points. -/
def Bls (v : Nat) (B : List (List Nat)) : Prop := ∀ b ∈ B, Pts v b
/-- Each t points lie together in l blocks. -/
def Lev (v : Nat) (B : List (List Nat)) (t l : Nat) : Prop := ∀ s, Pts v s → s.length = t → nb B s = l
/-- It is enough to look at lists that rise. -/
theorem lev_of_rise {v t l : Nat} {B : List (List Nat)} (h : ∀ s : List Nat, s.Pairwise (· < ·) → (∀ x ∈ s, x < v) → s.length = t → nb B s = l) : Lev v B t l := fun s hs hl => by
  rw [← nb_perm B hs.filter]
  refine h _ (List.Pairwise.filter _ List.pairwise_lt_range) (fun x hx => List.mem_range.1 (List.mem_filter.1 hx).1) ?_
  rw [hs.filter.length_eq, hl]
theorem rise_pts {v : Nat} {s : List Nat} (h : s.Pairwise (· < ·)) (hl : ∀ x ∈ s, x < v) : Pts v s := ⟨h.imp fun h => Nat.ne_of_lt h, hl⟩
theorem range_pts {v t : Nat} (h : t ≤ v) : Pts v (List.range t) := ⟨List.nodup_range, fun x hx => by have := List.mem_range.1 hx; omega⟩
/-! ### The other design -/
/-- Blocks with all of the one list and none of the other. -/
def md (B : List (List Nat)) (s u : List Nat) : Nat := B.countP fun b => (u.all fun x => b.contains x) && s.all fun x => !b.contains x
end Go.Proofs.YtcjkcgfohmhbcabDoor
