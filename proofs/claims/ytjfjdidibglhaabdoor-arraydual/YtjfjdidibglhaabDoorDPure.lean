/- Blocks of points: how many have some points; levels below; the other design; Fisher; Ryser; nothing of the program. -/
namespace Go.Proofs.YtjfjdidibglhaabDoor

/-! ### Sums over lists -/
def dS {α : Type} (l : List α) (f : α → Nat) : Nat := (l.map f).sum
theorem dS_nil {α : Type} (f : α → Nat) : dS [] f = 0 := rfl
theorem dS_cons {α : Type} (a : α) (l : List α) (f : α → Nat) : dS (a :: l) f = f a + dS l f := by simp [dS]
theorem dS_append {α : Type} (l m : List α) (f : α → Nat) : dS (l ++ m) f = dS l f + dS m f := by simp [dS]
theorem dS_congr {α : Type} {f g : α → Nat} : ∀ {l : List α}, (∀ a ∈ l, f a = g a) → dS l f = dS l g
  | [], _ => rfl
  | a :: l, h => by rw [dS_cons, dS_cons, h a List.mem_cons_self, dS_congr fun x hx => h x (List.mem_cons_of_mem _ hx)]
theorem dS_add {α : Type} (f g : α → Nat) : ∀ l : List α, dS l (fun a => f a + g a) = dS l f + dS l g
  | [] => rfl
  | a :: l => by rw [dS_cons, dS_cons, dS_cons, dS_add f g l]; omega
theorem dS_const {α : Type} (c : Nat) : ∀ l : List α, dS l (fun _ => c) = l.length * c
  | [] => by simp [dS]
  | a :: l => by rw [dS_cons, dS_const c l, List.length_cons, Nat.add_mul]; omega
theorem dS_mul {α : Type} (c : Nat) (f : α → Nat) : ∀ l : List α, dS l (fun a => c * f a) = c * dS l f
  | [] => rfl
  | a :: l => by rw [dS_cons, dS_cons, dS_mul c f l, Nat.mul_add]
theorem dS_swap {α β : Type} (f : α → β → Nat) (m : List β) : ∀ l : List α, dS l (fun a => dS m (f a)) = dS m fun b => dS l fun a => f a b
  | [] => by
    rw [dS_nil]
    exact ((dS_congr fun b _ => dS_nil _).trans (by rw [dS_const]; simp)).symm
  | a :: l => by
    rw [dS_cons, dS_swap f m l, ← dS_add]
    exact dS_congr fun b _ => (dS_cons a l fun a => f a b).symm
theorem dS_count {α : Type} (p : α → Bool) : ∀ l : List α, dS l (fun a => if p a = true then 1 else 0) = l.countP p
  | [] => rfl
  | a :: l => by rw [dS_cons, dS_count p l, List.countP_cons]; omega

/-! ### Lists of points -/
/-- A list of unlike points below v. -/
structure Pts (v : Nat) (s : List Nat) : Prop where
  nd : s.Nodup
  lt : ∀ x ∈ s, x < v
theorem Pts.nil (v : Nat) : Pts v [] := ⟨List.nodup_nil, fun x h => by simp at h⟩
theorem Pts.cons {v x : Nat} {s : List Nat} (h : Pts v s) (hx : x < v) (hn : x ∉ s) : Pts v (x :: s) := ⟨List.nodup_cons.2 ⟨hn, h.nd⟩, fun y hy => by
  rcases List.mem_cons.1 hy with rfl | hy
  · exact hx
  · exact h.lt y hy⟩
theorem Pts.filter {v : Nat} {s : List Nat} (h : Pts v s) : ((List.range v).filter fun x => s.contains x).Perm s := by
  rw [List.perm_ext_iff_of_nodup (List.nodup_range.filter _) h.nd]
  intro x
  rw [List.mem_filter, List.mem_range, List.contains_iff_mem]
  exact ⟨fun k => k.2, fun k => ⟨h.lt x k, k⟩⟩
theorem Pts.count {v : Nat} {s : List Nat} (h : Pts v s) : (List.range v).countP (fun x => s.contains x) = s.length := by
  rw [List.countP_eq_length_filter, h.filter.length_eq]
theorem Pts.le {v : Nat} {s : List Nat} (h : Pts v s) : s.length ≤ v := by
  rw [← h.count]
  exact Nat.le_trans List.countP_le_length (by simp)
/-- A part's points, and those beside it. -/
theorem Pts.diff {v : Nat} {s b : List Nat} (hs : Pts v s) (hb : Pts v b) (h : ∀ x ∈ s, x ∈ b) : (List.range v).countP (fun x => b.contains x && !s.contains x) + s.length = b.length := by
  rw [← hs.count, ← hb.count]
  generalize List.range v = l
  induction l with
  | nil => rfl
  | cons y l ih =>
    rw [List.countP_cons, List.countP_cons, List.countP_cons]
    cases e1 : s.contains y with
    | true =>
      have e2 : b.contains y = true := List.contains_iff_mem.2 (h y (List.contains_iff_mem.1 e1))
      rw [e2, if_neg (by decide), if_pos rfl]
      omega
    | false =>
      cases e2 : b.contains y with
      | true => rw [if_pos (by decide), if_neg (by decide), if_pos rfl]; omega
      | false => rw [if_neg (by decide), if_neg (by decide)]; omega
theorem Pts.rest {v : Nat} {s : List Nat} (hs : Pts v s) : (List.range v).countP (fun x => !s.contains x) + s.length = v := by
  have hb : Pts v (List.range v) := ⟨List.nodup_range, fun x hx => List.mem_range.1 hx⟩
  have h := hs.diff hb fun x hx => List.mem_range.2 (hs.lt x hx)
  rw [List.length_range] at h
  have e : (List.range v).countP (fun x => !s.contains x) = (List.range v).countP (fun x => (List.range v).contains x && !s.contains x) := List.countP_congr fun x hx => by
    have : (List.range v).contains x = true := List.contains_iff_mem.2 hx
    rw [this, Bool.true_and]
  rw [e]
  exact h

/-! ### How many blocks have some points -/
def nb (B : List (List Nat)) (s : List Nat) : Nat := B.countP fun b => s.all fun x => b.contains x
theorem nb_nil (B : List (List Nat)) : nb B [] = B.length := by
  unfold nb
  simp
theorem nb_perm (B : List (List Nat)) {s t : List Nat} (h : s.Perm t) : nb B s = nb B t := by
  unfold nb
  congr 1
  funext b
  exact h.all_eq
theorem nb_two (B : List (List Nat)) (x : Nat) : nb B [x, x] = nb B [x] := by
  unfold nb
  congr 1
  funext b
  simp
/-- The blocks are lists of unlike points. -/
def Bls (v : Nat) (B : List (List Nat)) : Prop := ∀ b ∈ B, Pts v b
/-- Points and blocks counted twice. -/
theorem nb_more {v k : Nat} {s : List Nat} (hs : Pts v s) : ∀ {B : List (List Nat)}, Bls v B → (∀ b ∈ B, b.length = k) →
    dS (List.range v) (fun x => if s.contains x = true then 0 else nb B (x :: s)) = nb B s * (k - s.length)
  | [], _, _ => by
    have : nb [] s = 0 := rfl
    rw [this, Nat.zero_mul]
    refine (dS_congr (g := fun _ => 0) fun x _ => ?_).trans (by rw [dS_const]; simp)
    split <;> rfl
  | b :: B, hB, hk => by
    have ih := nb_more hs (B := B) (fun c hc => hB c (List.mem_cons_of_mem _ hc)) (fun c hc => hk c (List.mem_cons_of_mem _ hc))
    have hb := hB b List.mem_cons_self
    have hbk := hk b List.mem_cons_self
    have e1 : ∀ t, nb (b :: B) t = nb B t + if (t.all fun x => b.contains x) = true then 1 else 0 := fun t => by unfold nb; rw [List.countP_cons]
    rw [e1 s, Nat.add_mul, ← ih]
    have e2 : dS (List.range v) (fun x => if s.contains x = true then 0 else nb (b :: B) (x :: s)) = dS (List.range v) (fun x => (if s.contains x = true then 0 else nb B (x :: s)) + if (b.contains x && !s.contains x && s.all fun x => b.contains x) = true then 1 else 0) := dS_congr fun x _ => by
      cases e : s.contains x with
      | true => simp
      | false =>
        rw [e1 (x :: s)]
        simp
    rw [e2, dS_add, dS_count]
    congr 1
    by_cases ha : (s.all fun x => b.contains x) = true
    · rw [if_pos ha, Nat.one_mul]
      have hsub : ∀ x ∈ s, x ∈ b := fun x hx => List.contains_iff_mem.1 (List.all_eq_true.1 ha x hx)
      have := hs.diff hb hsub
      rw [hbk] at this
      have e3 : (fun x => b.contains x && !s.contains x && s.all fun x => b.contains x) = fun x => b.contains x && !s.contains x := by
        funext x; rw [ha]; simp
      rw [e3]; omega
    · rw [if_neg ha, Nat.zero_mul, List.countP_eq_zero]
      intro x _ h
      rw [Bool.and_eq_true] at h
      exact ha h.2

/-- Each t points lie together in l blocks. -/
def Lev (v : Nat) (B : List (List Nat)) (t l : Nat) : Prop := ∀ s, Pts v s → s.length = t → nb B s = l
/-- It is enough to look at lists that rise. -/
theorem lev_of_rise {v t l : Nat} {B : List (List Nat)} (h : ∀ s : List Nat, s.Pairwise (· < ·) → (∀ x ∈ s, x < v) → s.length = t → nb B s = l) : Lev v B t l := fun s hs hl => by
  rw [← nb_perm B hs.filter]
  refine h _ (List.Pairwise.filter _ List.pairwise_lt_range) (fun x hx => List.mem_range.1 (List.mem_filter.1 hx).1) ?_
  rw [hs.filter.length_eq, hl]
theorem rise_pts {v : Nat} {s : List Nat} (h : s.Pairwise (· < ·)) (hl : ∀ x ∈ s, x < v) : Pts v s := ⟨h.imp fun h => Nat.ne_of_lt h, hl⟩
theorem range_pts {v t : Nat} (h : t ≤ v) : Pts v (List.range t) := ⟨List.nodup_range, fun x hx => by have := List.mem_range.1 hx; omega⟩
/-- What is of a level is of the one below. -/
theorem lev_down {v k t l : Nat} {B : List (List Nat)} (hB : Bls v B) (hk : ∀ b ∈ B, b.length = k) (hv : t + 1 ≤ v) (htk : t + 1 ≤ k) (h : Lev v B (t + 1) l) : ∃ m, Lev v B t m ∧ m * (k - t) = l * (v - t) := by
  have key : ∀ s, Pts v s → s.length = t → nb B s * (k - t) = l * (v - t) := fun s hs hl => by
    have h1 := nb_more hs hB hk
    rw [hl] at h1
    rw [← h1]
    have e : dS (List.range v) (fun x => if s.contains x = true then 0 else nb B (x :: s)) = dS (List.range v) (fun x => l * if (!s.contains x) = true then 1 else 0) := dS_congr fun x hx => by
      cases e : s.contains x with
      | true => simp
      | false =>
        have hn : x ∉ s := fun hm => by rw [List.contains_iff_mem.2 hm] at e; cases e
        rw [h (x :: s) (hs.cons (List.mem_range.1 hx) hn) (by rw [List.length_cons, hl])]
        simp
    rw [e, dS_mul, dS_count]
    have := hs.rest
    congr 1
    omega
  refine ⟨nb B (List.range t), fun s hs hl => ?_, key _ (range_pts (by omega)) (by simp)⟩
  have a := key s hs hl
  rw [← key (List.range t) (range_pts (by omega)) (by simp)] at a
  exact Nat.eq_of_mul_eq_mul_right (by omega) a

/-! ### The other design -/
/-- Blocks with all of the one list and none of the other. -/
def md (B : List (List Nat)) (s u : List Nat) : Nat := B.countP fun b => (u.all fun x => b.contains x) && s.all fun x => !b.contains x
theorem md_nil (B : List (List Nat)) (u : List Nat) : md B [] u = nb B u := by
  unfold md nb
  congr 1
  funext b
  simp
theorem md_cons (x : Nat) (s u : List Nat) : ∀ B : List (List Nat), md B (x :: s) u + md B s (x :: u) = md B s u
  | [] => rfl
  | b :: B => by
    have ih := md_cons x s u B
    have key : ∀ X Y Z : Bool, (if (Y && (!X && Z)) = true then 1 else 0) + (if ((X && Y) && Z) = true then 1 else 0) = if (Y && Z) = true then 1 else 0 := by decide
    have k := key (b.contains x) (u.all fun x => b.contains x) (s.all fun x => !b.contains x)
    have e : ∀ s u, md (b :: B) s u = md B s u + if ((u.all fun x => b.contains x) && s.all fun x => !b.contains x) = true then 1 else 0 := fun s u => by unfold md; rw [List.countP_cons]
    rw [e, e, e, List.all_cons, List.all_cons]
    omega
theorem md_lev {v t : Nat} {B : List (List Nat)} (h : ∀ j, j ≤ t → ∃ m, Lev v B j m) : ∀ a c, a + c ≤ t → ∃ q, ∀ s u, Pts v (s ++ u) → s.length = a → u.length = c → md B s u = q
  | 0, c, hc => by
    obtain ⟨m, hm⟩ := h c (by omega)
    refine ⟨m, fun s u hs hl hu => ?_⟩
    obtain rfl := List.eq_nil_of_length_eq_zero hl
    rw [md_nil]
    exact hm u hs hu
  | a + 1, c, hc => by
    obtain ⟨p, hp⟩ := md_lev h a c (by omega)
    obtain ⟨q, hq⟩ := md_lev h a (c + 1) (by omega)
    refine ⟨p - q, fun s u hs hl hu => ?_⟩
    cases s with
    | nil => simp at hl
    | cons x s =>
      have h1 := md_cons x s u B
      have nd := List.nodup_cons.1 hs.nd
      have h2 := hp s u ⟨nd.2, fun y hy => hs.lt y (List.mem_cons_of_mem _ hy)⟩ (by simpa using hl) hu
      have pm : (x :: (s ++ u)).Perm (s ++ x :: u) := List.perm_middle.symm
      have h3 := hq s (x :: u) ⟨pm.nodup_iff.1 hs.nd, fun y hy => hs.lt y (pm.mem_iff.2 hy)⟩ (by simpa using hl) (by rw [List.length_cons, hu])
      omega
/-- All points but those of a block. -/
def oth (v : Nat) (b : List Nat) : List Nat := (List.range v).filter fun x => !b.contains x
theorem oth_mem {v x : Nat} {b : List Nat} : x ∈ oth v b ↔ x < v ∧ x ∉ b := by
  unfold oth
  rw [List.mem_filter, List.mem_range]
  simp
theorem oth_pts (v : Nat) (b : List Nat) : Pts v (oth v b) := ⟨List.nodup_range.filter _, fun _ hx => (oth_mem.1 hx).1⟩
theorem oth_rise (v : Nat) (b : List Nat) : (oth v b).Pairwise (· < ·) := List.Pairwise.filter _ List.pairwise_lt_range
theorem oth_len {v : Nat} {b : List Nat} (h : Pts v b) : (oth v b).length + b.length = v := by
  unfold oth
  rw [← List.countP_eq_length_filter]
  exact h.rest
theorem oth_nb {v : Nat} {s : List Nat} (hs : Pts v s) : ∀ B : List (List Nat), nb (B.map (oth v)) s = md B s []
  | [] => rfl
  | b :: B => by
    have ih := oth_nb hs B
    unfold nb md at ih ⊢
    have this : (s.all fun x => (oth v b).contains x) = s.all fun x => !b.contains x := by
      rw [Bool.eq_iff_iff, List.all_eq_true, List.all_eq_true]
      constructor
      · intro h x hx
        have := oth_mem.1 (List.contains_iff_mem.1 (h x hx))
        simpa using this.2
      · intro h x hx
        refine List.contains_iff_mem.2 (oth_mem.2 ⟨hs.lt x hx, ?_⟩)
        have := h x hx
        simpa using this
    rw [List.map_cons, List.countP_cons, List.countP_cons, ih, this, List.all_nil, Bool.true_and]
/-- The complement is of the same level. -/
theorem lev_oth {v t : Nat} {B : List (List Nat)} (h : ∀ j, j ≤ t → ∃ m, Lev v B j m) : ∃ q, Lev v (B.map (oth v)) t q := by
  obtain ⟨q, hq⟩ := md_lev h t 0 (by omega)
  refine ⟨q, fun s hs hl => ?_⟩
  rw [oth_nb hs]
  exact hq s [] (by simpa using hs) hl rfl
theorem lev_all {v k l : Nat} {B : List (List Nat)} (hB : Bls v B) (hk : ∀ b ∈ B, b.length = k) : ∀ {t : Nat}, t ≤ v → t ≤ k → Lev v B t l → ∀ j, j ≤ t → ∃ m, Lev v B j m := by
  intro t
  induction t generalizing l with
  | zero =>
    intro _ _ h j hj
    have e : j = 0 := by omega
    subst e
    exact ⟨l, h⟩
  | succ t ih =>
    intro hv htk h j hj
    by_cases e : j = t + 1
    · subst e; exact ⟨l, h⟩
    · obtain ⟨m, hm, _⟩ := lev_down hB hk hv htk h
      exact ih (by omega) (by omega) hm j (by omega)
theorem oth_oth {v : Nat} {b : List Nat} (h : b.Pairwise (· < ·)) (hl : ∀ x ∈ b, x < v) : oth v (oth v b) = b := by
  refine List.Perm.eq_of_pairwise (le := fun a b => a < b) (fun a c _ _ h1 h2 => by omega) (oth_rise v _) h ?_
  rw [List.perm_ext_iff_of_nodup (oth_pts v _).nd (rise_pts h hl).nd]
  intro x
  rw [oth_mem, oth_mem]
  constructor
  · rintro ⟨h1, h2⟩
    exact Classical.byContradiction fun h3 => h2 ⟨h1, h3⟩
  · intro hx
    exact ⟨hl x hx, fun h2 => h2.2 hx⟩
end Go.Proofs.YtjfjdidibglhaabDoor
