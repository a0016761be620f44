/- Fisher and Ryser; derived and residual; nothing of the program. -/
import Derived.Test.YtlmjlffipinjiabDoorDPure
namespace Go.Proofs.YtlmjlffipinjiabDoor

/-- In how many points two blocks meet. -/
def mt (b c : List Nat) : Nat := b.countP fun x => c.contains x
theorem mt_self (b : List Nat) : mt b b = b.length := by
  unfold mt
  rw [List.countP_eq_length]
  exact fun x hx => List.contains_iff_mem.2 hx
theorem nb_one (B : List (List Nat)) (x : Nat) : nb B [x] = dS B fun b => if b.contains x = true then 1 else 0 := by
  rw [dS_count]
  unfold nb
  congr 1
  funext b
  simp
theorem nb_both (B : List (List Nat)) (x y : Nat) : nb B [x, y] = dS B fun b => if (b.contains x && b.contains y) = true then 1 else 0 := by
  rw [dS_count]
  unfold nb
  congr 1
  funext b
  simp
theorem mt_sum (a : List Nat) (B : List (List Nat)) : dS B (mt a) = dS a fun x => nb B [x] := by
  have e : dS B (mt a) = dS B fun b => dS a fun x => if b.contains x = true then 1 else 0 := dS_congr fun b _ => (dS_count _ _).symm
  rw [e, dS_swap]
  exact dS_congr fun x _ => (nb_one B x).symm
theorem mt_sq (a b : List Nat) : mt a b * mt a b = dS a fun x => dS a fun y => if (b.contains x && b.contains y) = true then 1 else 0 := by
  have e : ∀ x, dS a (fun y => if (b.contains x && b.contains y) = true then 1 else 0) = mt a b * if b.contains x = true then 1 else 0 := fun x => by
    rw [dS_count]
    cases b.contains x with
    | true => rw [if_pos rfl, Nat.mul_one]; unfold mt; congr 1
    | false => rw [if_neg (by decide), Nat.mul_zero, List.countP_eq_zero]; intro y _; simp
  rw [dS_congr fun x _ => e x, dS_mul, dS_count]
  rfl
theorem mt_sum2 (a : List Nat) (B : List (List Nat)) : dS B (fun b => mt a b * mt a b) = dS a fun x => dS a fun y => nb B [x, y] := by
  rw [dS_congr fun b _ => mt_sq a b, dS_swap]
  refine dS_congr fun x _ => ?_
  rw [dS_swap]
  exact dS_congr fun y _ => (nb_both B x y).symm
theorem one_other {r l x : Nat} : ∀ {a : List Nat}, a.Nodup → x ∈ a → dS a (fun y => if y = x then r else l) = r + (a.length - 1) * l
  | [], _, h => by simp at h
  | y :: a, nd, h => by
    have nd' := List.nodup_cons.1 nd
    rw [dS_cons, List.length_cons, Nat.add_sub_cancel]
    by_cases e : y = x
    · subst e
      rw [if_pos rfl, dS_congr (g := fun _ => l) fun z hz => if_neg (fun (e : z = y) => nd'.1 (by rw [← e]; exact hz)), dS_const]
    · have hx : x ∈ a := (List.mem_cons.1 h).resolve_left fun e' => e e'.symm
      rw [if_neg e, one_other nd'.2 hx]
      have : 1 ≤ a.length := List.length_pos_of_mem hx
      obtain ⟨m, hm⟩ : ∃ m, a.length = m + 1 := ⟨a.length - 1, by omega⟩
      rw [hm, Nat.add_sub_cancel, Nat.add_mul]; omega
/-- Sums of meets with one block, of a design of level 2. -/
theorem meets_of {v k r l : Nat} {B : List (List Nat)} {a : List Nat} (ha : Pts v a) (hk : a.length = k) (h1 : Lev v B 1 r) (h2 : Lev v B 2 l) :
    dS B (mt a) = k * r ∧ dS B (fun b => mt a b * mt a b) = k * (r + (k - 1) * l) := by
  constructor
  · rw [mt_sum, dS_congr (g := fun _ => r) fun x hx => h1 [x] ((Pts.nil v).cons (ha.lt x hx) (by simp)) rfl, dS_const, hk]
  · rw [mt_sum2, dS_congr (g := fun _ => r + (k - 1) * l), dS_const, hk]
    intro x hx
    rw [← hk, ← one_other ha.nd hx]
    refine dS_congr fun y hy => ?_
    by_cases e : y = x
    · subst e
      rw [if_pos rfl, nb_two]
      exact h1 [y] ((Pts.nil v).cons (ha.lt y hy) (by simp)) rfl
    · rw [if_neg e]
      exact h2 [x, y] (((Pts.nil v).cons (ha.lt y hy) (by simp)).cons (ha.lt x hx) (by simp [Ne.symm e])) rfl

/-! ### Squares that are summed up -/
def zS {α : Type} (l : List α) (f : α → Int) : Int := (l.map f).sum
theorem zS_cons {α : Type} (a : α) (l : List α) (f : α → Int) : zS (a :: l) f = f a + zS l f := by simp [zS]
theorem zS_nonneg {α : Type} {f : α → Int} : ∀ {l : List α}, (∀ a ∈ l, 0 ≤ f a) → 0 ≤ zS l f
  | [], _ => by simp [zS]
  | a :: l, h => by
    rw [zS_cons]
    have h1 := h a List.mem_cons_self
    have h2 := zS_nonneg (l := l) fun x hx => h x (List.mem_cons_of_mem _ hx)
    omega
theorem zS_zero {α : Type} {f : α → Int} : ∀ {l : List α}, (∀ a ∈ l, 0 ≤ f a) → zS l f = 0 → ∀ a ∈ l, f a = 0
  | [], _, _, a, ha => by simp at ha
  | b :: l, h, hz, a, ha => by
    rw [zS_cons] at hz
    have h1 := h b List.mem_cons_self
    have h2 := zS_nonneg (l := l) fun x hx => h x (List.mem_cons_of_mem _ hx)
    rcases List.mem_cons.1 ha with rfl | ha
    · omega
    · exact zS_zero (fun x hx => h x (List.mem_cons_of_mem _ hx)) (by omega) a ha
theorem zS_sq {α : Type} (m : α → Nat) (p q : Int) : ∀ l : List α, zS l (fun a => (p * (m a : Int) - q) * (p * (m a : Int) - q)) = p * p * (dS l (fun a => m a * m a) : Nat) - 2 * p * q * (dS l m : Nat) + (l.length : Int) * (q * q)
  | [] => by simp [zS, dS]
  | a :: l => by
    rw [zS_cons, zS_sq m p q l, dS_cons, dS_cons, List.length_cons]
    push_cast
    grind
theorem dS_perm {α : Type} {f : α → Nat} {l m : List α} (h : l.Perm m) : dS l f = dS m f := by
  induction h with
  | nil => rfl
  | cons x _ ih => rw [dS_cons, dS_cons, ih]
  | swap x y l => rw [dS_cons, dS_cons, dS_cons, dS_cons]; omega
  | trans _ _ ih1 ih2 => exact ih1.trans ih2
theorem sq_nonneg' (x : Int) : 0 ≤ x * x := by
  rcases Int.le_total 0 x with h | h
  · exact Int.mul_nonneg h h
  · have := Int.mul_nonneg (show 0 ≤ -x by omega) (show 0 ≤ -x by omega)
    rw [Int.neg_mul_neg] at this
    exact this
theorem sq_zero' {x : Int} (h : x * x = 0) : x = 0 := by
  rcases Int.mul_eq_zero.1 h with h | h <;> exact h
/-- What counting says of a design of level 2: its other numbers. -/
structure Two (v k r l : Nat) (B : List (List Nat)) : Prop where
  bl : Bls v B
  sz : ∀ b ∈ B, b.length = k
  l1 : Lev v B 1 r
  l2 : Lev v B 2 l
  e1 : r * (k - 1) = l * (v - 1)
  e2 : B.length * k = r * v
theorem two_of {v k l : Nat} {B : List (List Nat)} (hB : Bls v B) (hk : ∀ b ∈ B, b.length = k) (h2 : 2 ≤ k) (hv : k < v) (h : Lev v B 2 l) : ∃ r, Two v k r l B := by
  obtain ⟨r, h1, e1⟩ := lev_down hB hk (t := 1) (by omega) (by omega) h
  obtain ⟨m, h0, e0⟩ := lev_down hB hk (t := 0) (by omega) (by omega) h1
  have hm : m = B.length := by rw [← nb_nil B]; exact (h0 [] (Pts.nil v) rfl).symm
  rw [hm] at e0
  exact ⟨r, hB, hk, h1, h, e1, e0⟩
/-- The meets of one block with all others. -/
theorem Two.others {v k r l : Nat} {B B1 B2 : List (List Nat)} {a : List Nat} (T : Two v k r l B) (hB : B = B1 ++ a :: B2) :
    dS (B1 ++ B2) (mt a) + k = k * r ∧ dS (B1 ++ B2) (fun b => mt a b * mt a b) + k * k = k * (r + (k - 1) * l) ∧ (B1 ++ B2).length + 1 = B.length := by
  have ha : a ∈ B := by rw [hB]; simp
  obtain ⟨s1, s2⟩ := meets_of (T.bl a ha) (T.sz a ha) T.l1 T.l2
  have pm : B.Perm (a :: (B1 ++ B2)) := by rw [hB]; exact List.perm_middle
  rw [dS_perm pm, dS_cons] at s1 s2
  rw [mt_self, T.sz a ha] at s1 s2
  refine ⟨by omega, by omega, ?_⟩
  rw [pm.length_eq, List.length_cons]
theorem Two.some_point {v k r l : Nat} {B : List (List Nat)} (T : Two v k r l B) (hne : B ≠ []) (hk : 2 ≤ k) : 1 ≤ r ∧ 1 ≤ l := by
  obtain ⟨a, ha⟩ := List.exists_mem_of_ne_nil B hne
  obtain ⟨x, y, s, e⟩ : ∃ x y s, a = x :: y :: s := by
    have := T.sz a ha
    match a, this with
    | [], h => simp at h; omega
    | [x], h => simp at h; omega
    | x :: y :: s, _ => exact ⟨x, y, s, rfl⟩
  have hp := T.bl a ha
  rw [e] at hp
  have nd := List.nodup_cons.1 hp.nd
  have hx := hp.lt x (by simp)
  have hy := hp.lt y (by simp)
  have hxy : x ≠ y := fun h => nd.1 (by rw [h]; simp)
  have h1 := T.l1 [x] ((Pts.nil v).cons hx (by simp)) rfl
  have h2 := T.l2 [x, y] (((Pts.nil v).cons hy (by simp)).cons hx (by simp [hxy])) rfl
  have c : ∀ s, (∀ z ∈ s, z ∈ a) → 1 ≤ nb B s := fun s hs => by
    unfold nb
    refine List.countP_pos_iff.2 ⟨a, ha, List.all_eq_true.2 fun z hz => List.contains_iff_mem.2 (hs z hz)⟩
  rw [← h1, ← h2]
  refine ⟨c _ fun z hz => ?_, c _ fun z hz => ?_⟩
  · rw [e]; simp at hz; simp [hz]
  · rw [e]; simp at hz; rcases hz with rfl | rfl <;> simp
theorem fisher_id {v k r l b : Int} (h4 : r * k = l * v) (h5 : b * (k + 1) = r * (v + 1)) :
    v * ((b - 1) * ((k + 1) * (r + k * l) - (k + 1) * (k + 1)) - ((k + 1) * r - (k + 1)) * ((k + 1) * r - (k + 1))) = r * ((r - (k + 1)) * ((v - k) * (v - k))) := by
  have a : (b - 1) * ((k + 1) * (r + k * l) - (k + 1) * (k + 1)) = (r * (v + 1) - (k + 1)) * (r + k * l - (k + 1)) := by
    rw [← h5]
    clear h4 h5
    grind
  have c : v * (r + k * l - (k + 1)) = v * (r - (k + 1)) + k * (r * k) := by
    rw [h4]
    clear a h4 h5
    grind
  have d : ∀ X Y Z : Int, v * (X * Y - Z) = X * (v * Y) - v * Z := fun X Y Z => by clear a c h4 h5; grind
  rw [a, d, c]
  clear a c d h4 h5
  grind
/-- Fisher. -/
theorem fisher {v k r l : Nat} {B : List (List Nat)} (T : Two v k r l B) (hne : B ≠ []) (hk : 2 ≤ k) (hv : k < v) : v ≤ B.length := by
  obtain ⟨hr, _⟩ := T.some_point hne hk
  obtain ⟨a, B2, hB⟩ : ∃ a B2, B = [] ++ a :: B2 := by
    cases B with
    | nil => exact (hne rfl).elim
    | cons a B2 => exact ⟨a, B2, rfl⟩
  obtain ⟨s1, s2, s3⟩ := T.others hB
  have hsq := zS_sq (mt a) ((([] ++ B2).length : Nat) : Int) ((dS ([] ++ B2) (mt a) : Nat) : Int) ([] ++ B2)
  have hnn : 0 ≤ zS ([] ++ B2) (fun b => ((([] ++ B2).length : Nat) * (mt a b : Int) - (dS ([] ++ B2) (mt a) : Nat)) * ((([] ++ B2).length : Nat) * (mt a b : Int) - (dS ([] ++ B2) (mt a) : Nat))) := zS_nonneg fun b _ => sq_nonneg' _
  rw [hsq] at hnn
  have e1 := T.e1
  have e2 := T.e2
  generalize hn : ([] ++ B2).length = n at *
  generalize dS ([] ++ B2) (mt a) = S1 at *
  generalize dS ([] ++ B2) (fun b => mt a b * mt a b) = S2 at *
  generalize B.length = b at *
  clear hsq hn hB T hne
  obtain ⟨k', rfl⟩ : ∃ k', k = k' + 1 := ⟨k - 1, by omega⟩
  obtain ⟨v', rfl⟩ : ∃ v', v = v' + 1 := ⟨v - 1, by omega⟩
  simp only [Nat.add_sub_cancel] at e1 s2
  have z1 : (S1 : Int) + (k' + 1) = (k' + 1) * r := by exact_mod_cast s1
  have z2 : (S2 : Int) + (k' + 1) * (k' + 1) = (k' + 1) * (r + k' * l) := by exact_mod_cast s2
  have z3 : (n : Int) + 1 = b := by exact_mod_cast s3
  have z4 : (r : Int) * k' = l * v' := by exact_mod_cast e1
  have z5 : (b : Int) * (k' + 1) = r * (v' + 1) := by exact_mod_cast e2
  refine Classical.byContradiction fun hlt => ?_
  have hbv : (b : Int) + 1 ≤ v' + 1 := by omega
  have hr0 : (1 : Int) ≤ r := by omega
  have hkv : (k' : Int) + 1 < v' + 1 := by omega
  have hrk : (r : Int) < k' + 1 := by
    refine Classical.byContradiction fun h => ?_
    have h1 : ((k' : Int) + 1) * (v' + 1) ≤ r * (v' + 1) := Int.mul_le_mul_of_nonneg_right (by omega) (by omega)
    have h2 : (b : Int) * (k' + 1) ≤ v' * (k' + 1) := Int.mul_le_mul_of_nonneg_right (by omega) (by omega)
    have h3 : ((k' : Int) + 1) * (v' + 1) = v' * (k' + 1) + (k' + 1) := by grind
    omega
  have hn0 : (1 : Int) ≤ n := by
    refine Classical.byContradiction fun h => ?_
    have hb1 : (b : Int) = 1 := by omega
    rw [hb1, Int.one_mul] at z5
    have h1 : (1 : Int) * (v' + 1) ≤ r * (v' + 1) := Int.mul_le_mul_of_nonneg_right (by omega) (by omega)
    omega
  have id1 : (n : Int) * n * S2 - 2 * n * S1 * S1 + n * (S1 * S1) = n * (n * S2 - S1 * S1) := by grind
  rw [id1] at hnn
  have h4 : 0 ≤ (n : Int) * S2 - S1 * S1 := by
    refine Classical.byContradiction fun h => ?_
    have : (n : Int) * (n * S2 - S1 * S1) ≤ 1 * (n * S2 - S1 * S1) := Int.mul_le_mul_of_nonpos_right hn0 (by omega)
    omega
  have h5 : 0 ≤ (v' : Int) * (n * S2 - S1 * S1) := Int.mul_nonneg (by omega) h4
  have id2 : (v' : Int) * (n * S2 - S1 * S1) = r * ((r - (k' + 1)) * ((v' - k') * (v' - k'))) := by
    have y1 : (S1 : Int) = (k' + 1) * r - (k' + 1) := by omega
    have y2 : (S2 : Int) = (k' + 1) * (r + k' * l) - (k' + 1) * (k' + 1) := by omega
    have y3 : (n : Int) = b - 1 := by omega
    rw [y1, y2, y3]
    exact fisher_id z4 z5
  rw [id2] at h5
  have h6 : 0 < ((v' : Int) - k') * (v' - k') := Int.mul_pos (by omega) (by omega)
  have h7 : ((r : Int) - (k' + 1)) * ((v' - k') * (v' - k')) < 0 := Int.mul_neg_of_neg_of_pos (by omega) h6
  have h8 : (r : Int) * ((r - (k' + 1)) * ((v' - k') * (v' - k'))) < 0 := Int.mul_neg_of_pos_of_neg (by omega) h7
  omega
/-- Ryser: where there are as many blocks as points each two meet alike. -/
theorem ryser {v k r l : Nat} {B B1 B2 : List (List Nat)} {a : List Nat} (T : Two v k r l B) (hk : 2 ≤ k) (hv : k < v) (hb : B.length = v) (hB : B = B1 ++ a :: B2) : r = k ∧ ∀ b ∈ B1 ++ B2, mt a b = l := by
  have e2 := T.e2
  rw [hb, Nat.mul_comm] at e2
  have hrk : r = k := (Nat.eq_of_mul_eq_mul_right (show 0 < v by omega) e2).symm
  refine ⟨hrk, ?_⟩
  obtain ⟨s1, s2, s3⟩ := T.others hB
  have e1 := T.e1
  have hsq := zS_sq (mt a) 1 (l : Int) (B1 ++ B2)
  have hz : zS (B1 ++ B2) (fun b => (1 * (mt a b : Int) - l) * (1 * (mt a b : Int) - l)) = 0 := by
    rw [hsq]
    generalize (B1 ++ B2).length = n at *
    generalize dS (B1 ++ B2) (mt a) = S1 at *
    generalize dS (B1 ++ B2) (fun b => mt a b * mt a b) = S2 at *
    rw [hb] at s3
    subst hrk
    obtain ⟨k', rfl⟩ : ∃ k', r = k' + 1 := ⟨r - 1, by omega⟩
    obtain ⟨v', rfl⟩ : ∃ v', v = v' + 1 := ⟨v - 1, by omega⟩
    simp only [Nat.add_sub_cancel] at e1 s2
    have z1 : (S1 : Int) + (k' + 1) = (k' + 1) * (k' + 1) := by exact_mod_cast s1
    have z2 : (S2 : Int) + (k' + 1) * (k' + 1) = (k' + 1) * (k' + 1 + k' * l) := by exact_mod_cast s2
    have z3 : (n : Int) = v' := by omega
    have z4 : ((k' : Int) + 1) * k' = l * v' := by exact_mod_cast e1
    have y1 : (S1 : Int) = (k' + 1) * (k' + 1) - (k' + 1) := by omega
    have y2 : (S2 : Int) = (k' + 1) * (k' + 1 + k' * l) - (k' + 1) * (k' + 1) := by omega
    rw [y1, y2, z3]
    grind
  intro b hbm
  have := zS_zero (fun c _ => sq_nonneg' _) hz b hbm
  have := sq_zero' this
  omega
end Go.Proofs.YtlmjlffipinjiabDoor
