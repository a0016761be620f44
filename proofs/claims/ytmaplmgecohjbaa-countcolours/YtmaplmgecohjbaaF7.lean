/- Sums over the index; contents of two colours together; nothing of the program. -/
import Derived.Test.YtmaplmgecohjbaaCCon
import Derived.Test.YtmaplmgecohjbaaCSum
namespace Go.Proofs.Ytmaplmgecohjbaa

theorem pick_sum {α : Type} [DecidableEq α] (F : α → Nat) (a : α) : ∀ {M : List α}, M.Nodup → (M.map fun x => if x = a then F x else 0).sum = if a ∈ M then F a else 0
  | [], _ => by simp
  | y :: M, nd => by
    have hn := List.nodup_cons.1 nd
    rw [List.map_cons, List.sum_cons, pick_sum F a hn.2]
    by_cases e : y = a
    · subst e
      rw [if_pos rfl, if_neg hn.1, if_pos (by simp), Nat.add_zero]
    · rw [if_neg e, Nat.zero_add]
      by_cases h : a ∈ M
      · rw [if_pos h, if_pos (by simp [h])]
      · rw [if_neg h, if_neg (by simp [h, Ne.symm e])]
theorem sum_map_add {α : Type} (f g : α → Nat) : ∀ M : List α, (M.map fun x => f x + g x).sum = (M.map f).sum + (M.map g).sum
  | [] => rfl
  | a :: M => by rw [List.map_cons, List.sum_cons, sum_map_add f g M, List.map_cons, List.sum_cons, List.map_cons, List.sum_cons]; omega
theorem sum_zeros {α : Type} : ∀ M : List α, (M.map fun _ => 0).sum = 0
  | [] => rfl
  | _ :: M => by rw [List.map_cons, List.sum_cons, sum_zeros M]
/-- A sum over the unlike ones, each as often as it stands there, is the sum. -/
theorem count_sum (F : List Nat → Nat) {M : List (List Nat)} (nd : M.Nodup) : ∀ {L : List (List Nat)}, (∀ y ∈ L, y ∈ M) → (M.map fun x => L.count x * F x).sum = (L.map F).sum
  | [], _ => by
    have : (M.map fun x => List.count x ([] : List (List Nat)) * F x) = M.map fun _ => 0 := List.map_congr_left fun x _ => by simp
    rw [this]
    exact sum_zeros M
  | a :: L, h => by
    have ih := count_sum F nd (L := L) fun y hy => h y (by simp [hy])
    have e : (M.map fun x => List.count x (a :: L) * F x) = M.map fun x => L.count x * F x + if x = a then F x else 0 := List.map_congr_left fun x _ => by
      by_cases e : x = a
      · subst e; rw [List.count_cons_self, if_pos rfl, Nat.add_mul, Nat.one_mul]
      · rw [List.count_cons_of_ne (Ne.symm e), if_neg e, Nat.add_zero]
    rw [e, sum_map_add, ih, pick_sum F a nd, if_pos (h a (by simp)), List.map_cons, List.sum_cons, Nat.add_comm]
theorem kd_take {n : Nat} {a : List Nat} (ha : IsP n a) (hn : n ≤ 7) : ((kd n a).take n).sum = (kd n a).sum := by
  have h := List.take_append_drop n (kd n a)
  have h0 : ((kd n a).drop n).sum = 0 := by
    have hz : ∀ x ∈ (kd n a).drop n, x = 0 := fun x hx => by
      obtain ⟨i, hi, rfl⟩ := List.mem_iff_getElem.1 hx
      rw [List.length_drop, kd_len] at hi
      have e : (kd n a).getD (n + i) 0 = ((kd n a).drop n)[i]'(by rw [List.length_drop, kd_len]; exact hi) := by
        rw [List.getElem_drop]
        simp [kd_len, show n + i < 7 by omega]
      rw [← e, kd_at (by omega)]
      refine List.count_eq_zero.2 fun hm => ?_
      have := (ha.pm : Pm n (fnL a)).lens_mem hm
      omega
    generalize (kd n a).drop n = l at hz
    induction l with
    | nil => rfl
    | cons x l ih => rw [List.sum_cons, hz x (by simp), ih fun y hy => hz y (by simp [hy])]
  conv => rhs; rw [← h, List.sum_append, h0, Nat.add_zero]

/-! ### two colours -/
theorem sum_two {l : List Nat} (h : ∀ x ∈ l, x < 2) : l.count 0 + l.count 1 = l.length := by
  induction l with
  | nil => rfl
  | cons a l ih =>
    have i := ih fun x hx => h x (by simp [hx])
    have ha := h a (by simp)
    rw [List.length_cons]
    rcases (show a = 0 ∨ a = 1 by omega) with rfl | rfl
    · rw [List.count_cons_self, List.count_cons_of_ne (by omega)]; omega
    · rw [List.count_cons_self, List.count_cons_of_ne (by omega)]; omega
theorem countP_split {α : Type} (p : α → Bool) (q : Nat → α → Bool) (N : Nat) (h : ∀ c, ∃ i, i < N ∧ ∀ j, j < N → (q j c = true ↔ j = i)) : ∀ L : List α, sR (fun i => L.countP fun c => p c && q i c) N = L.countP p
  | [] => by simp [sR_zero]
  | a :: L => by
    have ih := countP_split p q N h L
    have e : sR (fun i => (a :: L).countP fun c => p c && q i c) N = sR (fun i => (L.countP fun c => p c && q i c) + if p a && q i a then 1 else 0) N := sR_congr fun i _ => by rw [List.countP_cons]
    rw [e, sR_add, ih, List.countP_cons]
    congr 1
    obtain ⟨i, hi, hq⟩ := h a
    cases hp : p a with
    | false =>
      rw [sR_congr (g := fun _ => 0) fun j _ => by simp, sR_zero]; rfl
    | true =>
      rw [if_pos rfl]
      have : sR (fun j => if true && q j a then 1 else 0) N = sR (fun j => if j = i then 1 else 0) N := sR_congr fun j hj => by
        have := hq j hj
        by_cases e1 : j = i
        · rw [this.2 e1, if_pos e1]; rfl
        · have : q j a = false := by
            cases h1 : q j a with
            | false => rfl
            | true => exact absurd (this.1 h1) e1
          simp [this, e1]
      rw [this]
      clear this hq ih e h
      induction N with
      | zero => omega
      | succ N ihN =>
        rw [sR]
        by_cases e1 : N = i
        · subst e1
          rw [if_pos rfl, sR_congr (g := fun _ => 0) fun j hj => by rw [if_neg (by omega)], sR_zero]
        · rw [ihN (by omega), if_neg e1]
theorem con_two {n : Nat} {ms : List (List Nat)} (hm : ∀ m ∈ ms, IsP n m) : sR (fun i => conG n 2 ms [i, n - i]) (n + 1) = colG n 2 ms := by
  rw [sR_congr (g := fun i => (List.range (2 ^ n)).countP fun c => (rp n 2 ms c == c) && hasCon n 2 [i, n - i] c) fun i _ => conG_count (by omega) hm, colG_count]
  refine countP_split (fun c => rp n 2 ms c == c) (fun i c => hasCon n 2 [i, n - i] c) (n + 1) (fun c => ?_) _
  have hl := dig_len 2 n c
  have h2 := sum_two (l := dig 2 n c) (fun x hx => dig_lt (by omega) n c x hx)
  rw [hl] at h2
  refine ⟨(dig 2 n c).count 0, by omega, fun j hj => ?_⟩
  have e : conL 2 (dig 2 n c) = [(dig 2 n c).count 0, (dig 2 n c).count 1] := by simp [conL, List.range_succ]
  unfold hasCon
  rw [beq_iff_eq, e]
  simp only [List.cons.injEq, and_true]
  omega

end Go.Proofs.Ytmaplmgecohjbaa
