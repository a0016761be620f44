/- The kernel's way is the words' way. -/
import Derived.Test.YtcjkcgfohmhbcabWxB
namespace Go.Proofs.Ytcjkcgfohmhbcab

theorem lnN_is : ∀ (l : List Nat) m, lnN l m = l.length + m
  | [], m => (Nat.zero_add m).symm
  | _ :: t, m => by
    show lnN t (m + 1) = t.length + 1 + m
    rw [lnN_is t]; omega
theorem rvN_is : ∀ (l r : List Nat), rvN l r = l.reverse ++ r
  | [], r => rfl
  | x :: t, r => by
    show rvN t (x :: r) = _
    rw [rvN_is t, List.reverse_cons, List.append_assoc]; rfl
theorem pre_is : ∀ {x l r : List Nat}, pre x l = some r → l = x ++ r
  | [], l, r, h => by
    have : l = r := Option.some.inj h
    rw [this]; rfl
  | _ :: _, [], r, h => by cases h
  | x :: t, y :: l, r, h => by
    unfold pre at h
    cases hb : Nat.beq x y with
    | false => rw [hb] at h; cases h
    | true =>
      rw [hb] at h
      rw [Nat.eq_of_beq_eq_true hb, pre_is (h : pre t l = some r)]; rfl
theorem drop_cons {M : List Nat} {c : Nat} (h : c < M.length) : M.drop c = M.getD c 0 :: M.drop (c + 1) := by
  rw [List.drop_eq_getElem_cons h, List.getD_eq_getElem?_getD, List.getElem?_eq_getElem h]; rfl
theorem cyR_is {M : List Nat} (h0 : 0 < M.length) : ∀ (f c : Nat) (r : List Nat), c ≤ M.length → cyR M f (M.drop c) r = ((List.range f).map fun i => M.getD ((c + i) % M.length) 0).reverse ++ r
  | 0, c, r, _ => rfl
  | f + 1, c, r, hc => by
    have go : ∀ d, d < M.length → (∀ i, (c + i) % M.length = (d + i) % M.length) → cyR M f (M.drop (d + 1)) (M.getD d 0 :: r) = ((List.range (f + 1)).map fun i => M.getD ((c + i) % M.length) 0).reverse ++ r := fun d hd e => by
      rw [cyR_is h0 f (d + 1) _ (by omega), List.range_succ_eq_map, List.map_cons, List.map_map, List.reverse_cons, List.append_assoc]
      congr 1
      · congr 1
        refine List.map_congr_left fun i _ => ?_
        show M.getD ((d + 1 + i) % M.length) 0 = M.getD ((c + (i + 1)) % M.length) 0
        rw [e (i + 1)]
        congr 2
        omega
      · rw [e 0, Nat.add_zero, Nat.mod_eq_of_lt hd]; rfl
    rcases Nat.lt_or_ge c M.length with h | h
    · rw [drop_cons h]
      exact go c h fun _ => rfl
    · have e : c = M.length := by omega
      have e1 : cyR M (f + 1) (M.drop c) r = cyR M f (M.drop (0 + 1)) (M.getD 0 0 :: r) := by
        rw [List.drop_of_length_le h]
        cases M with
        | nil => cases h0
        | cons x t => rfl
      rw [e1]
      exact go 0 h0 fun i => by rw [e, Nat.add_mod_left, Nat.zero_add]
theorem nxt_is {k n : Nat} (x : Nat) (t : List Nat) : rvN (raR k (cyR (x :: t) n (x :: t) [])) [] = nxt k n (x :: t) := by
  have h := cyR_is (M := x :: t) (Nat.succ_pos _) n 0 [] (Nat.zero_le _)
  rw [List.drop_zero, List.append_nil] at h
  rw [h, rvN_is, List.append_nil]
  unfold nxt cyc
  congr 3
  congr 1
  funext i
  rw [Nat.zero_add]
theorem fkB_is (k n : Nat) : ∀ (f : Nat) (M l : List Nat), fkB k n f M l = true → fkm k n f M = some l
  | 0, [], [], _ => rfl
  | 0, [], _ :: _, h => by cases h
  | _ + 1, [], [], _ => rfl
  | _ + 1, [], _ :: _, h => by cases h
  | 0, _ :: _, _, h => by unfold fkB at h; cases h
  | f + 1, x :: t, l, h => by
    unfold fkB at h
    rw [nxt_is, lnN_is, Nat.add_zero] at h
    show (match fkm k n f (nxt k n (x :: t)) with
      | none => none
      | some R => some (if n % (x :: t).length = 0 then (x :: t) ++ R else R)) = some l
    cases hb : Nat.beq (Nat.mod n (x :: t).length) 0 with
    | false =>
      rw [hb] at h
      rw [fkB_is k n f _ _ h]
      show some (if n % (x :: t).length = 0 then _ else l) = _
      rw [if_neg fun e => by rw [show Nat.mod n (x :: t).length = 0 from e] at hb; cases hb]
    | true =>
      rw [hb] at h
      have e : n % (x :: t).length = 0 := Nat.eq_of_beq_eq_true hb
      cases hp : pre (x :: t) l with
      | none => simp only [hp] at h; cases h
      | some l' =>
        simp only [hp] at h
        rw [fkB_is k n f _ _ h]
        show some (if n % (x :: t).length = 0 then _ else l') = _
        rw [if_pos e, pre_is hp]
theorem fkm_at {k n : Nat} (hk : 1 ≤ k) (hk9 : k ≤ 10) (hn : 1 ≤ n) (hn9 : n ≤ 12) (h : k ^ n ≤ 4096) : fkm k n 4096 [0] = some (bru k (k ^ n) (k ^ n) (k ^ n - 1) 0) := by
  have a := List.all_eq_true.1 (List.all_eq_true.1 fkm_all (k - 1) (List.mem_range.2 (by omega))) (n - 1) (List.mem_range.2 (by omega))
  rw [show k - 1 + 1 = k by omega, show n - 1 + 1 = n by omega, Bool.or_eq_true] at a
  rcases a with a | a
  · have := of_decide_eq_true a; omega
  · exact fkB_is k n _ _ _ a
end Go.Proofs.Ytcjkcgfohmhbcab
