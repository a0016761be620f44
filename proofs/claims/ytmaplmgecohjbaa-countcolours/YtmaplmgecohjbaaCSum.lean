/- Colourings counted by kinds: nothing is too great; nothing of the program. -/
import Derived.Test.YtmaplmgecohjbaaCKind
import Derived.Test.YtmaplmgecohjbaaCRing
namespace Go.Proofs.Ytmaplmgecohjbaa

/-- What moves no point below itself moves none. -/
theorem up_id {n : Nat} {f : Nat → Nat} (P : Pm n f) (h : ∀ x, x < n → x ≤ f x) : ∀ j, j < n → f (n - 1 - j) = n - 1 - j := by
  intro j
  induction j using Nat.strongRecOn with
  | ind j ih =>
    intro hj
    have h1 := h (n - 1 - j) (by omega)
    have h2 := P.lt (n - 1 - j) (by omega)
    by_cases e : f (n - 1 - j) = n - 1 - j
    · exact e
    · -- the point that it goes to is its own already
      have h3 := ih (n - 1 - f (n - 1 - j)) (by omega) (by omega)
      rw [show n - 1 - (n - 1 - f (n - 1 - j)) = f (n - 1 - j) by omega] at h3
      have := P.inj _ _ h2 (by omega) h3
      omega
theorem leads_full {n : Nat} {a : List Nat} (ha : IsP n a) (h : n ≤ (leads n (fnL a) n).length) : a = idL n := by
  have P : Pm n (fnL a) := ha.pm
  have hall : ∀ x, x < n → leadB n (fnL a) x = true := by
    have h1 : (List.range n).countP (leadB n (fnL a)) = (List.range n).length := by
      rw [← leads_length, List.length_range]
      have : (leads n (fnL a) n).length ≤ n := by
        unfold leads
        have := List.length_filter_le (leadB n (fnL a)) (List.range n)
        rwa [List.length_range] at this
      omega
    intro x hx
    exact List.countP_eq_length.1 h1 x (List.mem_range.2 hx)
  have hup : ∀ x, x < n → x ≤ fnL a x := fun x hx => (P.lead hx).1 (hall x hx) 1
  refine ext_getD ha.len (isP_id n).len fun y hy => ?_
  have h2 := up_id P hup (n - 1 - y) (by omega)
  rw [show n - 1 - (n - 1 - y) = y by omega] at h2
  rw [idL_at hy]
  exact h2
theorem sum_but_one {g : List Nat → Nat} {e : List Nat} {M M' : Nat} (hM : g e ≤ M') : ∀ {L : List (List Nat)}, L.Nodup → (∀ a ∈ L, a ≠ e → g a ≤ M) → (L.map g).sum ≤ M' + L.length * M
  | [], _, _ => by simp
  | a :: L, hn, h => by
    have hn' := List.nodup_cons.1 hn
    rw [List.map_cons, List.sum_cons, List.length_cons, Nat.add_mul, Nat.one_mul]
    by_cases ea : a = e
    · have : (L.map g).sum ≤ L.length * M := by
        have key : ∀ {X : List (List Nat)}, (∀ x ∈ X, g x ≤ M) → (X.map g).sum ≤ X.length * M := by
          intro X hX
          induction X with
          | nil => simp
          | cons x X ih =>
            rw [List.map_cons, List.sum_cons, List.length_cons, Nat.add_mul, Nat.one_mul]
            have h1 := hX x (by simp)
            have h2 := ih fun y hy => hX y (by simp [hy])
            omega
        exact key fun x hx => h x (by simp [hx]) (fun e1 => hn'.1 (by rw [ea, ← e1]; exact hx))
      rw [ea]; omega
    · have h1 := h a (by simp) ea
      have h2 := sum_but_one hM hn'.2 fun x hx => h x (by simp [hx])
      omega
theorem kd_le {n : Nat} {a : List Nat} (ha : IsP n a) (hn : n ≤ 7) : (kd n a).sum ≤ 7 := by
  rw [kd_sum ha hn]
  unfold leads
  have := List.length_filter_le (leadB n (fnL a)) (List.range n)
  rw [List.length_range] at this
  omega
theorem kd_less {n : Nat} {a : List Nat} (ha : IsP n a) (hn : n ≤ 7) (h : a ≠ idL n) : (kd n a).sum ≤ 6 := by
  rw [kd_sum ha hn]
  by_cases e : n ≤ (leads n (fnL a) n).length
  · exact absurd (leads_full ha e) h
  · omega
/-- The sum of the colours' powers, over all members. -/
noncomputable def powS (n k : Nat) (ms : List (List Nat)) : Nat := ((els n (Gen n ms)).map fun a => k ^ (kd n a).sum).sum
theorem powS_le {n k : Nat} {ms : List (List Nat)} (hn : n ≤ 7) (hk : 1 ≤ k) (hk2 : k ≤ 200) (hl : (els n (Gen n ms)).length ≤ 5040) : powS n k ms ≤ 400000000000000000 := by
  have h7 : ∀ a, IsP n a → k ^ (kd n a).sum ≤ 200 ^ 7 := fun a ha => Nat.le_trans (Nat.pow_le_pow_right hk (kd_le ha hn)) (Nat.pow_le_pow_left hk2 7)
  have h6 : ∀ a, IsP n a → a ≠ idL n → k ^ (kd n a).sum ≤ 200 ^ 6 := fun a ha e => Nat.le_trans (Nat.pow_le_pow_right hk (kd_less ha hn e)) (Nat.pow_le_pow_left hk2 6)
  have h := sum_but_one (g := fun a => k ^ (kd n a).sum) (h7 (idL n) (isP_id n)) (els_nodup n (Gen n ms)) (fun a ha e => h6 a (mem_els.1 ha).1 e)
  unfold powS
  refine Nat.le_trans h ?_
  have : (els n (Gen n ms)).length * 200 ^ 6 ≤ 5040 * 200 ^ 6 := Nat.mul_le_mul_right _ hl
  omega
theorem powS_col {n k : Nat} {ms : List (List Nat)} (hn : n ≤ 7) (hk : 0 < k) (hm : ∀ m ∈ ms, IsP n m) : powS n k ms = colG n k ms * (els n (Gen n ms)).length := polya_kd hn hk hm

/-- A sum by kinds is a sum over numbers of cycles. -/
theorem ind_swap (F : Nat → Int) (N : Nat) : ∀ L : List (List Nat), (∀ y ∈ L, y.sum < N) → sumN (fun c => (L.map fun y => if y.sum = c then (1 : Int) else 0).sum * F c) N = (L.map fun y => F y.sum).sum
  | [], _ => by simp [sumN_zero]
  | y :: L, h => by
    have ih := ind_swap F N L fun z hz => h z (by simp [hz])
    rw [List.map_cons, List.sum_cons, ← ih]
    have e : ∀ c, c < N → (List.map (fun y => if y.sum = c then (1 : Int) else 0) (y :: L)).sum * F c = (if y.sum = c then F c else 0) + (L.map fun y => if y.sum = c then (1 : Int) else 0).sum * F c := fun c _ => by
      rw [List.map_cons, List.sum_cons, Int.add_mul]
      split <;> simp
    rw [sumN_congr e, sumN_add, sumN_one (q := y.sum) (h y (by simp)) fun c hc => if_neg (fun e => hc e.symm), if_pos rfl]
theorem natcast_sum : ∀ L : List Nat, ((L.sum : Nat) : Int) = (L.map fun x : Nat => (x : Int)).sum
  | [] => rfl
  | x :: L => by rw [List.sum_cons, List.map_cons, List.sum_cons, Int.natCast_add, natcast_sum L]

end Go.Proofs.Ytmaplmgecohjbaa
