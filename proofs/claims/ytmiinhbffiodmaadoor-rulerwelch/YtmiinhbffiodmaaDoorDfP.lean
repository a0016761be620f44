/- The differences of a set, its images, its multipliers; nothing of the program. -/
import Derived.Test.YtmiinhbffiodmaaDoorDfO
import Derived.Test.YtmiinhbffiodmaaDoorTSo
namespace Go.Proofs.YtmiinhbffiodmaaDoor

/-- A set of numbers modulo v. -/
structure GoodS (v : Nat) (D : List Nat) : Prop where
  pos : 1 ≤ v
  le : v ≤ 60
  rise : D.Pairwise (· < ·)
  lt : ∀ x ∈ D, x < v
theorem GoodS.pts {v : Nat} {D : List Nat} (h : GoodS v D) : Pts v D := rise_pts h.rise h.lt
theorem GoodS.len {v : Nat} {D : List Nat} (h : GoodS v D) : D.length ≤ v := h.pts.le
/-- The differences, as they come. -/
def dfL (v : Nat) (D l : List Nat) : List Nat := l.flatMap fun x => D.map fun y => (x + v - y) % v
def dfN (v : Nat) (D : List Nat) (c : Nat) : Nat := (dfL v D D).count c
theorem dfL_dS (v : Nat) (D : List Nat) (c : Nat) : ∀ l : List Nat, (dfL v D l).count c = dS l fun x => dS D fun y => if (x + v - y) % v = c then 1 else 0
  | [] => rfl
  | x :: l => by
    rw [dfL, List.flatMap_cons, List.count_append, dS_cons, ← dfL_dS v D c l, dfL, List.count_eq_countP, List.countP_map, dS_cnt]
    congr 2
    funext y
    simp
theorem df_one {v x y c : Nat} (hv : 0 < v) (hx : x < v) (hy : y < v) (hc : c < v) : (x + v - y) % v = c ↔ x = (y + c) % v := by
  constructor
  · rintro rfl
    rcases Nat.lt_or_ge x y with h | h
    · rw [Nat.mod_eq_of_lt (a := x + v - y) (by omega), show y + (x + v - y) = x + v by omega, Nat.add_mod_right, Nat.mod_eq_of_lt hx]
    · rw [show x + v - y = (x - y) + v by omega, Nat.add_mod_right, Nat.mod_eq_of_lt (a := x - y) (by omega), show y + (x - y) = x by omega, Nat.mod_eq_of_lt hx]
  · rintro rfl
    rcases Nat.lt_or_ge (y + c) v with h | h
    · rw [Nat.mod_eq_of_lt h, show y + c + v - y = c + v by omega, Nat.add_mod_right, Nat.mod_eq_of_lt hc]
    · rw [Nat.mod_eq_sub_mod h, Nat.mod_eq_of_lt (a := y + c - v) (by omega), show y + c - v + v - y = c by omega, Nat.mod_eq_of_lt hc]
theorem df_me {v : Nat} {D : List Nat} (hv : 0 < v) (hD : Pts v D) {c : Nat} (hc : c < v) : dfN v D c = me v D c := by
  rw [dfN, dfL_dS, dS_swap, me, dS_cnt]
  refine dS_congr fun y hy => ?_
  have hy' := hD.lt y hy
  rw [show (dS D fun x => if (x + v - y) % v = c then 1 else 0) = D.count ((y + c) % v) from ?_]
  · rw [hD.nd.count]
    simp
  · rw [List.count_eq_countP, dS_cnt]
    refine dS_congr fun x hx => ?_
    have := df_one hv (hD.lt x hx) hy' hc
    by_cases e : x = (y + c) % v
    · rw [if_pos (this.2 e), if_pos (by simpa using e)]
    · rw [if_neg fun h => e (this.1 h), if_neg (by simpa using e)]
theorem df_over {v : Nat} {D : List Nat} (hv : 0 < v) {c : Nat} (hc : v ≤ c) : dfN v D c = 0 := by
  rw [dfN, List.count_eq_zero]
  intro h
  obtain ⟨x, _, hx⟩ := List.mem_flatMap.1 h
  obtain ⟨y, _, rfl⟩ := List.mem_map.1 hx
  have := Nat.mod_lt (x + v - y) hv
  omega
theorem dfL_len (v : Nat) (D : List Nat) : ∀ l : List Nat, (dfL v D l).length = l.length * D.length
  | [] => by simp [dfL]
  | x :: l => by
    have := dfL_len v D l
    rw [dfL] at this ⊢
    rw [List.flatMap_cons, List.length_append, this, List.length_map, List.length_cons, Nat.add_mul, Nat.one_mul, Nat.add_comm]
/-- Are all differences there equally often? -/
def lvB (v : Nat) (D : List Nat) : Bool := (List.range v).all fun s => decide (s < 2) || dfN v D s == dfN v D 1
theorem lvB_iff {v : Nat} {D : List Nat} : lvB v D = true ↔ ∀ s, 2 ≤ s → s < v → dfN v D s = dfN v D 1 := by
  unfold lvB
  rw [List.all_eq_true]
  constructor
  · intro h s h1 h2
    have := h s (List.mem_range.2 h2)
    rw [decide_eq_false (by omega), Bool.false_or] at this
    exact eq_of_beq this
  · intro h s hs
    by_cases h2 : s < 2
    · simp [h2]
    · rw [h s (by omega) (List.mem_range.1 hs)]
      simp
theorem lvB_lev {v : Nat} {D : List Nat} (hv : 0 < v) (hD : Pts v D) (h : lvB v D = true) : DLev v D (dfN v D 1) := fun c hc => by
  have hlt := Nat.mod_lt c hv
  rw [← me_mod, ← df_me hv hD hlt]
  by_cases e : c % v = 1
  · rw [e]
  · exact lvB_iff.1 h _ (by omega) hlt
theorem lev_lvB {v l : Nat} {D : List Nat} (hv : 0 < v) (hD : Pts v D) (h : DLev v D l) : lvB v D = true ∧ (2 ≤ v → dfN v D 1 = l) := by
  have key : ∀ s, 1 ≤ s → s < v → dfN v D s = l := fun s h1 h2 => by
    rw [df_me hv hD h2]
    exact h s (by rw [Nat.mod_eq_of_lt h2]; omega)
  exact ⟨lvB_iff.2 fun s h1 h2 => by rw [key s (by omega) h2, key 1 (by omega) (by omega)], fun h2 => key 1 (by omega) (by omega)⟩

/-- Which numbers a set has behind t times and s more. -/
def imF (v : Nat) (D : List Nat) (t s x : Nat) : Bool := (D.map (mvN v t s)).contains x
def imL (v : Nat) (D : List Nat) (t s : Nat) : List Nat := (List.range 60).filter (imF v D t s)
theorem filter_s3 {E : List Nat} {n : Nat} (h : Pts n E) (hn : n ≤ 60) : (List.range 60).filter (fun x => E.contains x) = s3 E := by
  refine s3_of ?_ ?_
  · exact (Pts.filter (v := 60) ⟨h.nd, fun x hx => Nat.lt_of_lt_of_le (h.lt x hx) hn⟩)
  · exact (List.pairwise_le_range.sublist List.filter_sublist)
theorem imL_s3 {v t s : Nat} {D : List Nat} (hG : GoodS v D) (hc : Nat.Coprime t v) : imL v D t s = s3 (D.map (mvN v t s)) :=
  filter_s3 (mv_pts hG.pos hG.pts hc) hG.le
theorem imF_lt {v t s x : Nat} {D : List Nat} (hv : 0 < v) (h : imF v D t s x = true) : x < v := by
  unfold imF at h
  obtain ⟨d, _, rfl⟩ := List.mem_map.1 (List.contains_iff_mem.1 h)
  exact Nat.mod_lt _ hv
/-- Does it multiply? -/
def muB (v : Nat) (D : List Nat) (t : Nat) : Bool := (List.range v).any fun s => (List.range 60).all fun x => imF v D t 0 x == imF v D 1 s x
def muL (v : Nat) (D : List Nat) : List Nat := (List.range v).filter fun t => decide (1 ≤ t) && (decide (Nat.gcd t v = 1) && muB v D t)
theorem same_im {v t s : Nat} {D : List Nat} (hG : GoodS v D) (hc : Nat.Coprime t v) : ((List.range 60).all fun x => imF v D t 0 x == imF v D 1 s x) = true ↔ s3 (D.map (mvN v 1 s)) = s3 (D.map (mvN v t 0)) := by
  rw [← imL_s3 hG hc, ← imL_s3 hG (Nat.coprime_one_left v), List.all_eq_true]
  constructor
  · intro h
    exact List.filter_congr fun x hx => (eq_of_beq (h x hx)).symm
  · intro h x hx
    have hm : x ∈ imL v D 1 s ↔ x ∈ imL v D t 0 := by rw [h]
    unfold imL at hm
    rw [List.mem_filter, List.mem_filter] at hm
    have : imF v D 1 s x = true ↔ imF v D t 0 x = true := ⟨fun k => (hm.1 ⟨hx, k⟩).2, fun k => (hm.2 ⟨hx, k⟩).2⟩
    rw [beq_iff_eq]
    exact (Bool.eq_iff_iff.2 this).symm
theorem muB_iff {v t : Nat} {D : List Nat} (hG : GoodS v D) (hc : Nat.Coprime t v) : muB v D t = true ↔ ∃ s, s < v ∧ s3 (D.map (mvN v 1 s)) = s3 (D.map (mvN v t 0)) := by
  unfold muB
  rw [List.any_eq_true]
  constructor
  · rintro ⟨s, hs, h⟩
    exact ⟨s, List.mem_range.1 hs, (same_im hG hc).1 h⟩
  · rintro ⟨s, hs, h⟩
    exact ⟨s, List.mem_range.2 hs, (same_im hG hc).2 h⟩
theorem hall_mu {v l n p : Nat} {D : List Nat} (hv : 2 ≤ v) (hG : GoodS v D) (hL : DLev v D l) (hn : D.length = l + n) (h0 : 0 < n) (hp : PrN p) (hlp : l < p) (hpn : n % p = 0) (hvp : v % p ≠ 0) : p % v ∈ muL v D := by
  have hc : Nat.Coprime p v := hp.cop hvp
  have hcm : Nat.gcd (p % v) v = 1 := by rw [← Nat.gcd_rec, Nat.gcd_comm]; exact hc
  have h1 : 1 ≤ p % v := by
    rcases Nat.eq_zero_or_pos (p % v) with e | h
    · rw [e, Nat.gcd_zero_left] at hcm; omega
    · exact h
  obtain ⟨g, hg, hP⟩ := hall hv hG.pts hL hn h0 hp hlp hpn hvp
  unfold muL
  rw [List.mem_filter]
  refine ⟨List.mem_range.2 (Nat.mod_lt _ (by omega)), ?_⟩
  rw [Bool.and_eq_true, Bool.and_eq_true]
  refine ⟨decide_eq_true h1, decide_eq_true hcm, (muB_iff hG hcm).2 ⟨g, hg, ?_⟩⟩
  refine s3_congr ?_
  have e1 : (D.map (mvN v 1 g)) = D.map fun d => (d + g) % v := List.map_congr_left fun d _ => by rw [mvN, Nat.mul_one]
  have e2 : (D.map (mvN v (p % v) 0)) = D.map fun d => (p * d) % v := List.map_congr_left fun d _ => by rw [mvN, Nat.add_zero, Nat.mul_mod_mod, Nat.mul_comm]
  rw [e1, e2]
  exact hP.symm

end Go.Proofs.YtmiinhbffiodmaaDoor
