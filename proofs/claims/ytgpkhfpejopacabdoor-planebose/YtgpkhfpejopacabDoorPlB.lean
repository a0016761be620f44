/- Bose's bound of arcs. Nothing of the program. -/
import Derived.Test.YtgpkhfpejopacabDoorPlA
namespace Go.Proofs.YtgpkhfpejopacabDoor
variable {v b : Nat} {I : Nat → Nat → Bool}

structure ArcP (v b : Nat) (I : Nat → Nat → Bool) (K : List Nat) : Prop where
  nd : K.Nodup
  lt : ∀ x ∈ K, x < v
  two : ∀ i, i < b → K.countP (fun x => I x i) ≤ 2
/-- Three of a list in a line are not two. -/
theorem three_in {K : List Nat} (p : Nat → Bool) {x y z : Nat} (hx : x ∈ K) (hy : y ∈ K) (hz : z ∈ K) (xy : x ≠ y) (xz : x ≠ z) (yz : y ≠ z) (px : p x = true) (py : p y = true) (pz : p z = true) : 3 ≤ K.countP p := by
  rw [List.countP_eq_length_filter]
  refine pl_sub (A := [x, y, z]) (by simp [xy, xz, yz]) fun u hu => ?_
  rcases List.mem_cons.1 hu with rfl | hu
  · exact List.mem_filter.2 ⟨hx, px⟩
  rcases List.mem_cons.1 hu with rfl | hu
  · exact List.mem_filter.2 ⟨hy, py⟩
  · obtain rfl := List.mem_singleton.1 hu
    exact List.mem_filter.2 ⟨hz, pz⟩
theorem erase_in {K : List Nat} (hn : K.Nodup) {p y : Nat} (h : y ∈ K.erase p) : y ∈ K ∧ y ≠ p := by
  have := (List.Nodup.mem_erase_iff hn).1 h
  exact ⟨this.2, this.1⟩
/-- The others of an arc, each along a line of its own through one of it. -/
theorem Pln.arc_inj (h : Pln v b I) {K : List Nat} (k : ArcP v b I K) {p : Nat} (hp : p ∈ K) (ok : Nat → Bool) (hok : ∀ y i, y ∈ K → y ≠ p → i < b → I p i = true → I y i = true → ok i = true) : K.length ≤ ((List.range b).filter fun i => I p i && ok i).length + 1 := by
  have hl : (K.erase p).length + 1 = K.length := by
    rw [List.length_erase_of_mem hp]
    have := List.length_pos_of_mem hp
    omega
  have : (K.erase p).length ≤ ((List.range b).filter fun i => I p i && ok i).length := by
    refine pl_bij (R := fun y i => y ∈ K ∧ y ≠ p ∧ i < b ∧ I p i = true ∧ I y i = true) (k.nd.erase p) (fun y hy => ?_) ?_
    · obtain ⟨h1, h2⟩ := erase_in k.nd hy
      obtain ⟨i, hi, a, c⟩ := h.join p y (k.lt p hp) (k.lt y h1) h2.symm
      exact ⟨i, List.mem_filter.2 ⟨List.mem_range.2 hi, by rw [a, hok y i h1 h2 hi a c]; rfl⟩, h1, h2, hi, a, c⟩
    · rintro y y' i ⟨a1, a2, a3, a4, a5⟩ ⟨c1, c2, _, _, c5⟩
      refine Classical.byContradiction fun hn => ?_
      have := three_in (fun x => I x i) hp a1 c1 (Ne.symm a2) (Ne.symm c2) hn a4 a5 c5
      have := k.two i a3
      omega
  omega
theorem Pln.bose (h : Pln v b I) {K : List Nat} (k : ArcP v b I K) {i : Nat} (hi : i < b) : K.length ≤ szP v I i + 1 := by
  match K, k with
  | [], _ => exact Nat.zero_le _
  | p :: K, k =>
    have := h.arc_inj k List.mem_cons_self (fun _ => true) (fun _ _ _ _ _ _ _ => rfl)
    rw [← h.dg (k.lt p List.mem_cons_self) hi]
    unfold dgP
    simpa using this
theorem filter_ne {b j : Nat} {p : Nat → Bool} (hj : j < b) (hp : p j = true) : ((List.range b).filter fun i => p i && (i != j)).length + 1 = ((List.range b).filter p).length := by
  have h1 : ((List.range b).filter fun i => p i && (i != j)) = ((List.range b).filter p).erase j := by
    rw [List.Nodup.erase_eq_filter (List.nodup_range.filter _), List.filter_filter]
    refine List.filter_congr fun x _ => ?_
    cases p x <;> simp
  have hm : j ∈ (List.range b).filter p := List.mem_filter.2 ⟨List.mem_range.2 hj, hp⟩
  rw [h1, List.length_erase_of_mem hm]
  have := List.length_pos_of_mem hm
  omega
/-- Of the greatest arcs each line has none or two. -/
theorem Pln.full (h : Pln v b I) {K : List Nat} (k : ArcP v b I K) {i : Nat} (hi : i < b) (hK : K.length = szP v I i + 1) {j : Nat} (hj : j < b) : K.countP (fun x => I x j) = 0 ∨ K.countP (fun x => I x j) = 2 := by
  by_cases h0 : ∃ p, p ∈ K ∧ I p j = true
  · obtain ⟨p, hp, pj⟩ := h0
    refine .inr (Nat.le_antisymm (k.two j hj) (Nat.not_lt.1 fun hlt => ?_))
    have := h.arc_inj k hp (fun i => i != j) (fun y i hy hne hi' a c => by
      rw [bne_iff_ne]
      rintro rfl
      have : 2 ≤ K.countP (fun x => I x i) := by
        rw [List.countP_eq_length_filter]
        refine pl_sub (A := [p, y]) (by simp [Ne.symm hne]) fun u hu => ?_
        rcases List.mem_cons.1 hu with rfl | hu
        · exact List.mem_filter.2 ⟨hp, a⟩
        · obtain rfl := List.mem_singleton.1 hu
          exact List.mem_filter.2 ⟨hy, c⟩
      omega)
    have e := filter_ne (p := fun i => I p i) hj pj
    have d := h.dg (k.lt p hp) hi
    unfold dgP at d
    omega
  · refine .inl (List.countP_eq_zero.2 fun x hx hn => h0 ⟨x, hx, hn⟩)
theorem even_sum (f : Nat → Nat) : ∀ l : List Nat, (∀ i ∈ l, f i = 0 ∨ f i = 2) → dS l f % 2 = 0
  | [], _ => rfl
  | a :: l, h => by
    have ih := even_sum f l fun i hi => h i (List.mem_cons_of_mem _ hi)
    rw [dS_cons]
    rcases h a List.mem_cons_self with e | e <;> omega
theorem one_line (h : Pln v b I) {x y : Nat} (hx : x < v) (hy : y < v) (hn : x ≠ y) : ((List.range b).filter fun i => I x i).countP (fun i => I y i) = 1 := by
  obtain ⟨i, hi, a, c⟩ := h.join x y hx hy hn
  rw [List.countP_eq_length_filter, List.filter_filter]
  refine Nat.le_antisymm ?_ ?_
  · refine pl_sub (B := [i]) (List.nodup_range.filter _) fun j hj => ?_
    obtain ⟨h1, h2⟩ := List.mem_filter.1 hj
    rw [Bool.and_eq_true] at h2
    exact List.mem_singleton.2 (h.juni x y j i hx hy hn (List.mem_range.1 h1) hi h2.2 h2.1 a c)
  · exact pl_sub (A := [i]) (by simp) fun j hj => by
      obtain rfl := List.mem_singleton.1 hj
      exact List.mem_filter.2 ⟨List.mem_range.2 hi, by rw [a, c]; rfl⟩
theorem Pln.bose_odd (h : Pln v b I) {K : List Nat} (k : ArcP v b I K) {i : Nat} (hi : i < b) (hK : K.length = szP v I i + 1) : K.length % 2 = 0 := by
  have h3 := h.three hi
  obtain ⟨Q, hQ, hQK⟩ : ∃ Q, Q < v ∧ Q ∉ K := by
    refine Classical.byContradiction fun hn => ?_
    have key : ∀ Q, Q < v → Q ∈ K := fun Q hQ => Classical.byContradiction fun h => hn ⟨Q, hQ, h⟩
    have : szP v I i ≤ K.countP (fun x => I x i) := by
      unfold szP
      rw [List.countP_eq_length_filter]
      refine pl_sub (List.nodup_range.filter _) fun x hx => ?_
      obtain ⟨h1, h2⟩ := List.mem_filter.1 hx
      exact List.mem_filter.2 ⟨key x (List.mem_range.1 h1), h2⟩
    have := k.two i hi
    omega
  have e1 : dS ((List.range b).filter fun i => I Q i) (fun i => dS K fun y => if I y i = true then 1 else 0) = K.length := by
    rw [dS_swap]
    rw [dS_congr (g := fun _ => 1) fun y hy => ?_]
    · rw [dS_const, Nat.mul_one]
    · rw [dS_count (fun i => I y i)]
      exact one_line h hQ (k.lt y hy) fun e => hQK (by rw [e]; exact hy)
  rw [← e1]
  refine even_sum _ _ fun j hj => ?_
  obtain ⟨h1, _⟩ := List.mem_filter.1 hj
  rw [dS_count (fun y => I y j)]
  exact h.full k hi hK (List.mem_range.1 h1)

end Go.Proofs.YtgpkhfpejopacabDoor
