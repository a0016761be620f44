/- Projective planes, told by what lies in what: each line has as many points, each point as many lines; Bose's bound of arcs. Nothing of the program. -/
import Derived.Test.YtgpkhfpejopacabDoorDPure
namespace Go.Proofs.YtgpkhfpejopacabDoor

/-- What two lists have, one to one. -/
theorem pl_sub {α : Type} [DecidableEq α] : ∀ {A B : List α}, A.Nodup → (∀ x ∈ A, x ∈ B) → A.length ≤ B.length
  | [], _, _, _ => Nat.zero_le _
  | a :: A, B, hn, h => by
    have hn' := List.nodup_cons.1 hn
    have := pl_sub (B := B.erase a) hn'.2 fun x hx => by
      have hne : x ≠ a := fun e => hn'.1 (by rw [← e]; exact hx)
      exact (List.mem_erase_of_ne hne).2 (h x (List.mem_cons_of_mem _ hx))
    rw [List.length_erase_of_mem (h a List.mem_cons_self)] at this
    have : 0 < B.length := List.length_pos_of_mem (h a List.mem_cons_self)
    simp only [List.length_cons]
    omega
theorem pl_bij {α β : Type} [DecidableEq β] {R : α → β → Prop} {A : List α} {B : List β} (hA : A.Nodup) (h1 : ∀ a ∈ A, ∃ b ∈ B, R a b) (h4 : ∀ a a' b, R a b → R a' b → a = a') : A.length ≤ B.length := by
  have hf : ∀ a : α, ∃ b : Option β, a ∈ A → ∃ c, b = some c ∧ c ∈ B ∧ R a c := fun a => by
    by_cases e : a ∈ A
    · obtain ⟨b, h2, h3⟩ := h1 a e; exact ⟨some b, fun _ => ⟨b, rfl, h2, h3⟩⟩
    · exact ⟨none, fun h => (e h).elim⟩
  obtain ⟨f, hf⟩ := Classical.axiomOfChoice hf
  have hn : (A.map f).Nodup := by
    unfold List.Nodup
    rw [List.pairwise_map]
    refine (List.pairwise_iff_forall_sublist.2 fun {a b} hs e => ?_)
    have ha : a ∈ A := hs.subset (by simp)
    have hb : b ∈ A := hs.subset (by simp)
    have hab : a ≠ b := List.pairwise_iff_forall_sublist.1 hA hs
    obtain ⟨c, e1, _, r1⟩ := hf a ha
    obtain ⟨d, e2, _, r2⟩ := hf b hb
    rw [e1, e2] at e
    cases e
    exact hab (h4 _ _ _ r1 r2)
  have := pl_sub (B := B.map some) hn fun x hx => by
    obtain ⟨a, ha, rfl⟩ := List.mem_map.1 hx
    obtain ⟨c, e1, hc, _⟩ := hf a ha
    rw [e1]; exact List.mem_map_of_mem hc
  simpa using this
/-- No three of these in a line. -/
def Ap3 (b : Nat) (I : Nat → Nat → Bool) (x y z : Nat) : Prop := ∀ i, i < b → I x i = true → I y i = true → I z i = true → False
structure Fr4 (v b : Nat) (I : Nat → Nat → Bool) (x y z u : Nat) : Prop where
  vx : x < v
  vy : y < v
  vz : z < v
  vu : u < v
  xy : x ≠ y
  xz : x ≠ z
  xu : x ≠ u
  yz : y ≠ z
  yu : y ≠ u
  zu : z ≠ u
  n1 : Ap3 b I x y z
  n2 : Ap3 b I x y u
  n3 : Ap3 b I x z u
  n4 : Ap3 b I y z u
structure Pln (v b : Nat) (I : Nat → Nat → Bool) : Prop where
  join : ∀ x y, x < v → y < v → x ≠ y → ∃ i, i < b ∧ I x i = true ∧ I y i = true
  juni : ∀ x y i j, x < v → y < v → x ≠ y → i < b → j < b → I x i = true → I y i = true → I x j = true → I y j = true → i = j
  meet : ∀ i j, i < b → j < b → i ≠ j → ∃ x, x < v ∧ I x i = true ∧ I x j = true
  four : ∃ x y z u, Fr4 v b I x y z u
variable {v b : Nat} {I : Nat → Nat → Bool}
theorem Fr4.s1 {x y z u : Nat} (h : Fr4 v b I x y z u) : Fr4 v b I y x z u := ⟨h.vy, h.vx, h.vz, h.vu, h.xy.symm, h.yz, h.yu, h.xz, h.xu, h.zu, fun i a p q r => h.n1 i a q p r, fun i a p q r => h.n2 i a q p r, h.n4, h.n3⟩
theorem Fr4.s2 {x y z u : Nat} (h : Fr4 v b I x y z u) : Fr4 v b I x z y u := ⟨h.vx, h.vz, h.vy, h.vu, h.xz, h.xy, h.xu, h.yz.symm, h.zu, h.yu, fun i a p q r => h.n1 i a p r q, h.n3, h.n2, fun i a p q r => h.n4 i a q p r⟩
theorem Fr4.s3 {x y z u : Nat} (h : Fr4 v b I x y z u) : Fr4 v b I x y u z := ⟨h.vx, h.vy, h.vu, h.vz, h.xy, h.xu, h.xz, h.yu, h.yz, h.zu.symm, h.n2, h.n1, fun i a p q r => h.n3 i a p r q, fun i a p q r => h.n4 i a p r q⟩
/-- How many points a line has, how many lines a point has. -/
def szP (v : Nat) (I : Nat → Nat → Bool) (i : Nat) : Nat := ((List.range v).filter fun x => I x i).length
def dgP (b : Nat) (I : Nat → Nat → Bool) (x : Nat) : Nat := ((List.range b).filter fun i => I x i).length
theorem Pln.sd (h : Pln v b I) {x i : Nat} (hx : x < v) (hi : i < b) (ho : I x i = false) : szP v I i = dgP b I x := by
  have ne : ∀ {y}, I y i = true → x ≠ y := fun hy e => by rw [← e, ho] at hy; cases hy
  refine Nat.le_antisymm (pl_bij (R := fun y j => y < v ∧ j < b ∧ I y i = true ∧ I x j = true ∧ I y j = true) (List.nodup_range.filter _) (fun y hy => ?_) ?_) (pl_bij (R := fun j y => y < v ∧ j < b ∧ I y i = true ∧ I x j = true ∧ I y j = true) (List.nodup_range.filter _) (fun j hj => ?_) ?_)
  · obtain ⟨h1, h2⟩ := List.mem_filter.1 hy
    have h1 := List.mem_range.1 h1
    obtain ⟨j, hj, a, c⟩ := h.join x y hx h1 (ne h2)
    exact ⟨j, List.mem_filter.2 ⟨List.mem_range.2 hj, a⟩, h1, hj, h2, a, c⟩
  · rintro y y' j ⟨a1, a2, a3, a4, a5⟩ ⟨c1, _, c3, _, c5⟩
    refine Classical.byContradiction fun hn => ?_
    have := h.juni y y' i j a1 c1 hn hi a2 a3 c3 a5 c5
    rw [← this, ho] at a4; cases a4
  · obtain ⟨h1, h2⟩ := List.mem_filter.1 hj
    have h1 := List.mem_range.1 h1
    have hij : i ≠ j := fun e => by rw [e, h2] at ho; cases ho
    obtain ⟨y, hy, a, c⟩ := h.meet i j hi h1 hij
    exact ⟨y, List.mem_filter.2 ⟨List.mem_range.2 hy, a⟩, hy, h1, a, h2, c⟩
  · rintro j j' y ⟨a1, a2, a3, a4, a5⟩ ⟨_, c2, _, c4, c5⟩
    exact h.juni x y j j' hx a1 (ne a3) a2 c2 a4 a5 c4 c5
theorem Pln.off_core (h : Pln v b I) {x y z u i j : Nat} (f : Fr4 v b I x y z u) (hi : i < b) (hj : j < b) (h1 : I x i = true) (h2 : I y i = true) (h3 : I z j = true) (h4 : I u j = true) : ∃ p, p < v ∧ I p i = false ∧ I p j = false := by
  obtain ⟨s, hs, s1, s2⟩ := h.join x z f.vx f.vz f.xz
  obtain ⟨t, ht, t1, t2⟩ := h.join y u f.vy f.vu f.yu
  have hst : s ≠ t := fun e => f.n1 s hs s1 (by rw [e]; exact t1) s2
  obtain ⟨p, hp, p1, p2⟩ := h.meet s t hs ht hst
  refine ⟨p, hp, ?_, ?_⟩
  · refine Bool.eq_false_iff.2 fun q => ?_
    by_cases e : p = x
    · rw [e] at p2; exact f.n2 t ht p2 t1 t2
    · have := h.juni p x i s hp f.vx e hi hs q h1 p1 s1
      exact f.n1 i hi h1 h2 (by rw [this]; exact s2)
  · refine Bool.eq_false_iff.2 fun q => ?_
    by_cases e : p = z
    · rw [e] at p2; exact f.n4 t ht t1 p2 t2
    · have := h.juni p z j s hp f.vz e hj hs q h3 p1 s2
      exact f.n3 j hj (by rw [this]; exact s1) h3 h4
theorem Pln.off (h : Pln v b I) {i j : Nat} (hi : i < b) (hj : j < b) : ∃ p, p < v ∧ I p i = false ∧ I p j = false := by
  obtain ⟨x, y, z, u, f⟩ := h.four
  refine Classical.byContradiction fun hn => ?_
  have key : ∀ p, p < v → I p i = true ∨ I p j = true := fun p hp => by
    cases e1 : I p i
    · cases e2 : I p j
      · exact (hn ⟨p, hp, e1, e2⟩).elim
      · exact .inr rfl
    · exact .inl rfl
  have go : ∀ {x y z u}, Fr4 v b I x y z u → I x i = true → I y i = true → I z j = true → I u j = true → False := fun f a c d e => hn (h.off_core f hi hj a c d e)
  rcases key x f.vx with hx | hx <;> rcases key y f.vy with hy | hy <;> rcases key z f.vz with hz | hz <;> rcases key u f.vu with hu | hu
  · exact f.n1 i hi hx hy hz
  · exact f.n1 i hi hx hy hz
  · exact f.n2 i hi hx hy hu
  · exact go f hx hy hz hu
  · exact f.n3 i hi hx hz hu
  · exact go f.s2 hx hz hy hu
  · exact go f.s3.s2 hx hu hy hz
  · exact f.n4 j hj hy hz hu
  · exact f.n4 i hi hy hz hu
  · exact go f.s1.s2 hy hz hx hu
  · exact go f.s3.s1.s2 hy hu hx hz
  · exact f.n3 j hj hx hz hu
  · exact go f.s2.s3.s1.s2 hz hu hx hy
  · exact f.n2 j hj hx hy hu
  · exact f.n1 j hj hx hy hz
  · exact f.n1 j hj hx hy hz
theorem Pln.sz_eq (h : Pln v b I) {i j : Nat} (hi : i < b) (hj : j < b) : szP v I i = szP v I j := by
  obtain ⟨p, hp, h1, h2⟩ := h.off hi hj
  rw [h.sd hp hi h1, h.sd hp hj h2]
/-- A line that a point is not on. -/
theorem Pln.away (h : Pln v b I) {x : Nat} (hx : x < v) : ∃ i, i < b ∧ I x i = false := by
  obtain ⟨a, c, e, u, f⟩ := h.four
  refine Classical.byContradiction fun hn => ?_
  have key : ∀ i, i < b → I x i = true := fun i hi => by
    cases e : I x i
    · exact (hn ⟨i, hi, e⟩).elim
    · rfl
  obtain ⟨i, hi, i1, i2⟩ := h.join a c f.vx f.vy f.xy
  obtain ⟨j, hj, j1, j2⟩ := h.join a e f.vx f.vz f.xz
  obtain ⟨k, hk, k1, k2⟩ := h.join c e f.vy f.vz f.yz
  by_cases q : x = a
  · exact f.n1 k hk (by rw [← q]; exact key k hk) k1 k2
  · have := h.juni x a i j hx f.vx q hi hj (key i hi) i1 (key j hj) j1
    exact f.n1 i hi i1 i2 (by rw [this]; exact j2)
theorem Pln.dg (h : Pln v b I) {x i : Nat} (hx : x < v) (hi : i < b) : dgP b I x = szP v I i := by
  obtain ⟨j, hj, h1⟩ := h.away hx
  rw [← h.sd hx hj h1, h.sz_eq hj hi]
theorem Pln.three (h : Pln v b I) {i : Nat} (hi : i < b) : 3 ≤ szP v I i := by
  obtain ⟨a, c, e, u, f⟩ := h.four
  rw [← h.dg f.vx hi]
  obtain ⟨i, hi, i1, i2⟩ := h.join a c f.vx f.vy f.xy
  obtain ⟨j, hj, j1, j2⟩ := h.join a e f.vx f.vz f.xz
  obtain ⟨k, hk, k1, k2⟩ := h.join a u f.vx f.vu f.xu
  have e1 : i ≠ j := fun q => f.n1 i hi i1 i2 (by rw [q]; exact j2)
  have e2 : i ≠ k := fun q => f.n2 i hi i1 i2 (by rw [q]; exact k2)
  have e3 : j ≠ k := fun q => f.n3 j hj j1 j2 (by rw [q]; exact k2)
  refine pl_sub (A := [i, j, k]) (by simp [e1, e2, e3]) fun x hx => ?_
  rcases List.mem_cons.1 hx with rfl | hx
  · exact List.mem_filter.2 ⟨List.mem_range.2 hi, i1⟩
  rcases List.mem_cons.1 hx with rfl | hx
  · exact List.mem_filter.2 ⟨List.mem_range.2 hj, j1⟩
  · obtain rfl := List.mem_singleton.1 hx
    exact List.mem_filter.2 ⟨List.mem_range.2 hk, k1⟩
theorem Pln.line (h : Pln v b I) : ∃ i, i < b := by
  obtain ⟨a, c, e, u, f⟩ := h.four
  obtain ⟨i, hi, _⟩ := h.join a c f.vx f.vy f.xy
  exact ⟨i, hi⟩

end Go.Proofs.YtgpkhfpejopacabDoor
