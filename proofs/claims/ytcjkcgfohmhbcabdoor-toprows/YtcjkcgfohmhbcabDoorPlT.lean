/- A plane, told by its blocks, and what the program asks of one. Nothing of the program. -/
import Derived.Test.YtcjkcgfohmhbcabDoorDPure
import Derived.Test.YtcjkcgfohmhbcabDoorDFish
import Derived.Test.YtcjkcgfohmhbcabDoorDNext
/- Bose's bound of arcs. Nothing of the program. -/
/- Projective planes, told by what lies in what: each line has as many points, each point as many lines; Bose's bound of arcs. Nothing of the program. -/
namespace Go.Proofs.YtcjkcgfohmhbcabDoor

/-- What two lists have, one to one. -/
theorem pl_sub {α : Type} [DecidableEq α] : ∀ {A B : List α}, A.Nodup → (∀ x ∈ A, x ∈ B) → A.length ≤ B.length
  | [], _, _, _ => Nat.zero_le _
  | a :: A, B, hn, h => by
    have hn' := List.nodup_cons.1 hn
    have := pl_sub (B := B.erase a) hn'.2 fun x hx => by
      have hne : x ≠ a := fun e => hn'.1 (by rw [← e]; exact hx)
      exact (List.mem_erase_of_ne hne).2 (h x (List.mem_cons_of_mem _ hx))
    rw [List.length_erase_of_mem (h a List.mem_cons_self)] at this
    have : 0 < B.length := List.length_pos_of_mem (h a List.mem_cons_self)
    simp only [List.length_cons]
    omega
theorem pl_bij {α β : Type} [DecidableEq β] {R : α → β → Prop} {A : List α} {B : List β} (hA : A.Nodup) (h1 : ∀ a ∈ A, ∃ b ∈ B, R a b) (h4 : ∀ a a' b, R a b → R a' b → a = a') : A.length ≤ B.length := by
  have hf : ∀ a : α, ∃ b : Option β, a ∈ A → ∃ c, b = some c ∧ c ∈ B ∧ R a c := fun a => by
    by_cases e : a ∈ A
    · obtain ⟨b, h2, h3⟩ := h1 a e; exact ⟨some b, fun _ => ⟨b, rfl, h2, h3⟩⟩
    · exact ⟨none, fun h => (e h).elim⟩
  obtain ⟨f, hf⟩ := Classical.axiomOfChoice hf
  have hn : (A.map f).Nodup := by
    unfold List.Nodup
    rw [List.pairwise_map]
    refine (List.pairwise_iff_forall_sublist.2 fun {a b} hs e => ?_)
    have ha : a ∈ A := hs.subset (by simp)
    have hb : b ∈ A := hs.subset (by simp)
    have hab : a ≠ b := List.pairwise_iff_forall_sublist.1 hA hs
    obtain ⟨c, e1, _, r1⟩ := hf a ha
    obtain ⟨d, e2, _, r2⟩ := hf b hb
    rw [e1, e2] at e
    cases e
    exact hab (h4 _ _ _ r1 r2)
  have := pl_sub (B := B.map some) hn fun x hx => by
    obtain ⟨a, ha, rfl⟩ := List.mem_map.1 hx
    obtain ⟨c, e1, hc, _⟩ := hf a ha
    rw [e1]; exact List.mem_map_of_mem hc
  simpa using this
/-- No three of these in a line. -/
def Ap3 (b : Nat) (I : Nat → Nat → Bool) (x y z : Nat) : Prop := ∀ i, i < b → I x i = true → I y i = true → I z i = true → False
structure Fr4 (v b : Nat) (I : Nat → Nat → Bool) (x y z u : Nat) : Prop where
  vx : x < v
  vy : y < v
  vz : z < v
  vu : u < v
  xy : x ≠ y
  xz : x ≠ z
  xu : x ≠ u
  yz : y ≠ z
  yu : y ≠ u
  zu : z ≠ u
  n1 : Ap3 b I x y z
  n2 : Ap3 b I x y u
  n3 : Ap3 b I x z u
  n4 : Ap3 b I y z u
structure Pln (v b : Nat) (I : Nat → Nat → Bool) : Prop where
  join : ∀ x y, x < v → y < v → x ≠ y → ∃ i, i < b ∧ I x i = true ∧ I y i = true
  juni : ∀ x y i j, x < v → y < v → x ≠ y → i < b → j < b → I x i = true → I y i = true → I x j = true → I y j = true → i = j
  meet : ∀ i j, i < b → j < b → i ≠ j → ∃ x, x < v ∧ I x i = true ∧ I x j = true
  four : ∃ x y z u, Fr4 v b I x y z u
variable {v b : Nat} {I : Nat → Nat → Bool}
theorem Fr4.s1 {x y z u : Nat} (h : Fr4 v b I x y z u) : Fr4 v b I y x z u := ⟨h.vy, h.vx, h.vz, h.vu, h.xy.symm, h.yz, h.yu, h.xz, h.xu, h.zu, fun i a p q r => h.n1 i a q p r, fun i a p q r => h.n2 i a q p r, h.n4, h.n3⟩
theorem Fr4.s2 {x y z u : Nat} (h : Fr4 v b I x y z u) : Fr4 v b I x z y u := ⟨h.vx, h.vz, h.vy, h.vu, h.xz, h.xy, h.xu, h.yz.symm, h.zu, h.yu, fun i a p q r => h.n1 i a p r q, h.n3, h.n2, fun i a p q r => h.n4 i a q p r⟩
theorem Fr4.s3 {x y z u : Nat} (h : Fr4 v b I x y z u) : Fr4 v b I x y u z := ⟨h.vx, h.vy, h.vu, h.vz, h.xy, h.xu, h.xz, h.yu, h.yz, h.zu.symm, h.n2, h.n1, fun i a p q r => h.n3 i a p r q, fun i a p q r => h.n4 i a p r q⟩
/-- How many points a line has, how many lines a point has. -/
def szP (v : Nat) (I : Nat → Nat → Bool) (i : Nat) : Nat := ((List.range v).filter fun x => I x i).length
def dgP (b : Nat) (I : Nat → Nat → Bool) (x : Nat) : Nat := ((List.range b).filter fun i => I x i).length
theorem Pln.sd (h : Pln v b I) {x i : Nat} (hx : x < v) (hi : i < b) (ho : I x i = false) : szP v I i = dgP b I x := by
  have ne : ∀ {y}, I y i = true → x ≠ y := fun hy e => by rw [← e, ho] at hy; cases hy
  refine Nat.le_antisymm (pl_bij (R := fun y j => y < v ∧ j < b ∧ I y i = true ∧ I x j = true ∧ I y j = true) (List.nodup_range.filter _) (fun y hy => ?_) ?_) (pl_bij (R := fun j y => y < v ∧ j < b ∧ I y i = true ∧ I x j = true ∧ I y j = true) (List.nodup_range.filter _) (fun j hj => ?_) ?_)
  · obtain ⟨h1, h2⟩ := List.mem_filter.1 hy
    have h1 := List.mem_range.1 h1
    obtain ⟨j, hj, a, c⟩ := h.join x y hx h1 (ne h2)
    exact ⟨j, List.mem_filter.2 ⟨List.mem_range.2 hj, a⟩, h1, hj, h2, a, c⟩
  · rintro y y' j ⟨a1, a2, a3, a4, a5⟩ ⟨c1, _, c3, _, c5⟩
    refine Classical.byContradiction fun hn => ?_
    have := h.juni y y' i j a1 c1 hn hi a2 a3 c3 a5 c5
    rw [← this, ho] at a4; cases a4
  · obtain ⟨h1, h2⟩ := List.mem_filter.1 hj
    have h1 := List.mem_range.1 h1
    have hij : i ≠ j := fun e => by rw [e, h2] at ho; cases ho
    obtain ⟨y, hy, a, c⟩ := h.meet i j hi h1 hij
    exact ⟨y, List.mem_filter.2 ⟨List.mem_range.2 hy, a⟩, hy, h1, a, h2, c⟩
  · rintro j j' y ⟨a1, a2, a3, a4, a5⟩ ⟨_, c2, _, c4, c5⟩
    exact h.juni x y j j' hx a1 (ne a3) a2 c2 a4 a5 c4 c5
theorem Pln.off_core (h : Pln v b I) {x y z u i j : Nat} (f : Fr4 v b I x y z u) (hi : i < b) (hj : j < b) (h1 : I x i = true) (h2 : I y i = true) (h3 : I z j = true) (h4 : I u j = true) : ∃ p, p < v ∧ I p i = false ∧ I p j = false := by
  obtain ⟨s, hs, s1, s2⟩ := h.join x z f.vx f.vz f.xz
  obtain ⟨t, ht, t1, t2⟩ := h.join y u f.vy f.vu f.yu
  have hst : s ≠ t := fun e => f.n1 s hs s1 (by rw [e]; exact t1) s2
  obtain ⟨p, hp, p1, p2⟩ := h.meet s t hs ht hst
  refine ⟨p, hp, ?_, ?_⟩
  · refine Bool.eq_false_iff.2 fun q => ?_
    by_cases e : p = x
    · rw [e] at p2; exact f.n2 t ht p2 t1 t2
    · have := h.juni p x i s hp f.vx e hi hs q h1 p1 s1
      exact f.n1 i hi h1 h2 (by rw [this]; exact s2)
  · refine Bool.eq_false_iff.2 fun q => ?_
    by_cases e : p = z
    · rw [e] at p2; exact f.n4 t ht t1 p2 t2
    · have := h.juni p z j s hp f.vz e hj hs q h3 p1 s2
      exact f.n3 j hj (by rw [this]; exact s1) h3 h4
theorem Pln.off (h : Pln v b I) {i j : Nat} (hi : i < b) (hj : j < b) : ∃ p, p < v ∧ I p i = false ∧ I p j = false := by
  obtain ⟨x, y, z, u, f⟩ := h.four
  refine Classical.byContradiction fun hn => ?_
  have key : ∀ p, p < v → I p i = true ∨ I p j = true := fun p hp => by
    cases e1 : I p i
    · cases e2 : I p j
      · exact (hn ⟨p, hp, e1, e2⟩).elim
      · exact .inr rfl
    · exact .inl rfl
  have go : ∀ {x y z u}, Fr4 v b I x y z u → I x i = true → I y i = true → I z j = true → I u j = true → False := fun f a c d e => hn (h.off_core f hi hj a c d e)
  rcases key x f.vx with hx | hx <;> rcases key y f.vy with hy | hy <;> rcases key z f.vz with hz | hz <;> rcases key u f.vu with hu | hu
  · exact f.n1 i hi hx hy hz
  · exact f.n1 i hi hx hy hz
  · exact f.n2 i hi hx hy hu
  · exact go f hx hy hz hu
  · exact f.n3 i hi hx hz hu
  · exact go f.s2 hx hz hy hu
  · exact go f.s3.s2 hx hu hy hz
  · exact f.n4 j hj hy hz hu
  · exact f.n4 i hi hy hz hu
  · exact go f.s1.s2 hy hz hx hu
  · exact go f.s3.s1.s2 hy hu hx hz
  · exact f.n3 j hj hx hz hu
  · exact go f.s2.s3.s1.s2 hz hu hx hy
  · exact f.n2 j hj hx hy hu
  · exact f.n1 j hj hx hy hz
  · exact f.n1 j hj hx hy hz
theorem Pln.sz_eq (h : Pln v b I) {i j : Nat} (hi : i < b) (hj : j < b) : szP v I i = szP v I j := by
  obtain ⟨p, hp, h1, h2⟩ := h.off hi hj
  rw [h.sd hp hi h1, h.sd hp hj h2]
/-- A line that a point is not on. -/
theorem Pln.away (h : Pln v b I) {x : Nat} (hx : x < v) : ∃ i, i < b ∧ I x i = false := by
  obtain ⟨a, c, e, u, f⟩ := h.four
  refine Classical.byContradiction fun hn => ?_
  have key : ∀ i, i < b → I x i = true := fun i hi => by
    cases e : I x i
    · exact (hn ⟨i, hi, e⟩).elim
    · rfl
  obtain ⟨i, hi, i1, i2⟩ := h.join a c f.vx f.vy f.xy
  obtain ⟨j, hj, j1, j2⟩ := h.join a e f.vx f.vz f.xz
  obtain ⟨k, hk, k1, k2⟩ := h.join c e f.vy f.vz f.yz
  by_cases q : x = a
  · exact f.n1 k hk (by rw [← q]; exact key k hk) k1 k2
  · have := h.juni x a i j hx f.vx q hi hj (key i hi) i1 (key j hj) j1
    exact f.n1 i hi i1 i2 (by rw [this]; exact j2)
theorem Pln.dg (h : Pln v b I) {x i : Nat} (hx : x < v) (hi : i < b) : dgP b I x = szP v I i := by
  obtain ⟨j, hj, h1⟩ := h.away hx
  rw [← h.sd hx hj h1, h.sz_eq hj hi]
theorem Pln.three (h : Pln v b I) {i : Nat} (hi : i < b) : 3 ≤ szP v I i := by
  obtain ⟨a, c, e, u, f⟩ := h.four
  rw [← h.dg f.vx hi]
  obtain ⟨i, hi, i1, i2⟩ := h.join a c f.vx f.vy f.xy
  obtain ⟨j, hj, j1, j2⟩ := h.join a e f.vx f.vz f.xz
  obtain ⟨k, hk, k1, k2⟩ := h.join a u f.vx f.vu f.xu
  have e1 : i ≠ j := fun q => f.n1 i hi i1 i2 (by rw [q]; exact j2)
  have e2 : i ≠ k := fun q => f.n2 i hi i1 i2 (by rw [q]; exact k2)
  have e3 : j ≠ k := fun q => f.n3 j hj j1 j2 (by rw [q]; exact k2)
  refine pl_sub (A := [i, j, k]) (by simp [e1, e2, e3]) fun x hx => ?_
  rcases List.mem_cons.1 hx with rfl | hx
  · exact List.mem_filter.2 ⟨List.mem_range.2 hi, i1⟩
  rcases List.mem_cons.1 hx with rfl | hx
  · exact List.mem_filter.2 ⟨List.mem_range.2 hj, j1⟩
  · obtain rfl := List.mem_singleton.1 hx
    exact List.mem_filter.2 ⟨List.mem_range.2 hk, k1⟩
theorem Pln.line (h : Pln v b I) : ∃ i, i < b := by
  obtain ⟨a, c, e, u, f⟩ := h.four
  obtain ⟨i, hi, _⟩ := h.join a c f.vx f.vy f.xy
  exact ⟨i, hi⟩

end Go.Proofs.YtcjkcgfohmhbcabDoor

namespace Go.Proofs.YtcjkcgfohmhbcabDoor
variable {v b : Nat} {I : Nat → Nat → Bool}

structure ArcP (v b : Nat) (I : Nat → Nat → Bool) (K : List Nat) : Prop where
  nd : K.Nodup
  lt : ∀ x ∈ K, x < v
  two : ∀ i, i < b → K.countP (fun x => I x i) ≤ 2
/-- Three of a list in a line are not two. -/
theorem three_in {K : List Nat} (p : Nat → Bool) {x y z : Nat} (hx : x ∈ K) (hy : y ∈ K) (hz : z ∈ K) (xy : x ≠ y) (xz : x ≠ z) (yz : y ≠ z) (px : p x = true) (py : p y = true) (pz : p z = true) : 3 ≤ K.countP p := by
  rw [List.countP_eq_length_filter]
  refine pl_sub (A := [x, y, z]) (by simp [xy, xz, yz]) fun u hu => ?_
  rcases List.mem_cons.1 hu with rfl | hu
  · exact List.mem_filter.2 ⟨hx, px⟩
  rcases List.mem_cons.1 hu with rfl | hu
  · exact List.mem_filter.2 ⟨hy, py⟩
  · obtain rfl := List.mem_singleton.1 hu
    exact List.mem_filter.2 ⟨hz, pz⟩
theorem erase_in {K : List Nat} (hn : K.Nodup) {p y : Nat} (h : y ∈ K.erase p) : y ∈ K ∧ y ≠ p := by
  have := (List.Nodup.mem_erase_iff hn).1 h
  exact ⟨this.2, this.1⟩
/-- The others of an arc, each along a line of its own through one of it. -/
theorem Pln.arc_inj (h : Pln v b I) {K : List Nat} (k : ArcP v b I K) {p : Nat} (hp : p ∈ K) (ok : Nat → Bool) (hok : ∀ y i, y ∈ K → y ≠ p → i < b → I p i = true → I y i = true → ok i = true) : K.length ≤ ((List.range b).filter fun i => I p i && ok i).length + 1 := by
  have hl : (K.erase p).length + 1 = K.length := by
    rw [List.length_erase_of_mem hp]
    have := List.length_pos_of_mem hp
    omega
  have : (K.erase p).length ≤ ((List.range b).filter fun i => I p i && ok i).length := by
    refine pl_bij (R := fun y i => y ∈ K ∧ y ≠ p ∧ i < b ∧ I p i = true ∧ I y i = true) (k.nd.erase p) (fun y hy => ?_) ?_
    · obtain ⟨h1, h2⟩ := erase_in k.nd hy
      obtain ⟨i, hi, a, c⟩ := h.join p y (k.lt p hp) (k.lt y h1) h2.symm
      exact ⟨i, List.mem_filter.2 ⟨List.mem_range.2 hi, by rw [a, hok y i h1 h2 hi a c]; rfl⟩, h1, h2, hi, a, c⟩
    · rintro y y' i ⟨a1, a2, a3, a4, a5⟩ ⟨c1, c2, _, _, c5⟩
      refine Classical.byContradiction fun hn => ?_
      have := three_in (fun x => I x i) hp a1 c1 (Ne.symm a2) (Ne.symm c2) hn a4 a5 c5
      have := k.two i a3
      omega
  omega
theorem filter_ne {b j : Nat} {p : Nat → Bool} (hj : j < b) (hp : p j = true) : ((List.range b).filter fun i => p i && (i != j)).length + 1 = ((List.range b).filter p).length := by
  have h1 : ((List.range b).filter fun i => p i && (i != j)) = ((List.range b).filter p).erase j := by
    rw [List.Nodup.erase_eq_filter (List.nodup_range.filter _), List.filter_filter]
    refine List.filter_congr fun x _ => ?_
    cases p x <;> simp
  have hm : j ∈ (List.range b).filter p := List.mem_filter.2 ⟨List.mem_range.2 hj, hp⟩
  rw [h1, List.length_erase_of_mem hm]
  have := List.length_pos_of_mem hm
  omega
/-- Of the greatest arcs each line has none or two. -/
theorem Pln.full (h : Pln v b I) {K : List Nat} (k : ArcP v b I K) {i : Nat} (hi : i < b) (hK : K.length = szP v I i + 1) {j : Nat} (hj : j < b) : K.countP (fun x => I x j) = 0 ∨ K.countP (fun x => I x j) = 2 := by
  by_cases h0 : ∃ p, p ∈ K ∧ I p j = true
  · obtain ⟨p, hp, pj⟩ := h0
    refine .inr (Nat.le_antisymm (k.two j hj) (Nat.not_lt.1 fun hlt => ?_))
    have := h.arc_inj k hp (fun i => i != j) (fun y i hy hne hi' a c => by
      rw [bne_iff_ne]
      rintro rfl
      have : 2 ≤ K.countP (fun x => I x i) := by
        rw [List.countP_eq_length_filter]
        refine pl_sub (A := [p, y]) (by simp [Ne.symm hne]) fun u hu => ?_
        rcases List.mem_cons.1 hu with rfl | hu
        · exact List.mem_filter.2 ⟨hp, a⟩
        · obtain rfl := List.mem_singleton.1 hu
          exact List.mem_filter.2 ⟨hy, c⟩
      omega)
    have e := filter_ne (p := fun i => I p i) hj pj
    have d := h.dg (k.lt p hp) hi
    unfold dgP at d
    omega
  · refine .inl (List.countP_eq_zero.2 fun x hx hn => h0 ⟨x, hx, hn⟩)
end Go.Proofs.YtcjkcgfohmhbcabDoor

namespace Go.Proofs.YtcjkcgfohmhbcabDoor

/-- Do three of these lie in a block? -/
def liB (B : List (List Nat)) (s : List Nat) : Bool := B.any fun b => decide (2 < mt s b)
theorem liB_no {B : List (List Nat)} {s : List Nat} (h : ∀ (i : Nat) (b : List Nat), B[i]? = some b → ¬ 2 < mt s b) : liB B s = false := by
  unfold liB
  rw [List.any_eq_false]
  intro b hb
  obtain ⟨i, hi⟩ := List.getElem?_of_mem hb
  simpa using h i b hi
theorem liB_false {B : List (List Nat)} {s : List Nat} (h : liB B s = false) {b : List Nat} (hb : b ∈ B) : mt s b ≤ 2 := by
  unfold liB at h
  rw [List.any_eq_false] at h
  have := h b hb
  simp only [decide_eq_true_eq] at this
  omega
/-- What the document calls a plane. -/
def PlP (v : Nat) (B : List (List Nat)) : Prop := (∀ (i j : Nat) (b c : List Nat), j < i → B[i]? = some b → B[j]? = some c → mt b c = 1) ∧ (∀ x y, y < x → x < v → nb B [y, x] = 1) ∧ 4 ≤ v ∧ ∃ s, Rs v 0 s ∧ s.length = 4 ∧ liB B s = false
def inc (B : List (List Nat)) (x i : Nat) : Bool := (B.getD i []).contains x
theorem inc_at {B : List (List Nat)} {i : Nat} {b : List Nat} (h : B[i]? = some b) (x : Nat) : inc B x i = b.contains x := by
  unfold inc
  rw [List.getD_eq_getElem?_getD, h]; rfl
theorem at_lt {B : List (List Nat)} {i : Nat} {b : List Nat} (h : B[i]? = some b) : i < B.length := (List.getElem?_eq_some_iff.1 h).1
theorem at_of {B : List (List Nat)} {i : Nat} (h : i < B.length) : ∃ b, B[i]? = some b := ⟨_, List.getElem?_eq_getElem h⟩
theorem cnt_one {α : Type} {p : α → Bool} : ∀ {B : List α}, B.countP p = 1 → ∃ (i : Nat) (a : α), B[i]? = some a ∧ p a = true ∧ ∀ (j : Nat) (c : α), B[j]? = some c → p c = true → j = i
  | [], h => by simp at h
  | b :: B, h => by
    rw [List.countP_cons] at h
    by_cases e : p b = true
    · rw [if_pos e] at h
      have h0 : B.countP p = 0 := by omega
      rw [List.countP_eq_zero] at h0
      refine ⟨0, b, rfl, e, fun j c hj hc => ?_⟩
      cases j with
      | zero => rfl
      | succ j => exact absurd hc (h0 c (List.mem_of_getElem? (by simpa using hj)))
    · rw [if_neg e] at h
      obtain ⟨i, a, h1, h2, h3⟩ := cnt_one (show B.countP p = 1 by omega)
      refine ⟨i + 1, a, by simpa using h1, h2, fun j c hj hc => ?_⟩
      cases j with
      | zero =>
        have : b = c := by simpa using hj
        subst this; exact absurd hc e
      | succ j =>
        have := h3 j c (by simpa using hj) hc
        omega
theorem nb_uni {B : List (List Nat)} {x y : Nat} (h : nb B [x, y] = 1) : ∃ (i : Nat) (b : List Nat), B[i]? = some b ∧ x ∈ b ∧ y ∈ b ∧ ∀ (j : Nat) (c : List Nat), B[j]? = some c → x ∈ c → y ∈ c → j = i := by
  obtain ⟨i, b, h1, h2, h3⟩ := cnt_one h
  refine ⟨i, b, h1, ?_, ?_, fun j c hj hx hy => h3 j c hj ?_⟩
  · have := List.all_eq_true.1 h2 x (by simp); simpa using this
  · have := List.all_eq_true.1 h2 y (by simp); simpa using this
  · simp [hx, hy]
theorem PlP.pair {v : Nat} {B : List (List Nat)} (h : PlP v B) {x y : Nat} (hx : x < v) (hy : y < v) (hn : x ≠ y) : nb B [x, y] = 1 := by
  rcases Nat.lt_or_gt_of_ne hn with k | k
  · exact h.2.1 y x k hy
  · rw [nb_perm B (List.Perm.swap y x [])]; exact h.2.1 x y k hx
theorem ap3_of_li {B : List (List Nat)} {s : List Nat} (h : liB B s = false) {x y z : Nat} (hx : x ∈ s) (hy : y ∈ s) (hz : z ∈ s) (xy : x ≠ y) (xz : x ≠ z) (yz : y ≠ z) : Ap3 B.length (inc B) x y z := fun i hi p q r => by
  obtain ⟨b, hb⟩ := at_of hi
  rw [inc_at hb] at p q r
  have h1 := liB_false h (List.mem_of_getElem? hb)
  have h2 := three_in (fun t => b.contains t) hx hy hz xy xz yz p q r
  unfold mt at h1
  omega
theorem PlP.pln {v : Nat} {B : List (List Nat)} (hB : Bls v B) (h : PlP v B) : Pln v B.length (inc B) where
  join := fun x y hx hy hn => by
    obtain ⟨i, b, h1, h2, h3, _⟩ := nb_uni (h.pair hx hy hn)
    exact ⟨i, at_lt h1, by rw [inc_at h1]; simpa using h2, by rw [inc_at h1]; simpa using h3⟩
  juni := fun x y i j hx hy hn hi hj a b c d => by
    obtain ⟨k, _, _, _, _, h4⟩ := nb_uni (h.pair hx hy hn)
    obtain ⟨bi, hbi⟩ := at_of hi
    obtain ⟨bj, hbj⟩ := at_of hj
    rw [inc_at hbi] at a b
    rw [inc_at hbj] at c d
    exact (h4 i bi hbi (by simpa using a) (by simpa using b)).trans (h4 j bj hbj (by simpa using c) (by simpa using d)).symm
  meet := fun i j hi hj hn => by
    have key : ∀ {i j : Nat}, j < i → i < B.length → ∃ x, x < v ∧ inc B x i = true ∧ inc B x j = true := fun {i j} hji hi => by
      obtain ⟨bi, hbi⟩ := at_of hi
      obtain ⟨bj, hbj⟩ := at_of (Nat.lt_trans hji hi)
      have h1 := h.1 i j bi bj hji hbi hbj
      unfold mt at h1
      obtain ⟨x, hx, hc⟩ := List.countP_pos_iff.1 (show 0 < bi.countP (fun x => bj.contains x) by omega)
      exact ⟨x, (hB bi (List.mem_of_getElem? hbi)).lt x hx, by rw [inc_at hbi]; simpa using hx, by rw [inc_at hbj]; exact hc⟩
    rcases Nat.lt_or_gt_of_ne hn with k | k
    · obtain ⟨x, a, b, c⟩ := key k hj
      exact ⟨x, a, c, b⟩
    · exact key k hi
  four := by
    obtain ⟨_, _, _, s, h1, h2, h3⟩ := h
    obtain ⟨hr, hl⟩ := rs_iff.1 h1
    match s, h2 with
    | [a, b, c, d], _ =>
      simp only [List.pairwise_cons, List.mem_cons, List.not_mem_nil, or_false, forall_eq_or_imp, forall_eq, false_implies, implies_true, List.Pairwise.nil, and_true] at hr
      have la := (hl a (by simp)).2
      have lb := (hl b (by simp)).2
      have lc := (hl c (by simp)).2
      have ld := (hl d (by simp)).2
      exact ⟨a, b, c, d, la, lb, lc, ld, by omega, by omega, by omega, by omega, by omega, by omega,
        ap3_of_li h3 (by simp) (by simp) (by simp) (by omega) (by omega) (by omega), ap3_of_li h3 (by simp) (by simp) (by simp) (by omega) (by omega) (by omega),
        ap3_of_li h3 (by simp) (by simp) (by simp) (by omega) (by omega) (by omega), ap3_of_li h3 (by simp) (by simp) (by simp) (by omega) (by omega) (by omega)⟩
theorem sz_len {v : Nat} {B : List (List Nat)} (hB : Bls v B) {i : Nat} {b : List Nat} (hb : B[i]? = some b) : szP v (inc B) i = b.length := by
  unfold szP
  rw [← (hB b (List.mem_of_getElem? hb)).count, List.countP_eq_length_filter]
  congr 1
  exact List.filter_congr fun x _ => inc_at hb x
/-- What the program asks of a plane. -/
structure PrP (v : Nat) (B : List (List Nat)) (k : Nat) : Prop where
  size : ∀ b ∈ B, b.length = k
  big : 3 ≤ k
  two : Lev v B 2 1
  more : ∃ i, 0 < i ∧ i < B.length
  meet : ∀ (i j : Nat) (b c : List Nat), j < i → B[i]? = some b → B[j]? = some c → mt b c = 1
theorem PlP.prp {v : Nat} {B : List (List Nat)} (hB : Bls v B) (h : PlP v B) : ∃ k, PrP v B k := by
  have H := h.pln hB
  obtain ⟨i, hi⟩ := H.line
  obtain ⟨b, hb⟩ := at_of hi
  refine ⟨b.length, fun c hc => ?_, ?_, fun s hs hl => ?_, ?_, h.1⟩
  · obtain ⟨j, hj⟩ := List.getElem?_of_mem hc
    rw [← sz_len hB hj, ← sz_len hB hb]
    exact H.sz_eq (at_lt hj) hi
  · rw [← sz_len hB hb]; exact H.three hi
  · match s, hl with
    | [x, y], _ =>
      have hn : x ≠ y := by
        have := hs.nd
        simp only [List.nodup_cons, List.mem_singleton] at this
        exact this.1
      exact h.pair (hs.lt x (by simp)) (hs.lt y (by simp)) hn
  · obtain ⟨x, y, z, u, f⟩ := H.four
    obtain ⟨i, hi, a, b⟩ := H.join x y f.vx f.vy f.xy
    obtain ⟨j, hj, c, d⟩ := H.join x z f.vx f.vz f.xz
    have hij : i ≠ j := fun e => f.n1 i hi a b (by rw [e]; exact d)
    rcases Nat.lt_or_gt_of_ne hij with k | k
    · exact ⟨j, by omega, hj⟩
    · exact ⟨i, by omega, hi⟩
theorem mt_sym {v : Nat} {b c : List Nat} (hb : Pts v b) (hc : Pts v c) : mt b c = mt c b := by
  have key : ∀ {b c : List Nat}, Pts v b → mt b c = (List.range v).countP fun x => b.contains x && c.contains x := fun {b c} hb => by
    unfold mt
    rw [← hb.filter.countP_eq, List.countP_filter]
    exact List.countP_congr fun x _ => by rw [Bool.and_comm]
  rw [key hb, key hc]
  exact List.countP_congr fun x _ => by rw [Bool.and_comm]
theorem two_off {v : Nat} {b c : List Nat} (hb : Pts v b) (h3 : 3 ≤ b.length) (h1 : mt b c = 1) : ∃ x y, x ∈ b ∧ y ∈ b ∧ x ≠ y ∧ x ∉ c ∧ y ∉ c := by
  have hl : (b.filter fun x => !c.contains x).length + mt b c = b.length := by
    unfold mt
    rw [← List.countP_eq_length_filter]
    have := List.length_eq_countP_add_countP (fun x => c.contains x) (l := b)
    have e : b.countP (fun a => decide ¬ c.contains a = true) = b.countP fun x => !c.contains x := List.countP_congr fun x _ => by cases c.contains x <;> simp
    omega
  have nd : (b.filter fun x => !c.contains x).Nodup := hb.nd.filter _
  match h : b.filter fun x => !c.contains x with
  | [] => rw [h] at hl; simp at hl; omega
  | [x] => rw [h] at hl; simp at hl; omega
  | x :: y :: l =>
    rw [h] at nd
    have hx : x ∈ b.filter fun x => !c.contains x := by rw [h]; simp
    have hy : y ∈ b.filter fun x => !c.contains x := by rw [h]; simp
    obtain ⟨a1, a2⟩ := List.mem_filter.1 hx
    obtain ⟨c1, c2⟩ := List.mem_filter.1 hy
    refine ⟨x, y, a1, c1, fun e => ?_, by simpa using a2, by simpa using c2⟩
    subst e
    simp at nd
theorem PrP.plp {v k : Nat} {B : List (List Nat)} (hB : Bls v B) (h : PrP v B k) : PlP v B := by
  obtain ⟨i, h0, hi⟩ := h.more
  obtain ⟨b, hb⟩ := at_of hi
  obtain ⟨c, hc⟩ := at_of (show 0 < B.length by omega)
  have hbp := hB b (List.mem_of_getElem? hb)
  have hcp := hB c (List.mem_of_getElem? hc)
  have m1 := h.meet i 0 b c h0 hb hc
  obtain ⟨x, y, xb, yb, xy, xc, yc⟩ := two_off hbp (by rw [h.size b (List.mem_of_getElem? hb)]; exact h.big) m1
  obtain ⟨z, u, zc, uc, zu, zb, ub⟩ := two_off hcp (by rw [h.size c (List.mem_of_getElem? hc)]; exact h.big) ((mt_sym hcp hbp).trans m1)
  have pr : ∀ x y, x < v → y < v → x ≠ y → nb B [x, y] = 1 := fun x y hx hy hn => h.two [x, y] ⟨by simp [hn], fun z hz => by
    rcases List.mem_cons.1 hz with rfl | hz
    · exact hx
    · rw [List.mem_singleton.1 hz]; exact hy⟩ rfl
  have nd : Pts v [x, y, z, u] := by
    refine ⟨?_, fun t ht => ?_⟩
    · have e1 : x ≠ z := fun e => zb (e ▸ xb)
      have e2 : x ≠ u := fun e => ub (e ▸ xb)
      have e3 : y ≠ z := fun e => zb (e ▸ yb)
      have e4 : y ≠ u := fun e => ub (e ▸ yb)
      simp [xy, e1, e2, e3, e4, zu]
    · simp only [List.mem_cons, List.not_mem_nil, or_false] at ht
      rcases ht with rfl | rfl | rfl | rfl
      · exact hbp.lt _ xb
      · exact hbp.lt _ yb
      · exact hcp.lt _ zc
      · exact hcp.lt _ uc
  have h4 := nd.le
  refine ⟨h.meet, fun p q hq hp => pr q p (by omega) hp (by omega), h4, (List.range v).filter fun t => [x, y, z, u].contains t, rs_iff.2 ⟨List.pairwise_lt_range.filter _, fun t ht => ⟨Nat.zero_le _, List.mem_range.1 (List.mem_filter.1 ht).1⟩⟩, ?_, ?_⟩
  · rw [nd.filter.length_eq]; rfl
  · refine liB_no fun j d hd => ?_
    have e : mt ((List.range v).filter fun t => [x, y, z, u].contains t) d = mt [x, y, z, u] d := nd.filter.countP_eq _
    rw [e]
    obtain ⟨i1, _, _, _, _, u1⟩ := nb_uni (pr x y (hbp.lt _ xb) (hbp.lt _ yb) xy)
    obtain ⟨i2, _, _, _, _, u2⟩ := nb_uni (pr z u (hcp.lt _ zc) (hcp.lt _ uc) zu)
    have k1 : x ∈ d → y ∈ d → d = b := fun hx hy => by
      have := (u1 j d hd hx hy).trans (u1 i b hb xb yb).symm
      subst this
      rw [hd] at hb; exact Option.some.inj hb
    have k2 : z ∈ d → u ∈ d → d = c := fun hx hy => by
      have := (u2 j d hd hx hy).trans (u2 0 c hc zc uc).symm
      subst this
      rw [hd] at hc; exact Option.some.inj hc
    unfold mt
    simp only [List.countP_cons, List.countP_nil]
    by_cases q1 : x ∈ d <;> by_cases q2 : y ∈ d
    · obtain rfl := k1 q1 q2
      simp [zb, ub, q1, q2]
    · by_cases q3 : z ∈ d <;> by_cases q4 : u ∈ d
      · obtain rfl := k2 q3 q4
        exact absurd q1 xc
      · simp [q1, q2, q3, q4]
      · simp [q1, q2, q3, q4]
      · simp [q1, q2, q3, q4]
    · by_cases q3 : z ∈ d <;> by_cases q4 : u ∈ d
      · obtain rfl := k2 q3 q4
        exact absurd q2 yc
      · simp [q1, q2, q3, q4]
      · simp [q1, q2, q3, q4]
      · simp [q1, q2, q3, q4]
    · by_cases q3 : z ∈ d <;> by_cases q4 : u ∈ d
      · simp [q1, q2, q3, q4]
      · simp [q1, q2, q3, q4]
      · simp [q1, q2, q3, q4]
      · simp [q1, q2, q3, q4]

end Go.Proofs.YtcjkcgfohmhbcabDoor
