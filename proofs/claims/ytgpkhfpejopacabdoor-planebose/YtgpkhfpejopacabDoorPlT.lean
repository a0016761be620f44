/- A plane, told by its blocks, and what the program asks of one. Nothing of the program. -/
import Derived.Test.YtgpkhfpejopacabDoorPlB
import Derived.Test.YtgpkhfpejopacabDoorDFish
import Derived.Test.YtgpkhfpejopacabDoorDNext
namespace Go.Proofs.YtgpkhfpejopacabDoor

/-- Do three of these lie in a block? -/
def liB (B : List (List Nat)) (s : List Nat) : Bool := B.any fun b => decide (2 < mt s b)
theorem liB_yes {B : List (List Nat)} {s : List Nat} {i : Nat} {b : List Nat} (h : B[i]? = some b) (h2 : 2 < mt s b) : liB B s = true := by
  unfold liB
  rw [List.any_eq_true]
  exact ⟨b, List.mem_of_getElem? h, by simpa using h2⟩
theorem liB_no {B : List (List Nat)} {s : List Nat} (h : ∀ (i : Nat) (b : List Nat), B[i]? = some b → ¬ 2 < mt s b) : liB B s = false := by
  unfold liB
  rw [List.any_eq_false]
  intro b hb
  obtain ⟨i, hi⟩ := List.getElem?_of_mem hb
  simpa using h i b hi
theorem liB_false {B : List (List Nat)} {s : List Nat} (h : liB B s = false) {b : List Nat} (hb : b ∈ B) : mt s b ≤ 2 := by
  unfold liB at h
  rw [List.any_eq_false] at h
  have := h b hb
  simp only [decide_eq_true_eq] at this
  omega
/-- What the document calls a plane. -/
def PlP (v : Nat) (B : List (List Nat)) : Prop := (∀ (i j : Nat) (b c : List Nat), j < i → B[i]? = some b → B[j]? = some c → mt b c = 1) ∧ (∀ x y, y < x → x < v → nb B [y, x] = 1) ∧ 4 ≤ v ∧ ∃ s, Rs v 0 s ∧ s.length = 4 ∧ liB B s = false
def inc (B : List (List Nat)) (x i : Nat) : Bool := (B.getD i []).contains x
theorem inc_at {B : List (List Nat)} {i : Nat} {b : List Nat} (h : B[i]? = some b) (x : Nat) : inc B x i = b.contains x := by
  unfold inc
  rw [List.getD_eq_getElem?_getD, h]; rfl
theorem at_lt {B : List (List Nat)} {i : Nat} {b : List Nat} (h : B[i]? = some b) : i < B.length := (List.getElem?_eq_some_iff.1 h).1
theorem at_of {B : List (List Nat)} {i : Nat} (h : i < B.length) : ∃ b, B[i]? = some b := ⟨_, List.getElem?_eq_getElem h⟩
theorem cnt_one {α : Type} {p : α → Bool} : ∀ {B : List α}, B.countP p = 1 → ∃ (i : Nat) (a : α), B[i]? = some a ∧ p a = true ∧ ∀ (j : Nat) (c : α), B[j]? = some c → p c = true → j = i
  | [], h => by simp at h
  | b :: B, h => by
    rw [List.countP_cons] at h
    by_cases e : p b = true
    · rw [if_pos e] at h
      have h0 : B.countP p = 0 := by omega
      rw [List.countP_eq_zero] at h0
      refine ⟨0, b, rfl, e, fun j c hj hc => ?_⟩
      cases j with
      | zero => rfl
      | succ j => exact absurd hc (h0 c (List.mem_of_getElem? (by simpa using hj)))
    · rw [if_neg e] at h
      obtain ⟨i, a, h1, h2, h3⟩ := cnt_one (show B.countP p = 1 by omega)
      refine ⟨i + 1, a, by simpa using h1, h2, fun j c hj hc => ?_⟩
      cases j with
      | zero =>
        have : b = c := by simpa using hj
        subst this; exact absurd hc e
      | succ j =>
        have := h3 j c (by simpa using hj) hc
        omega
theorem nb_uni {B : List (List Nat)} {x y : Nat} (h : nb B [x, y] = 1) : ∃ (i : Nat) (b : List Nat), B[i]? = some b ∧ x ∈ b ∧ y ∈ b ∧ ∀ (j : Nat) (c : List Nat), B[j]? = some c → x ∈ c → y ∈ c → j = i := by
  obtain ⟨i, b, h1, h2, h3⟩ := cnt_one h
  refine ⟨i, b, h1, ?_, ?_, fun j c hj hx hy => h3 j c hj ?_⟩
  · have := List.all_eq_true.1 h2 x (by simp); simpa using this
  · have := List.all_eq_true.1 h2 y (by simp); simpa using this
  · simp [hx, hy]
theorem PlP.pair {v : Nat} {B : List (List Nat)} (h : PlP v B) {x y : Nat} (hx : x < v) (hy : y < v) (hn : x ≠ y) : nb B [x, y] = 1 := by
  rcases Nat.lt_or_gt_of_ne hn with k | k
  · exact h.2.1 y x k hy
  · rw [nb_perm B (List.Perm.swap y x [])]; exact h.2.1 x y k hx
theorem ap3_of_li {B : List (List Nat)} {s : List Nat} (h : liB B s = false) {x y z : Nat} (hx : x ∈ s) (hy : y ∈ s) (hz : z ∈ s) (xy : x ≠ y) (xz : x ≠ z) (yz : y ≠ z) : Ap3 B.length (inc B) x y z := fun i hi p q r => by
  obtain ⟨b, hb⟩ := at_of hi
  rw [inc_at hb] at p q r
  have h1 := liB_false h (List.mem_of_getElem? hb)
  have h2 := three_in (fun t => b.contains t) hx hy hz xy xz yz p q r
  unfold mt at h1
  omega
theorem PlP.pln {v : Nat} {B : List (List Nat)} (hB : Bls v B) (h : PlP v B) : Pln v B.length (inc B) where
  join := fun x y hx hy hn => by
    obtain ⟨i, b, h1, h2, h3, _⟩ := nb_uni (h.pair hx hy hn)
    exact ⟨i, at_lt h1, by rw [inc_at h1]; simpa using h2, by rw [inc_at h1]; simpa using h3⟩
  juni := fun x y i j hx hy hn hi hj a b c d => by
    obtain ⟨k, _, _, _, _, h4⟩ := nb_uni (h.pair hx hy hn)
    obtain ⟨bi, hbi⟩ := at_of hi
    obtain ⟨bj, hbj⟩ := at_of hj
    rw [inc_at hbi] at a b
    rw [inc_at hbj] at c d
    exact (h4 i bi hbi (by simpa using a) (by simpa using b)).trans (h4 j bj hbj (by simpa using c) (by simpa using d)).symm
  meet := fun i j hi hj hn => by
    have key : ∀ {i j : Nat}, j < i → i < B.length → ∃ x, x < v ∧ inc B x i = true ∧ inc B x j = true := fun {i j} hji hi => by
      obtain ⟨bi, hbi⟩ := at_of hi
      obtain ⟨bj, hbj⟩ := at_of (Nat.lt_trans hji hi)
      have h1 := h.1 i j bi bj hji hbi hbj
      unfold mt at h1
      obtain ⟨x, hx, hc⟩ := List.countP_pos_iff.1 (show 0 < bi.countP (fun x => bj.contains x) by omega)
      exact ⟨x, (hB bi (List.mem_of_getElem? hbi)).lt x hx, by rw [inc_at hbi]; simpa using hx, by rw [inc_at hbj]; exact hc⟩
    rcases Nat.lt_or_gt_of_ne hn with k | k
    · obtain ⟨x, a, b, c⟩ := key k hj
      exact ⟨x, a, c, b⟩
    · exact key k hi
  four := by
    obtain ⟨_, _, _, s, h1, h2, h3⟩ := h
    obtain ⟨hr, hl⟩ := rs_iff.1 h1
    match s, h2 with
    | [a, b, c, d], _ =>
      simp only [List.pairwise_cons, List.mem_cons, List.not_mem_nil, or_false, forall_eq_or_imp, forall_eq, false_implies, implies_true, List.Pairwise.nil, and_true] at hr
      have la := (hl a (by simp)).2
      have lb := (hl b (by simp)).2
      have lc := (hl c (by simp)).2
      have ld := (hl d (by simp)).2
      exact ⟨a, b, c, d, la, lb, lc, ld, by omega, by omega, by omega, by omega, by omega, by omega,
        ap3_of_li h3 (by simp) (by simp) (by simp) (by omega) (by omega) (by omega), ap3_of_li h3 (by simp) (by simp) (by simp) (by omega) (by omega) (by omega),
        ap3_of_li h3 (by simp) (by simp) (by simp) (by omega) (by omega) (by omega), ap3_of_li h3 (by simp) (by simp) (by simp) (by omega) (by omega) (by omega)⟩
theorem sz_len {v : Nat} {B : List (List Nat)} (hB : Bls v B) {i : Nat} {b : List Nat} (hb : B[i]? = some b) : szP v (inc B) i = b.length := by
  unfold szP
  rw [← (hB b (List.mem_of_getElem? hb)).count, List.countP_eq_length_filter]
  congr 1
  exact List.filter_congr fun x _ => inc_at hb x
/-- What the program asks of a plane. -/
structure PrP (v : Nat) (B : List (List Nat)) (k : Nat) : Prop where
  size : ∀ b ∈ B, b.length = k
  big : 3 ≤ k
  two : Lev v B 2 1
  more : ∃ i, 0 < i ∧ i < B.length
  meet : ∀ (i j : Nat) (b c : List Nat), j < i → B[i]? = some b → B[j]? = some c → mt b c = 1
theorem PlP.prp {v : Nat} {B : List (List Nat)} (hB : Bls v B) (h : PlP v B) : ∃ k, PrP v B k := by
  have H := h.pln hB
  obtain ⟨i, hi⟩ := H.line
  obtain ⟨b, hb⟩ := at_of hi
  refine ⟨b.length, fun c hc => ?_, ?_, fun s hs hl => ?_, ?_, h.1⟩
  · obtain ⟨j, hj⟩ := List.getElem?_of_mem hc
    rw [← sz_len hB hj, ← sz_len hB hb]
    exact H.sz_eq (at_lt hj) hi
  · rw [← sz_len hB hb]; exact H.three hi
  · match s, hl with
    | [x, y], _ =>
      have hn : x ≠ y := by
        have := hs.nd
        simp only [List.nodup_cons, List.mem_singleton] at this
        exact this.1
      exact h.pair (hs.lt x (by simp)) (hs.lt y (by simp)) hn
  · obtain ⟨x, y, z, u, f⟩ := H.four
    obtain ⟨i, hi, a, b⟩ := H.join x y f.vx f.vy f.xy
    obtain ⟨j, hj, c, d⟩ := H.join x z f.vx f.vz f.xz
    have hij : i ≠ j := fun e => f.n1 i hi a b (by rw [e]; exact d)
    rcases Nat.lt_or_gt_of_ne hij with k | k
    · exact ⟨j, by omega, hj⟩
    · exact ⟨i, by omega, hi⟩
theorem mt_sym {v : Nat} {b c : List Nat} (hb : Pts v b) (hc : Pts v c) : mt b c = mt c b := by
  have key : ∀ {b c : List Nat}, Pts v b → mt b c = (List.range v).countP fun x => b.contains x && c.contains x := fun {b c} hb => by
    unfold mt
    rw [← hb.filter.countP_eq, List.countP_filter]
    exact List.countP_congr fun x _ => by rw [Bool.and_comm]
  rw [key hb, key hc]
  exact List.countP_congr fun x _ => by rw [Bool.and_comm]
theorem two_off {v : Nat} {b c : List Nat} (hb : Pts v b) (h3 : 3 ≤ b.length) (h1 : mt b c = 1) : ∃ x y, x ∈ b ∧ y ∈ b ∧ x ≠ y ∧ x ∉ c ∧ y ∉ c := by
  have hl : (b.filter fun x => !c.contains x).length + mt b c = b.length := by
    unfold mt
    rw [← List.countP_eq_length_filter]
    have := List.length_eq_countP_add_countP (fun x => c.contains x) (l := b)
    have e : b.countP (fun a => decide ¬ c.contains a = true) = b.countP fun x => !c.contains x := List.countP_congr fun x _ => by cases c.contains x <;> simp
    omega
  have nd : (b.filter fun x => !c.contains x).Nodup := hb.nd.filter _
  match h : b.filter fun x => !c.contains x with
  | [] => rw [h] at hl; simp at hl; omega
  | [x] => rw [h] at hl; simp at hl; omega
  | x :: y :: l =>
    rw [h] at nd
    have hx : x ∈ b.filter fun x => !c.contains x := by rw [h]; simp
    have hy : y ∈ b.filter fun x => !c.contains x := by rw [h]; simp
    obtain ⟨a1, a2⟩ := List.mem_filter.1 hx
    obtain ⟨c1, c2⟩ := List.mem_filter.1 hy
    refine ⟨x, y, a1, c1, fun e => ?_, by simpa using a2, by simpa using c2⟩
    subst e
    simp at nd
theorem PrP.plp {v k : Nat} {B : List (List Nat)} (hB : Bls v B) (h : PrP v B k) : PlP v B := by
  obtain ⟨i, h0, hi⟩ := h.more
  obtain ⟨b, hb⟩ := at_of hi
  obtain ⟨c, hc⟩ := at_of (show 0 < B.length by omega)
  have hbp := hB b (List.mem_of_getElem? hb)
  have hcp := hB c (List.mem_of_getElem? hc)
  have m1 := h.meet i 0 b c h0 hb hc
  obtain ⟨x, y, xb, yb, xy, xc, yc⟩ := two_off hbp (by rw [h.size b (List.mem_of_getElem? hb)]; exact h.big) m1
  obtain ⟨z, u, zc, uc, zu, zb, ub⟩ := two_off hcp (by rw [h.size c (List.mem_of_getElem? hc)]; exact h.big) ((mt_sym hcp hbp).trans m1)
  have pr : ∀ x y, x < v → y < v → x ≠ y → nb B [x, y] = 1 := fun x y hx hy hn => h.two [x, y] ⟨by simp [hn], fun z hz => by
    rcases List.mem_cons.1 hz with rfl | hz
    · exact hx
    · rw [List.mem_singleton.1 hz]; exact hy⟩ rfl
  have nd : Pts v [x, y, z, u] := by
    refine ⟨?_, fun t ht => ?_⟩
    · have e1 : x ≠ z := fun e => zb (e ▸ xb)
      have e2 : x ≠ u := fun e => ub (e ▸ xb)
      have e3 : y ≠ z := fun e => zb (e ▸ yb)
      have e4 : y ≠ u := fun e => ub (e ▸ yb)
      simp [xy, e1, e2, e3, e4, zu]
    · simp only [List.mem_cons, List.not_mem_nil, or_false] at ht
      rcases ht with rfl | rfl | rfl | rfl
      · exact hbp.lt _ xb
      · exact hbp.lt _ yb
      · exact hcp.lt _ zc
      · exact hcp.lt _ uc
  have h4 := nd.le
  refine ⟨h.meet, fun p q hq hp => pr q p (by omega) hp (by omega), h4, (List.range v).filter fun t => [x, y, z, u].contains t, rs_iff.2 ⟨List.pairwise_lt_range.filter _, fun t ht => ⟨Nat.zero_le _, List.mem_range.1 (List.mem_filter.1 ht).1⟩⟩, ?_, ?_⟩
  · rw [nd.filter.length_eq]; rfl
  · refine liB_no fun j d hd => ?_
    have e : mt ((List.range v).filter fun t => [x, y, z, u].contains t) d = mt [x, y, z, u] d := nd.filter.countP_eq _
    rw [e]
    obtain ⟨i1, _, _, _, _, u1⟩ := nb_uni (pr x y (hbp.lt _ xb) (hbp.lt _ yb) xy)
    obtain ⟨i2, _, _, _, _, u2⟩ := nb_uni (pr z u (hcp.lt _ zc) (hcp.lt _ uc) zu)
    have k1 : x ∈ d → y ∈ d → d = b := fun hx hy => by
      have := (u1 j d hd hx hy).trans (u1 i b hb xb yb).symm
      subst this
      rw [hd] at hb; exact Option.some.inj hb
    have k2 : z ∈ d → u ∈ d → d = c := fun hx hy => by
      have := (u2 j d hd hx hy).trans (u2 0 c hc zc uc).symm
      subst this
      rw [hd] at hc; exact Option.some.inj hc
    unfold mt
    simp only [List.countP_cons, List.countP_nil]
    by_cases q1 : x ∈ d <;> by_cases q2 : y ∈ d
    · obtain rfl := k1 q1 q2
      simp [zb, ub, q1, q2]
    · by_cases q3 : z ∈ d <;> by_cases q4 : u ∈ d
      · obtain rfl := k2 q3 q4
        exact absurd q1 xc
      · simp [q1, q2, q3, q4]
      · simp [q1, q2, q3, q4]
      · simp [q1, q2, q3, q4]
    · by_cases q3 : z ∈ d <;> by_cases q4 : u ∈ d
      · obtain rfl := k2 q3 q4
        exact absurd q2 yc
      · simp [q1, q2, q3, q4]
      · simp [q1, q2, q3, q4]
      · simp [q1, q2, q3, q4]
    · by_cases q3 : z ∈ d <;> by_cases q4 : u ∈ d
      · simp [q1, q2, q3, q4]
      · simp [q1, q2, q3, q4]
      · simp [q1, q2, q3, q4]
      · simp [q1, q2, q3, q4]

end Go.Proofs.YtgpkhfpejopacabDoor
