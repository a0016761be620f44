/- The dual, derived and residual designs; nothing of the program. -/
import Derived.Test.YtlmjlffipinjiabDoorDFish
namespace Go.Proofs.YtlmjlffipinjiabDoor

theorem getD_mem' {l : List Nat} {x : Nat} (hx : x < l.length) : l.getD x 0 ∈ l := by
  rw [List.getD_eq_getElem?_getD, List.getElem?_eq_getElem hx]
  exact List.getElem_mem hx
theorem getD_inj' {l : List Nat} {x y : Nat} (nd : l.Nodup) (hx : x < l.length) (hy : y < l.length) (e : l.getD x 0 = l.getD y 0) : x = y := by
  rw [List.getD_eq_getElem?_getD, List.getElem?_eq_getElem hx, List.getD_eq_getElem?_getD, List.getElem?_eq_getElem hy] at e
  exact (List.getElem_inj nd).1 e
theorem countP_pts {v : Nat} {b : List Nat} (h : Pts v b) (q : Nat → Bool) : (List.range v).countP (fun x => b.contains x && q x) = b.countP q := by
  rw [← h.filter.countP_eq, List.countP_filter]
  exact List.countP_congr fun x _ => by rw [Bool.and_comm]
/-! ### The dual -/
def dual (v : Nat) (B : List (List Nat)) : List (List Nat) := (List.range v).map fun x => (List.range B.length).filter fun i => (B.getD i []).contains x
theorem dual_len (v : Nat) (B : List (List Nat)) : (dual v B).length = v := by simp [dual]
theorem dual_in {B : List (List Nat)} {i x : Nat} (hi : i < B.length) : ((List.range B.length).filter fun i => (B.getD i []).contains x).contains i = (B.getD i []).contains x := by
  rw [Bool.eq_iff_iff, List.contains_iff_mem, List.mem_filter, List.mem_range]
  exact ⟨fun h => h.2, fun h => ⟨hi, h⟩⟩
theorem dual_bls (v : Nat) (B : List (List Nat)) : Bls B.length (dual v B) := fun b hb => by
  unfold dual at hb
  obtain ⟨x, _, rfl⟩ := List.mem_map.1 hb
  exact ⟨List.nodup_range.filter _, fun i hi => List.mem_range.1 (List.mem_filter.1 hi).1⟩
theorem getD_count (B : List (List Nat)) (p : List Nat → Bool) : (List.range B.length).countP (fun i => p (B.getD i [])) = B.countP p := by
  have e : (List.range B.length).map (fun i => B.getD i []) = B := by
    apply List.ext_getElem
    · simp
    · intro i h1 h2
      simp [h2]
  have h : ((List.range B.length).map fun i => B.getD i []).countP p = B.countP p := by rw [e]
  rw [List.countP_map] at h
  exact h
theorem dual_size {v r : Nat} {B : List (List Nat)} (h1 : Lev v B 1 r) : ∀ b ∈ dual v B, b.length = r := fun b hb => by
  unfold dual at hb
  obtain ⟨x, hx, rfl⟩ := List.mem_map.1 hb
  rw [← List.countP_eq_length_filter, getD_count B fun b => b.contains x]
  have h := h1 [x] ((Pts.nil v).cons (List.mem_range.1 hx) (by simp)) rfl
  rw [← h]
  unfold nb
  congr 1
  funext b
  simp
theorem dual_two {v : Nat} {B : List (List Nat)} (hB : Bls v B) {i j : Nat} (hi : i < B.length) (hj : j < B.length) : nb (dual v B) [i, j] = mt (B.getD i []) (B.getD j []) := by
  have hm : B.getD i [] ∈ B := by
    rw [List.getD_eq_getElem?_getD, List.getElem?_eq_getElem hi]
    exact List.getElem_mem hi
  unfold nb dual mt
  rw [List.countP_map, ← countP_pts (hB _ hm)]
  refine List.countP_congr fun x _ => ?_
  show (List.all [i, j] fun y => ((List.range B.length).filter fun i => (B.getD i []).contains x).contains y) = true ↔ _
  rw [List.all_cons, List.all_cons, List.all_nil, dual_in hi, dual_in hj, Bool.and_true]
theorem split_at {B : List (List Nat)} {i : Nat} (hi : i < B.length) : B = B.take i ++ B.getD i [] :: B.drop (i + 1) := by
  have h := (List.take_append_drop i B).symm
  rw [List.drop_eq_getElem_cons hi] at h
  have e : B.getD i [] = B[i] := by rw [List.getD_eq_getElem?_getD, List.getElem?_eq_getElem hi]; rfl
  rw [e]
  exact h
theorem mem_other {B : List (List Nat)} {i j : Nat} (hi : i < B.length) (hj : j < B.length) (h : i ≠ j) : B.getD j [] ∈ B.take i ++ B.drop (i + 1) := by
  have e : B.getD j [] = B[j] := by rw [List.getD_eq_getElem?_getD, List.getElem?_eq_getElem hj]; rfl
  rw [e, List.mem_append]
  rcases Nat.lt_or_gt_of_ne h with h | h
  · right
    rw [List.mem_iff_getElem]
    refine ⟨j - (i + 1), by rw [List.length_drop]; omega, ?_⟩
    rw [List.getElem_drop]
    congr 1
    omega
  · left
    rw [List.mem_iff_getElem]
    exact ⟨j, by rw [List.length_take]; omega, by rw [List.getElem_take]⟩
/-- Of a symmetric design each two blocks meet in l points. -/
theorem ryser_at {v k r l : Nat} {B : List (List Nat)} (T : Two v k r l B) (hk : 2 ≤ k) (hv : k < v) (hb : B.length = v) {i j : Nat} (hi : i < B.length) (hj : j < B.length) (h : i ≠ j) : mt (B.getD i []) (B.getD j []) = l :=
  (ryser T hk hv hb (split_at hi)).2 _ (mem_other hi hj h)
theorem dual_lev {v k r l : Nat} {B : List (List Nat)} (T : Two v k r l B) (hk : 2 ≤ k) (hv : k < v) (hb : B.length = v) : r = k ∧ Lev B.length (dual v B) 2 l := by
  refine ⟨(ryser T hk hv hb (split_at (i := 0) (by omega))).1, fun s hs hl => ?_⟩
  match s, hl, hs with
  | [i, j], _, hs =>
    have nd := List.nodup_cons.1 hs.nd
    have hi := hs.lt i (by simp)
    have hj := hs.lt j (by simp)
    rw [dual_two T.bl hi hj]
    exact ryser_at T hk hv hb hi hj fun e => nd.1 (by rw [e]; simp)

/-! ### By a point -/
def sk (p x : Nat) : Nat := if x < p then x else x + 1
theorem sk_inj {p x y : Nat} (h : sk p x = sk p y) : x = y := by
  unfold sk at h
  split at h <;> split at h <;> omega
theorem sk_ne (p x : Nat) : sk p x ≠ p := by
  unfold sk
  split <;> omega
theorem sk_lt {p x v : Nat} (hx : x < v - 1) : sk p x < v := by
  unfold sk
  split <;> omega
theorem sk_perm {p v : Nat} (hp : p < v) : (p :: (List.range (v - 1)).map (sk p)).Perm (List.range v) := by
  have nd : (p :: (List.range (v - 1)).map (sk p)).Nodup := by
    refine List.nodup_cons.2 ⟨fun h => ?_, ?_⟩
    · obtain ⟨x, _, e⟩ := List.mem_map.1 h
      exact sk_ne p x e
    · rw [List.nodup_iff_pairwise_ne, List.pairwise_map]
      exact List.nodup_range.imp fun h e => h (sk_inj e)
  rw [List.perm_ext_iff_of_nodup nd List.nodup_range]
  intro x
  rw [List.mem_cons, List.mem_map, List.mem_range]
  constructor
  · rintro (rfl | ⟨y, hy, rfl⟩)
    · exact hp
    · exact sk_lt (List.mem_range.1 hy)
  · intro hx
    by_cases e : x = p
    · exact .inl e
    · right
      by_cases h : x < p
      · exact ⟨x, List.mem_range.2 (by omega), by unfold sk; rw [if_pos h]⟩
      · exact ⟨x - 1, List.mem_range.2 (by omega), by unfold sk; rw [if_neg (by omega)]; omega⟩
def deriv (v p : Nat) (B : List (List Nat)) : List (List Nat) := (B.filter fun b => b.contains p).map fun b => (List.range (v - 1)).filter fun x => b.contains (sk p x)
theorem deriv_bls (v p : Nat) (B : List (List Nat)) : Bls (v - 1) (deriv v p B) := fun b hb => by
  obtain ⟨c, _, rfl⟩ := List.mem_map.1 hb
  exact ⟨List.nodup_range.filter _, fun i hi => List.mem_range.1 (List.mem_filter.1 hi).1⟩
theorem deriv_size {v k p : Nat} {B : List (List Nat)} (hB : Bls v B) (hk : ∀ b ∈ B, b.length = k) (hp : p < v) : ∀ b ∈ deriv v p B, b.length = k - 1 := fun b hb => by
  obtain ⟨c, hc, rfl⟩ := List.mem_map.1 hb
  obtain ⟨hc, hcp⟩ := List.mem_filter.1 hc
  have h := (hB c hc).count
  rw [hk c hc, ← (sk_perm hp).countP_eq, List.countP_cons, hcp, if_pos rfl, List.countP_map] at h
  rw [← List.countP_eq_length_filter, ← h]
  show _ = (List.range (v - 1)).countP (fun x => c.contains (sk p x)) + 1 - 1
  omega
theorem deriv_nb {v p x : Nat} {B : List (List Nat)} (hx : x < v - 1) : nb (deriv v p B) [x] = nb B [p, sk p x] := by
  unfold nb deriv
  rw [List.countP_map, List.countP_filter]
  refine List.countP_congr fun b _ => ?_
  show ((List.all [x] fun y => ((List.range (v - 1)).filter fun x => b.contains (sk p x)).contains y) && b.contains p) = true ↔ _
  have e : ((List.range (v - 1)).filter fun x => b.contains (sk p x)).contains x = b.contains (sk p x) := by
    rw [Bool.eq_iff_iff, List.contains_iff_mem, List.mem_filter, List.mem_range]
    exact ⟨fun h => h.2, fun h => ⟨hx, h⟩⟩
  rw [List.all_cons, List.all_nil, e, List.all_cons, List.all_cons, List.all_nil, Bool.and_true, Bool.and_comm]
theorem deriv_lev {v p l : Nat} {B : List (List Nat)} (hp : p < v) (h2 : Lev v B 2 l) : Lev (v - 1) (deriv v p B) 1 l := fun s hs hl => by
  match s, hl, hs with
  | [x], _, hs =>
    have hx := hs.lt x (by simp)
    rw [deriv_nb hx]
    exact h2 _ (((Pts.nil v).cons (sk_lt hx) (by simp)).cons hp (by simp [Ne.symm (sk_ne p x)])) rfl

/-! ### By a block -/
def resid (v i : Nat) (B : List (List Nat)) : List (List Nat) := (B.take i ++ B.drop (i + 1)).map fun b => (List.range (oth v (B.getD i [])).length).filter fun x => b.contains ((oth v (B.getD i [])).getD x 0)
theorem resid_bls (v i : Nat) (B : List (List Nat)) : Bls (oth v (B.getD i [])).length (resid v i B) := fun b hb => by
  obtain ⟨c, _, rfl⟩ := List.mem_map.1 hb
  exact ⟨List.nodup_range.filter _, fun i hi => List.mem_range.1 (List.mem_filter.1 hi).1⟩
theorem list_count (l : List Nat) (p : Nat → Bool) : (List.range l.length).countP (fun x => p (l.getD x 0)) = l.countP p := by
  have e : (List.range l.length).map (fun i => l.getD i 0) = l := by
    apply List.ext_getElem
    · simp
    · intro i h1 h2
      simp [h2]
  have h : ((List.range l.length).map fun i => l.getD i 0).countP p = l.countP p := by rw [e]
  rw [List.countP_map] at h
  exact h
theorem oth_count {v : Nat} {a b : List Nat} (hb : Pts v b) : (oth v a).countP (fun x => b.contains x) + mt b a = b.length := by
  unfold oth mt
  rw [List.countP_filter, countP_pts hb fun x => !a.contains x]
  have := List.length_eq_countP_add_countP (p := fun x => a.contains x) (l := b)
  have e : b.countP (fun x => !a.contains x) = b.countP fun x => decide ¬a.contains x = true := List.countP_congr fun x _ => by simp
  rw [e]; omega
theorem resid_size {v k r l : Nat} {B : List (List Nat)} (T : Two v k r l B) (hk : 2 ≤ k) (hv : k < v) (hb : B.length = v) {i : Nat} (hi : i < B.length) : ∀ b ∈ resid v i B, b.length = k - l := fun b hbm => by
  obtain ⟨c, hc, rfl⟩ := List.mem_map.1 hbm
  have hcB : c ∈ B := by
    rcases List.mem_append.1 hc with h | h
    · exact List.mem_of_mem_take h
    · exact List.mem_of_mem_drop h
  have h1 := (ryser T hk hv hb (split_at hi)).2 c hc
  have hm : B.getD i [] ∈ B := by
    rw [List.getD_eq_getElem?_getD, List.getElem?_eq_getElem hi]
    exact List.getElem_mem hi
  have h2 := oth_count (a := B.getD i []) (T.bl c hcB)
  have h3 : mt c (B.getD i []) = mt (B.getD i []) c := by
    unfold mt
    rw [← countP_pts (T.bl c hcB), ← countP_pts (T.bl _ hm)]
    exact List.countP_congr fun x _ => by rw [Bool.and_comm]
  rw [← List.countP_eq_length_filter, list_count _ fun x => c.contains x]
  rw [T.sz c hcB] at h2
  omega
theorem resid_lev {v l : Nat} {B : List (List Nat)} (h2 : Lev v B 2 l) {i : Nat} (hi : i < B.length) : Lev (oth v (B.getD i [])).length (resid v i B) 2 l := fun s hs hl => by
  match s, hl, hs with
  | [x, y], _, hs =>
    have nd := List.nodup_cons.1 hs.nd
    have hx := hs.lt x (by simp)
    have hy := hs.lt y (by simp)
    have hxy : x ≠ y := fun e => nd.1 (by rw [e]; simp)
    have ox := oth_pts v (B.getD i [])
    have inj : (oth v (B.getD i [])).getD x 0 ≠ (oth v (B.getD i [])).getD y 0 := fun e => hxy (getD_inj' ox.nd hx hy e)
    have mx := getD_mem' hx
    have my := getD_mem' hy
    generalize hpx : (oth v (B.getD i [])).getD x 0 = p at *
    generalize hpy : (oth v (B.getD i [])).getD y 0 = q at *
    rw [← h2 [p, q] (((Pts.nil v).cons (oth_mem.1 my).1 (by simp)).cons (oth_mem.1 mx).1 (by simp [inj])) rfl]
    have e0 : nb B [p, q] = nb (B.take i ++ B.drop (i + 1)) [p, q] := by
      have hs := split_at hi
      have e1 : nb B [p, q] = nb (B.take i ++ B.getD i [] :: B.drop (i + 1)) [p, q] := by rw [← hs]
      rw [e1]
      unfold nb
      rw [List.countP_append, List.countP_append, List.countP_cons, if_neg]
      · omega
      · intro h
        rw [List.all_cons, Bool.and_eq_true] at h
        exact (oth_mem.1 mx).2 (List.contains_iff_mem.1 h.1)
    rw [e0]
    unfold nb resid
    rw [List.countP_map]
    refine List.countP_congr fun b _ => ?_
    show (List.all [x, y] fun z => ((List.range (oth v (B.getD i [])).length).filter fun x => b.contains ((oth v (B.getD i [])).getD x 0)).contains z) = true ↔ _
    have e : ∀ z, z < (oth v (B.getD i [])).length → ((List.range (oth v (B.getD i [])).length).filter fun x => b.contains ((oth v (B.getD i [])).getD x 0)).contains z = b.contains ((oth v (B.getD i [])).getD z 0) := fun z hz => by
      rw [Bool.eq_iff_iff, List.contains_iff_mem, List.mem_filter, List.mem_range]
      exact ⟨fun h => h.2, fun h => ⟨hz, h⟩⟩
    rw [List.all_cons, List.all_cons, List.all_nil, e x hx, e y hy, hpx, hpy, List.all_cons, List.all_cons, List.all_nil]
end Go.Proofs.YtlmjlffipinjiabDoor
