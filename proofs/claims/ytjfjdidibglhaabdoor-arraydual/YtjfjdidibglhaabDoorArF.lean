/- What is wrong with runs. Nothing of the program. -/
import Derived.Test.YtjfjdidibglhaabDoorArP
/- Runs without a column, and those of a level. Nothing of the program. -/
namespace Go.Proofs.YtjfjdidibglhaabDoor

/-- Columns beside one. -/
def skp (col c : Nat) : Nat := if c < col then c else c + 1
theorem skp_inj {col a b : Nat} (h : skp col a = skp col b) : a = b := by
  unfold skp at h
  split at h <;> split at h <;> omega
theorem skp_ne (col c : Nat) : skp col c ≠ col := by
  unfold skp
  split <;> omega
theorem skp_lt {col c k : Nat} (h : c < k) : skp col c < k + 1 := by
  unfold skp
  split <;> omega
theorem skp_pts {col k : Nat} {cs : List Nat} (h : Pts k cs) : Pts (k + 1) (cs.map (skp col)) :=
  ⟨by
    unfold List.Nodup
    rw [List.pairwise_map]
    exact h.nd.imp fun hne e => hne (skp_inj e), fun x hx => by
    obtain ⟨c, hc, rfl⟩ := List.mem_map.1 hx
    exact skp_lt (h.lt c hc)⟩
def drp (col : Nat) (x : Nat → Nat) : Nat → Nat := fun c => x (skp col c)
theorem mtc_drp (col : Nat) (cs : List Nat) (v x : Nat → Nat) : mtc cs (drp col v) (drp col x) = mtc (cs.map (skp col)) v x := by
  unfold mtc drp
  rw [List.all_map]
  rfl
theorem hit_drp (col : Nat) (R : List (Nat → Nat)) (cs : List Nat) (v : Nat → Nat) : hit (R.map (drp col)) cs (drp col v) = hit R (cs.map (skp col)) v := by
  unfold hit
  rw [List.countP_map]
  exact List.countP_congr fun x _ => by
    show mtc cs (drp col v) (drp col x) = true ↔ _
    rw [mtc_drp]
theorem str_drop {s k t col : Nat} {R : List (Nat → Nat)} (h : Str s (k + 1) R t) : Str s k (R.map (drp col)) t := fun cs hc hl x hx => by
  obtain ⟨y, hy, rfl⟩ := List.mem_map.1 hx
  rw [hit_drp, List.length_map]
  have := h (cs.map (skp col)) (skp_pts hc) (by rw [List.length_map, hl]) y hy
  rw [List.length_map] at this
  exact this
theorem lvl_drop {s k col : Nat} {R : List (Nat → Nat)} (h : Lvl s (k + 1) R) : Lvl s k (R.map (drp col)) := fun x hx c hc => by
  obtain ⟨y, hy, rfl⟩ := List.mem_map.1 hx
  exact h y hy _ (skp_lt hc)
/-- Those of a level. -/
def tkn (col lev : Nat) (R : List (Nat → Nat)) : List (Nat → Nat) := (R.filter fun x => x col == lev).map (drp col)
theorem tkn_len {s k t col lev : Nat} {R : List (Nat → Nat)} (h : Str s (k + 1) R (t + 1)) (ht : t ≤ k) (hs : 0 < s) (hr : Lvl s (k + 1) R) (hc : col < k + 1) (hl : lev < s) : (tkn col lev R).length * s = R.length := by
  have h1 := Str.low hs hr (by omega) h 1 (by omega)
  have h2 := h1.all hs hr (cs := [col]) ((Pts.nil _).cons hc (by simp)) rfl (v := fun _ => lev) fun _ _ => hl
  rw [Nat.pow_one] at h2
  rw [← h2]
  congr 1
  unfold tkn hit
  rw [List.length_map, List.countP_eq_length_filter]
  congr 1
  exact List.filter_congr fun x _ => by simp [mtc]
theorem str_take {s k t col lev : Nat} {R : List (Nat → Nat)} (h : Str s (k + 1) R (t + 1)) (ht : t ≤ k) (hs : 0 < s) (hr : Lvl s (k + 1) R) (hc : col < k + 1) (hl : lev < s) : Str s k (tkn col lev R) t := fun cs hcs hlen x hx => by
  obtain ⟨y, hy, rfl⟩ := List.mem_map.1 hx
  obtain ⟨hy1, hy2⟩ := List.mem_filter.1 hy
  have hyc : y col = lev := by simpa using hy2
  have hn : col ∉ cs.map (skp col) := fun hm => by
    obtain ⟨c, _, e⟩ := List.mem_map.1 hm
    exact skp_ne col c e
  have e1 : hit (tkn col lev R) cs (drp col y) = hit R (col :: cs.map (skp col)) y := by
    show hit ((R.filter fun x => x col == lev).map (drp col)) cs (drp col y) = _
    rw [hit_drp, ← hit_cons hn]
    exact hit_congr (fun _ => Iff.rfl) fun d _ => by
      unfold upF
      split
      · rename_i e; rw [e, hyc]
      · rfl
  have e2 := h (col :: cs.map (skp col)) ((skp_pts hcs).cons hc hn) (by rw [List.length_cons, List.length_map, hlen]) y hy1
  rw [List.length_cons, List.length_map, Nat.pow_succ, ← tkn_len h ht hs hr hc hl, ← Nat.mul_assoc] at e2
  rw [e1]
  exact Nat.eq_of_mul_eq_mul_right hs e2
theorem lvl_take {s k col lev : Nat} {R : List (Nat → Nat)} (h : Lvl s (k + 1) R) : Lvl s k (tkn col lev R) := fun x hx c hc => by
  obtain ⟨y, hy, rfl⟩ := List.mem_map.1 hx
  exact h y (List.mem_filter.1 hy).1 _ (skp_lt hc)
/-- Without a column the strength is no less, of fewer columns. -/
theorem drop_ge {s k t u col : Nat} {R : List (Nat → Nat)} (hs : 0 < s) (hr : Lvl s (k + 1) R) (h : StrIs s (k + 1) R t) (g : StrIs s k (R.map (drp col)) u) : t ≤ u ∨ k ≤ u := by
  by_cases e : t ≤ k
  · exact .inl (g.ge hs (lvl_drop hr) e (str_drop (h.is t (Nat.le_refl _))))
  · exact .inr (g.ge hs (lvl_drop hr) (Nat.le_refl _) (str_drop (h.is k (by omega))))
theorem take_ge {s k t u col lev : Nat} {R : List (Nat → Nat)} (hs : 0 < s) (hr : Lvl s (k + 1) R) (hc : col < k + 1) (hl : lev < s) (h : StrIs s (k + 1) R t) (g : StrIs s k (tkn col lev R) u) : t ≤ u + 1 := by
  rcases Nat.eq_zero_or_pos t with e | e
  · omega
  · obtain ⟨m, rfl⟩ : ∃ m, t = m + 1 := ⟨t - 1, by omega⟩
    have := h.le
    exact Nat.succ_le_succ (g.ge hs (lvl_take hr) (by omega) (str_take (h.is _ (Nat.le_refl _)) (by omega) hs hr hc hl))
/-- Of a strength of 1 or more each level stands somewhere. -/
theorem take_some {s k t col lev : Nat} {R : List (Nat → Nat)} (hs : 0 < s) (hr : Lvl s (k + 1) R) (hc : col < k + 1) (hl : lev < s) (h0 : 0 < R.length) (h : StrIs s (k + 1) R t) (h1 : 1 ≤ t) : 0 < (tkn col lev R).length := by
  have := tkn_len (t := 0) (h.is 1 h1) (by omega) hs hr hc hl
  rcases Nat.eq_zero_or_pos (tkn col lev R).length with e | e
  · rw [e] at this; omega
  · exact e
/-- As many runs as choices: each choice stands there once just if no two runs have the same. -/
theorem strC_once {s N : Nat} {cs : List Nat} {f : Nat → Nat → Nat} (hN : N = s ^ cs.length) : StrC s ((List.range N).map f) cs ↔ ∀ i j, i < N → j < N → (∀ c ∈ cs, f i c = f j c) → i = j := by
  have hh : ∀ i, hit ((List.range N).map f) cs (f i) = (List.range N).countP fun j => mtc cs (f i) (f j) := fun i => by
    unfold hit
    rw [List.countP_map]
    rfl
  constructor
  · intro h i j hi hj e
    have h1 := h (f i) (List.mem_map.2 ⟨i, List.mem_range.2 hi, rfl⟩)
    rw [← hN, List.length_map, List.length_range] at h1
    have h2 : hit ((List.range N).map f) cs (f i) = 1 := Nat.eq_of_mul_eq_mul_right (show 0 < N by omega) (by omega)
    rw [hh i, List.countP_eq_length_filter] at h2
    have mi : i ∈ (List.range N).filter fun j => mtc cs (f i) (f j) := List.mem_filter.2 ⟨List.mem_range.2 hi, mtc_iff.2 fun _ _ => rfl⟩
    have mj : j ∈ (List.range N).filter fun j => mtc cs (f i) (f j) := List.mem_filter.2 ⟨List.mem_range.2 hj, mtc_iff.2 fun c hc => (e c hc).symm⟩
    obtain ⟨a, ha⟩ := List.length_eq_one_iff.1 h2
    rw [ha] at mi mj
    rw [List.mem_singleton.1 mi, List.mem_singleton.1 mj]
  · intro h x hx
    obtain ⟨i, hi, rfl⟩ := List.mem_map.1 hx
    have hi := List.mem_range.1 hi
    have e : hit ((List.range N).map f) cs (f i) = 1 := by
      rw [hh i, ← range_one hi]
      exact List.countP_congr fun j hj => by
        rw [mtc_iff]
        constructor
        · intro k
          simpa using h i j hi (List.mem_range.1 hj) fun c hc => (k c hc).symm
        · intro k
          have : i = j := by simpa using k
          subst this
          exact fun _ _ => rfl
    rw [e, ← hN, List.length_map, List.length_range]
    omega
end Go.Proofs.YtjfjdidibglhaabDoor

namespace Go.Proofs.YtjfjdidibglhaabDoor

def belB (s x : Int) : Bool := decide (0 ≤ x) && decide (x < s)
def levB (s : Int) : Bool := decide (2 ≤ s) && decide (s ≤ 64)
/-- What is wrong with a run. -/
def ruF (s : Int) (k : Nat) (r : List Int) : Nat := if r.length ≠ k then 2 else if r.all (belB s) then 0 else 1
def rsF (s : Int) (k : Nat) : List (List Int) → Nat
  | [] => 0
  | r :: rs => if ruF s k r ≠ 0 then ruF s k r else rsF s k rs
def aF (s : Int) (ls : List (List Int)) : Nat :=
  if levB s = false then 1 else if ls.length = 0 then 2 else if 128 < ls.length then 3 else if (ls.headD []).length = 0 ∨ 8 < (ls.headD []).length then 2 else rsF s (ls.headD []).length ls
theorem belB_iff {s x : Int} : belB s x = true ↔ 0 ≤ x ∧ x < s := by
  unfold belB
  rw [Bool.and_eq_true, decide_eq_true_eq, decide_eq_true_eq]
theorem ruF_len {s : Int} {k : Nat} {r : List Int} (h : r.length ≠ k) : ruF s k r = 2 := by unfold ruF; rw [if_pos h]
theorem ruF_out {s : Int} {k j : Nat} {r : List Int} (hl : r.length = k) (hj : j < k) (h : belB s (r.getD j 0) = false) : ruF s k r = 1 := by
  unfold ruF
  rw [if_neg (by omega), if_neg]
  intro a
  have hm : r.getD j 0 ∈ r := by
    rw [List.getD_eq_getElem?_getD, List.getElem?_eq_getElem (by omega)]
    exact List.getElem_mem _
  rw [List.all_eq_true.1 a _ hm] at h
  cases h
theorem ruF_ok {s : Int} {k : Nat} {r : List Int} (hl : r.length = k) (h : ∀ j, j < k → belB s (r.getD j 0) = true) : ruF s k r = 0 := by
  unfold ruF
  rw [if_neg (by omega), if_pos]
  rw [List.all_eq_true]
  intro x hx
  obtain ⟨j, hj, rfl⟩ := List.getElem_of_mem hx
  have := h j (by omega)
  rwa [List.getD_eq_getElem?_getD, List.getElem?_eq_getElem hj] at this
theorem ruF_is {s : Int} {k : Nat} {r : List Int} (h : ruF s k r = 0) : r.length = k ∧ ∀ j, j < k → belB s (r.getD j 0) = true := by
  unfold ruF at h
  split at h
  · omega
  · rename_i hl
    split at h
    · rename_i ha
      refine ⟨by omega, fun j hj => ?_⟩
      rw [List.getD_eq_getElem?_getD, List.getElem?_eq_getElem (by omega)]
      exact List.all_eq_true.1 ha _ (List.getElem_mem _)
    · omega
theorem rsF_at {s : Int} {k : Nat} : ∀ {ls : List (List Int)} {i : Nat} {b : List Int}, ls[i]? = some b → (∀ m c, m < i → ls[m]? = some c → ruF s k c = 0) → ruF s k b ≠ 0 → rsF s k ls = ruF s k b
  | [], i, b, h, _, _ => by simp at h
  | c :: ls, 0, b, h, _, hn => by
    obtain rfl : c = b := by simpa using h
    unfold rsF
    rw [if_pos hn]
  | c :: ls, i + 1, b, h, hm, hn => by
    have h0 := hm 0 c (by omega) rfl
    unfold rsF
    rw [if_neg (by omega)]
    exact rsF_at (i := i) (by simpa using h) (fun m d hd e => hm (m + 1) d (by omega) (by simpa using e)) hn
theorem rsF_none {s : Int} {k : Nat} : ∀ {ls : List (List Int)}, (∀ (m : Nat) (c : List Int), ls[m]? = some c → ruF s k c = 0) → rsF s k ls = 0
  | [], _ => rfl
  | c :: ls, h => by
    have h0 := h 0 c rfl
    unfold rsF
    rw [if_neg (by omega)]
    exact rsF_none fun m d e => h (m + 1) d (by simpa using e)
theorem rsF_is {s : Int} {k : Nat} : ∀ {ls : List (List Int)}, rsF s k ls = 0 → ∀ l ∈ ls, ruF s k l = 0
  | [], _, l, hl => by simp at hl
  | c :: ls, h, l, hl => by
    unfold rsF at h
    split at h
    · omega
    · rcases List.mem_cons.1 hl with rfl | hl
      · omega
      · exact rsF_is h l hl
/-- Runs that pass. -/
structure GoodA (s k : Nat) (ls : List (List Int)) : Prop where
  s2 : 2 ≤ s
  s64 : s ≤ 64
  n1 : 1 ≤ ls.length
  n128 : ls.length ≤ 128
  k1 : 1 ≤ k
  k8 : k ≤ 8
  len : ∀ l ∈ ls, l.length = k
  bel : ∀ l ∈ ls, ∀ j, j < k → 0 ≤ l.getD j 0 ∧ l.getD j 0 < (s : Int)
theorem GoodA.head {s k : Nat} {ls : List (List Int)} (h : GoodA s k ls) : (ls.headD []).length = k := by
  have := h.n1
  cases ls with
  | nil => simp at this
  | cons l ls => exact h.len l List.mem_cons_self
theorem aF_good {s : Int} {ls : List (List Int)} (h : aF s ls = 0) : ∃ s' k : Nat, s = (s' : Int) ∧ GoodA s' k ls := by
  unfold aF at h
  split at h
  · omega
  · rename_i hs
    split at h
    · omega
    · rename_i h0
      split at h
      · omega
      · rename_i h1
        split at h
        · omega
        · rename_i hk
          have hs' : levB s = true := by simpa using hs
          unfold levB at hs'
          rw [Bool.and_eq_true, decide_eq_true_eq, decide_eq_true_eq] at hs'
          refine ⟨s.toNat, (ls.headD []).length, by omega, by omega, by omega, by omega, by omega, by omega, by omega, fun l hl => (ruF_is (rsF_is h l hl)).1, fun l hl j hj => ?_⟩
          have := belB_iff.1 ((ruF_is (rsF_is h l hl)).2 j hj)
          omega
theorem GoodA.aF {s k : Nat} {ls : List (List Int)} (h : GoodA s k ls) : aF s ls = 0 := by
  have h1 := h.head
  have h2 := h.n1
  have h3 := h.n128
  have h4 := h.k1
  have h5 := h.k8
  have h6 := h.s2
  have h7 := h.s64
  unfold Go.Proofs.YtjfjdidibglhaabDoor.aF
  have hs : levB (s : Int) = true := by
    unfold levB
    rw [Bool.and_eq_true, decide_eq_true_eq, decide_eq_true_eq]
    omega
  rw [hs, if_neg (by simp), if_neg (by omega), if_neg (by omega), if_neg (by omega), h1]
  exact rsF_none fun m c hc => ruF_ok (h.len c (List.mem_of_getElem? hc)) fun j hj => belB_iff.2 (h.bel c (List.mem_of_getElem? hc) j hj)
/-- A list as a run. -/
def fnA (l : List Int) (c : Nat) : Nat := (l.getD c 0).toNat
def rnA (ls : List (List Int)) : List (Nat → Nat) := ls.map fnA
theorem GoodA.lvl {s k : Nat} {ls : List (List Int)} (h : GoodA s k ls) : Lvl s k (rnA ls) := fun x hx c hc => by
  obtain ⟨l, hl, rfl⟩ := List.mem_map.1 hx
  have := h.bel l hl c hc
  unfold fnA
  omega
theorem GoodA.eq {s k : Nat} {ls : List (List Int)} (h : GoodA s k ls) {l m : List Int} (hl : l ∈ ls) (hm : m ∈ ls) {c : Nat} (hc : c < k) : fnA l c = fnA m c ↔ l.getD c 0 = m.getD c 0 := by
  have h1 := h.bel l hl c hc
  have h2 := h.bel m hm c hc
  unfold fnA
  omega
end Go.Proofs.YtjfjdidibglhaabDoor
