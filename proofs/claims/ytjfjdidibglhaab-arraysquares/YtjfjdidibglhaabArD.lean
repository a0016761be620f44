/- Runs without a column, and those of a level. Nothing of the program. -/
import Derived.Test.YtjfjdidibglhaabArP
namespace Go.Proofs.Ytjfjdidibglhaab

/-- Columns beside one. -/
def skp (col c : Nat) : Nat := if c < col then c else c + 1
theorem skp_inj {col a b : Nat} (h : skp col a = skp col b) : a = b := by
  unfold skp at h
  split at h <;> split at h <;> omega
theorem skp_ne (col c : Nat) : skp col c ≠ col := by
  unfold skp
  split <;> omega
theorem skp_lt {col c k : Nat} (h : c < k) : skp col c < k + 1 := by
  unfold skp
  split <;> omega
theorem skp_pts {col k : Nat} {cs : List Nat} (h : Pts k cs) : Pts (k + 1) (cs.map (skp col)) :=
  ⟨by
    unfold List.Nodup
    rw [List.pairwise_map]
    exact h.nd.imp fun hne e => hne (skp_inj e), fun x hx => by
    obtain ⟨c, hc, rfl⟩ := List.mem_map.1 hx
    exact skp_lt (h.lt c hc)⟩
def drp (col : Nat) (x : Nat → Nat) : Nat → Nat := fun c => x (skp col c)
theorem mtc_drp (col : Nat) (cs : List Nat) (v x : Nat → Nat) : mtc cs (drp col v) (drp col x) = mtc (cs.map (skp col)) v x := by
  unfold mtc drp
  rw [List.all_map]
  rfl
theorem hit_drp (col : Nat) (R : List (Nat → Nat)) (cs : List Nat) (v : Nat → Nat) : hit (R.map (drp col)) cs (drp col v) = hit R (cs.map (skp col)) v := by
  unfold hit
  rw [List.countP_map]
  exact List.countP_congr fun x _ => by
    show mtc cs (drp col v) (drp col x) = true ↔ _
    rw [mtc_drp]
theorem str_drop {s k t col : Nat} {R : List (Nat → Nat)} (h : Str s (k + 1) R t) : Str s k (R.map (drp col)) t := fun cs hc hl x hx => by
  obtain ⟨y, hy, rfl⟩ := List.mem_map.1 hx
  rw [hit_drp, List.length_map]
  have := h (cs.map (skp col)) (skp_pts hc) (by rw [List.length_map, hl]) y hy
  rw [List.length_map] at this
  exact this
theorem lvl_drop {s k col : Nat} {R : List (Nat → Nat)} (h : Lvl s (k + 1) R) : Lvl s k (R.map (drp col)) := fun x hx c hc => by
  obtain ⟨y, hy, rfl⟩ := List.mem_map.1 hx
  exact h y hy _ (skp_lt hc)
/-- Those of a level. -/
def tkn (col lev : Nat) (R : List (Nat → Nat)) : List (Nat → Nat) := (R.filter fun x => x col == lev).map (drp col)
theorem tkn_len {s k t col lev : Nat} {R : List (Nat → Nat)} (h : Str s (k + 1) R (t + 1)) (ht : t ≤ k) (hs : 0 < s) (hr : Lvl s (k + 1) R) (hc : col < k + 1) (hl : lev < s) : (tkn col lev R).length * s = R.length := by
  have h1 := Str.low hs hr (by omega) h 1 (by omega)
  have h2 := h1.all hs hr (cs := [col]) ((Pts.nil _).cons hc (by simp)) rfl (v := fun _ => lev) fun _ _ => hl
  rw [Nat.pow_one] at h2
  rw [← h2]
  congr 1
  unfold tkn hit
  rw [List.length_map, List.countP_eq_length_filter]
  congr 1
  exact List.filter_congr fun x _ => by simp [mtc]
theorem str_take {s k t col lev : Nat} {R : List (Nat → Nat)} (h : Str s (k + 1) R (t + 1)) (ht : t ≤ k) (hs : 0 < s) (hr : Lvl s (k + 1) R) (hc : col < k + 1) (hl : lev < s) : Str s k (tkn col lev R) t := fun cs hcs hlen x hx => by
  obtain ⟨y, hy, rfl⟩ := List.mem_map.1 hx
  obtain ⟨hy1, hy2⟩ := List.mem_filter.1 hy
  have hyc : y col = lev := by simpa using hy2
  have hn : col ∉ cs.map (skp col) := fun hm => by
    obtain ⟨c, _, e⟩ := List.mem_map.1 hm
    exact skp_ne col c e
  have e1 : hit (tkn col lev R) cs (drp col y) = hit R (col :: cs.map (skp col)) y := by
    show hit ((R.filter fun x => x col == lev).map (drp col)) cs (drp col y) = _
    rw [hit_drp, ← hit_cons hn]
    exact hit_congr (fun _ => Iff.rfl) fun d _ => by
      unfold upF
      split
      · rename_i e; rw [e, hyc]
      · rfl
  have e2 := h (col :: cs.map (skp col)) ((skp_pts hcs).cons hc hn) (by rw [List.length_cons, List.length_map, hlen]) y hy1
  rw [List.length_cons, List.length_map, Nat.pow_succ, ← tkn_len h ht hs hr hc hl, ← Nat.mul_assoc] at e2
  rw [e1]
  exact Nat.eq_of_mul_eq_mul_right hs e2
theorem lvl_take {s k col lev : Nat} {R : List (Nat → Nat)} (h : Lvl s (k + 1) R) : Lvl s k (tkn col lev R) := fun x hx c hc => by
  obtain ⟨y, hy, rfl⟩ := List.mem_map.1 hx
  exact h y (List.mem_filter.1 hy).1 _ (skp_lt hc)
/-- Without a column the strength is no less, of fewer columns. -/
theorem drop_ge {s k t u col : Nat} {R : List (Nat → Nat)} (hs : 0 < s) (hr : Lvl s (k + 1) R) (h : StrIs s (k + 1) R t) (g : StrIs s k (R.map (drp col)) u) : t ≤ u ∨ k ≤ u := by
  by_cases e : t ≤ k
  · exact .inl (g.ge hs (lvl_drop hr) e (str_drop (h.is t (Nat.le_refl _))))
  · exact .inr (g.ge hs (lvl_drop hr) (Nat.le_refl _) (str_drop (h.is k (by omega))))
theorem take_ge {s k t u col lev : Nat} {R : List (Nat → Nat)} (hs : 0 < s) (hr : Lvl s (k + 1) R) (hc : col < k + 1) (hl : lev < s) (h : StrIs s (k + 1) R t) (g : StrIs s k (tkn col lev R) u) : t ≤ u + 1 := by
  rcases Nat.eq_zero_or_pos t with e | e
  · omega
  · obtain ⟨m, rfl⟩ : ∃ m, t = m + 1 := ⟨t - 1, by omega⟩
    have := h.le
    exact Nat.succ_le_succ (g.ge hs (lvl_take hr) (by omega) (str_take (h.is _ (Nat.le_refl _)) (by omega) hs hr hc hl))
/-- Of a strength of 1 or more each level stands somewhere. -/
theorem take_some {s k t col lev : Nat} {R : List (Nat → Nat)} (hs : 0 < s) (hr : Lvl s (k + 1) R) (hc : col < k + 1) (hl : lev < s) (h0 : 0 < R.length) (h : StrIs s (k + 1) R t) (h1 : 1 ≤ t) : 0 < (tkn col lev R).length := by
  have := tkn_len (t := 0) (h.is 1 h1) (by omega) hs hr hc hl
  rcases Nat.eq_zero_or_pos (tkn col lev R).length with e | e
  · rw [e] at this; omega
  · exact e
/-- As many runs as choices: each choice stands there once just if no two runs have the same. -/
theorem strC_once {s N : Nat} {cs : List Nat} {f : Nat → Nat → Nat} (hN : N = s ^ cs.length) : StrC s ((List.range N).map f) cs ↔ ∀ i j, i < N → j < N → (∀ c ∈ cs, f i c = f j c) → i = j := by
  have hh : ∀ i, hit ((List.range N).map f) cs (f i) = (List.range N).countP fun j => mtc cs (f i) (f j) := fun i => by
    unfold hit
    rw [List.countP_map]
    rfl
  constructor
  · intro h i j hi hj e
    have h1 := h (f i) (List.mem_map.2 ⟨i, List.mem_range.2 hi, rfl⟩)
    rw [← hN, List.length_map, List.length_range] at h1
    have h2 : hit ((List.range N).map f) cs (f i) = 1 := Nat.eq_of_mul_eq_mul_right (show 0 < N by omega) (by omega)
    rw [hh i, List.countP_eq_length_filter] at h2
    have mi : i ∈ (List.range N).filter fun j => mtc cs (f i) (f j) := List.mem_filter.2 ⟨List.mem_range.2 hi, mtc_iff.2 fun _ _ => rfl⟩
    have mj : j ∈ (List.range N).filter fun j => mtc cs (f i) (f j) := List.mem_filter.2 ⟨List.mem_range.2 hj, mtc_iff.2 fun c hc => (e c hc).symm⟩
    obtain ⟨a, ha⟩ := List.length_eq_one_iff.1 h2
    rw [ha] at mi mj
    rw [List.mem_singleton.1 mi, List.mem_singleton.1 mj]
  · intro h x hx
    obtain ⟨i, hi, rfl⟩ := List.mem_map.1 hx
    have hi := List.mem_range.1 hi
    have e : hit ((List.range N).map f) cs (f i) = 1 := by
      rw [hh i, ← range_one hi]
      exact List.countP_congr fun j hj => by
        rw [mtc_iff]
        constructor
        · intro k
          simpa using h i j hi (List.mem_range.1 hj) fun c hc => (k c hc).symm
        · intro k
          have : i = j := by simpa using k
          subst this
          exact fun _ _ => rfl
    rw [e, ← hN, List.length_map, List.length_range]
    omega
end Go.Proofs.Ytjfjdidibglhaab
