/- Runs that try all alike: how often a choice of levels stands in some columns. Nothing of the program. -/
import Derived.Test.YtjfjdidibglhaabDoorDPure
namespace Go.Proofs.YtjfjdidibglhaabDoor

/-- Does a run have in some columns what v has? -/
def mtc (cs : List Nat) (v x : Nat → Nat) : Bool := cs.all fun c => x c == v c
theorem mtc_iff {cs : List Nat} {v x : Nat → Nat} : mtc cs v x = true ↔ ∀ c ∈ cs, x c = v c := by
  unfold mtc
  rw [List.all_eq_true]
  exact ⟨fun h c hc => by simpa using h c hc, fun h c hc => by simpa using h c hc⟩
/-- How many runs do. -/
def hit (R : List (Nat → Nat)) (cs : List Nat) (v : Nat → Nat) : Nat := R.countP (mtc cs v)
theorem hit_congr {R : List (Nat → Nat)} {cs ds : List Nat} {v u : Nat → Nat} (h : ∀ c, c ∈ cs ↔ c ∈ ds) (e : ∀ c ∈ cs, v c = u c) : hit R cs v = hit R ds u := by
  refine List.countP_congr fun x _ => ?_
  rw [mtc_iff, mtc_iff]
  exact ⟨fun k c hc => by rw [k c ((h c).2 hc), e c ((h c).2 hc)], fun k c hc => by rw [k c ((h c).1 hc), e c hc]⟩
theorem hit_nil (R : List (Nat → Nat)) (v : Nat → Nat) : hit R [] v = R.length := by
  show R.countP (mtc [] v) = _
  rw [List.countP_eq_length]
  exact fun _ _ => rfl
def upF (v : Nat → Nat) (c y : Nat) : Nat → Nat := fun d => if d = c then y else v d
theorem hit_cons {R : List (Nat → Nat)} {c : Nat} {cs : List Nat} (hc : c ∉ cs) (v : Nat → Nat) (y : Nat) : hit R (c :: cs) (upF v c y) = hit (R.filter fun x => x c == y) cs v := by
  unfold hit
  rw [List.countP_filter]
  refine List.countP_congr fun x _ => ?_
  rw [mtc_iff, Bool.and_eq_true, mtc_iff]
  constructor
  · intro k
    refine ⟨fun d hd => ?_, ?_⟩
    · have := k d (List.mem_cons_of_mem _ hd)
      rw [this]
      unfold upF
      rw [if_neg fun (e : d = c) => hc (e ▸ hd)]
    · have := k c List.mem_cons_self
      rw [this]
      unfold upF
      rw [if_pos rfl]
      simp
  · rintro ⟨k1, k2⟩ d hd
    unfold upF
    rcases List.mem_cons.1 hd with e | hd
    · subst e
      rw [if_pos rfl]
      simpa using k2
    · rw [if_neg fun (e : d = c) => hc (e ▸ hd)]
      exact k1 d hd
theorem range_one {a s : Nat} (h : a < s) : (List.range s).countP (fun y => a == y) = 1 := by
  induction s with
  | zero => omega
  | succ s ih =>
    rw [List.range_succ, List.countP_append]
    by_cases e : a = s
    · subst e
      have : (List.range a).countP (fun y => a == y) = 0 := by
        rw [List.countP_eq_zero]
        intro y hy
        have := List.mem_range.1 hy
        simp; omega
      rw [this]
      simp
    · rw [ih (by omega)]
      simp [e]
theorem len_split {c s : Nat} : ∀ {R : List (Nat → Nat)}, (∀ x ∈ R, x c < s) → R.length = dS (List.range s) fun y => (R.filter fun x => x c == y).length
  | [], _ => by
    have : dS (List.range s) (fun y => (([] : List (Nat → Nat)).filter fun x => x c == y).length) = dS (List.range s) fun _ => 0 := dS_congr fun y _ => rfl
    rw [this, dS_const]
    simp
  | x :: R, h => by
    have e : dS (List.range s) (fun y => ((x :: R).filter fun x => x c == y).length) = dS (List.range s) (fun y => (if (x c == y) = true then 1 else 0) + (R.filter fun x => x c == y).length) := dS_congr fun y _ => by
      rw [List.filter_cons]
      split
      · rw [List.length_cons]; omega
      · omega
    rw [e, dS_add, dS_count, range_one (h x List.mem_cons_self), ← len_split fun z hz => h z (List.mem_cons_of_mem _ hz), List.length_cons]
    omega
theorem dS_le {α : Type} {f : α → Nat} {m : Nat} : ∀ {l : List α}, (∀ a ∈ l, f a ≤ m) → dS l f ≤ l.length * m
  | [], _ => by simp [dS]
  | a :: l, h => by
    rw [dS_cons, List.length_cons, Nat.add_mul]
    have := h a List.mem_cons_self
    have := dS_le (f := f) (m := m) fun b hb => h b (List.mem_cons_of_mem _ hb)
    omega
theorem dS_all {α : Type} {f : α → Nat} {m : Nat} : ∀ {l : List α}, (∀ a ∈ l, f a ≤ m) → l.length * m ≤ dS l f → ∀ a ∈ l, f a = m
  | [], _, _ => by simp
  | a :: l, h, e => by
    rw [dS_cons, List.length_cons, Nat.add_mul] at e
    have h1 := h a List.mem_cons_self
    have h2 := dS_le (f := f) (m := m) fun b hb => h b (List.mem_cons_of_mem _ hb)
    intro b hb
    rcases List.mem_cons.1 hb with q | hb
    · subst q; omega
    · exact dS_all (fun b hb => h b (List.mem_cons_of_mem _ hb)) (by omega) b hb
/-- Where no choice stands more than m times there are not too many runs. -/
theorem pig {s m : Nat} : ∀ {cs : List Nat} {R : List (Nat → Nat)}, cs.Nodup → (∀ x ∈ R, ∀ c ∈ cs, x c < s) → (∀ v, hit R cs v ≤ m) → R.length ≤ s ^ cs.length * m
  | [], R, _, _, h => by
    have := h fun _ => 0
    rw [hit_nil] at this
    simpa using this
  | c :: cs, R, hd, hr, h => by
    obtain ⟨hc, hcs⟩ := List.nodup_cons.1 hd
    rw [len_split (c := c) (s := s) fun x hx => hr x hx c List.mem_cons_self, List.length_cons, Nat.pow_succ, Nat.mul_comm _ s, Nat.mul_assoc]
    refine Nat.le_trans (dS_le (m := s ^ cs.length * m) fun y _ => ?_) (by simp)
    exact pig hcs (fun x hx d hd => hr x (List.mem_filter.1 hx).1 d (List.mem_cons_of_mem _ hd)) fun v => by
      rw [← hit_cons hc]
      exact h _
/-- And where there are as many as can be each choice stands m times. -/
theorem pig_eq {s m : Nat} : ∀ {cs : List Nat} {R : List (Nat → Nat)}, cs.Nodup → (∀ x ∈ R, ∀ c ∈ cs, x c < s) → (∀ v, hit R cs v ≤ m) → s ^ cs.length * m ≤ R.length →
    ∀ v, (∀ c ∈ cs, v c < s) → hit R cs v = m
  | [], R, _, _, h, e, v, _ => by
    have := h v
    rw [hit_nil] at this ⊢
    simp at e
    omega
  | c :: cs, R, hd, hr, h, e, v, hv => by
    obtain ⟨hc, hcs⟩ := List.nodup_cons.1 hd
    have hu : ∀ y, ∀ u, hit (R.filter fun x => x c == y) cs u ≤ m := fun y u => by
      rw [← hit_cons hc]
      exact h _
    have hr2 : ∀ y, ∀ x ∈ R.filter (fun x => x c == y), ∀ d ∈ cs, x d < s := fun y x hx d hd => hr x (List.mem_filter.1 hx).1 d (List.mem_cons_of_mem _ hd)
    have key := dS_all (l := List.range s) (f := fun y => (R.filter fun x => x c == y).length) (m := s ^ cs.length * m) (fun y _ => pig hcs (hr2 y) (hu y)) (by
      rw [← len_split fun x hx => hr x hx c List.mem_cons_self, List.length_range, ← Nat.mul_assoc, Nat.mul_comm s, ← Nat.pow_succ]
      exact e)
    have hvc := hv c List.mem_cons_self
    have h1 := key (v c) (List.mem_range.2 hvc)
    have h2 := pig_eq hcs (hr2 (v c)) (hu (v c)) (Nat.le_of_eq h1.symm) v fun d hd => hv d (List.mem_cons_of_mem _ hd)
    rw [← hit_cons hc] at h2
    rw [← h2]
    exact hit_congr (fun _ => Iff.rfl) fun d _ => by
      unfold upF
      split
      · rename_i e; rw [e]
      · rfl
/-- In these columns each choice that stands there stands as often as it must. -/
def StrC (s : Nat) (R : List (Nat → Nat)) (cs : List Nat) : Prop := ∀ x ∈ R, hit R cs x * s ^ cs.length = R.length
theorem hit_max {R : List (Nat → Nat)} {cs : List Nat} {m : Nat} (h : ∀ x ∈ R, hit R cs x ≤ m) (v : Nat → Nat) : hit R cs v ≤ m := by
  by_cases e : hit R cs v = 0
  · omega
  · have : 0 < R.countP (mtc cs v) := by
      have : R.countP (mtc cs v) ≠ 0 := e
      omega
    obtain ⟨x, hx, hm⟩ := List.countP_pos_iff.1 this
    rw [← hit_congr (v := x) (fun _ => Iff.rfl) fun c hc => mtc_iff.1 hm c hc]
    exact h x hx
theorem strC_le {s : Nat} {R : List (Nat → Nat)} {cs : List Nat} (hs : 0 < s) (h : StrC s R cs) : ∀ x ∈ R, hit R cs x ≤ R.length / s ^ cs.length := fun x hx => by
  rw [Nat.le_div_iff_mul_le (Nat.pow_pos hs), h x hx]
  exact Nat.le_refl _
theorem strC_all {s : Nat} {R : List (Nat → Nat)} {cs : List Nat} (hd : cs.Nodup) (hr : ∀ x ∈ R, ∀ c ∈ cs, x c < s) (h : ∀ x ∈ R, hit R cs x ≤ R.length / s ^ cs.length) :
    ∀ v, (∀ c ∈ cs, v c < s) → hit R cs v * s ^ cs.length = R.length := fun v hv => by
  have h1 := hit_max h
  have h2 := pig hd hr h1
  have h3 : s ^ cs.length * (R.length / s ^ cs.length) ≤ R.length := Nat.mul_div_le _ _
  rw [pig_eq hd hr h1 h3 v hv, Nat.mul_comm]
  omega
theorem strC_iff {s : Nat} {R : List (Nat → Nat)} {cs : List Nat} (hs : 0 < s) (hd : cs.Nodup) (hr : ∀ x ∈ R, ∀ c ∈ cs, x c < s) : StrC s R cs ↔ ∀ x ∈ R, hit R cs x ≤ R.length / s ^ cs.length :=
  ⟨strC_le hs, fun h x hx => strC_all hd hr h x (hr x hx)⟩
/-- All choices of t of k columns. -/
def Str (s k : Nat) (R : List (Nat → Nat)) (t : Nat) : Prop := ∀ cs, Pts k cs → cs.length = t → StrC s R cs
/-- Runs of k columns of s levels. -/
def Lvl (s k : Nat) (R : List (Nat → Nat)) : Prop := ∀ x ∈ R, ∀ c, c < k → x c < s
theorem Str.all {s k t : Nat} {R : List (Nat → Nat)} (h : Str s k R t) (hs : 0 < s) (hr : Lvl s k R) {cs : List Nat} (hc : Pts k cs) (hl : cs.length = t) {v : Nat → Nat} (hv : ∀ c ∈ cs, v c < s) : hit R cs v * s ^ t = R.length := by
  have := strC_all hc.nd (fun x hx c hm => hr x hx c (hc.lt c hm)) (strC_le hs (h cs hc hl)) v hv
  rw [← hl]
  exact this
theorem str_zero (s k : Nat) (R : List (Nat → Nat)) : Str s k R 0 := fun cs _ hl x _ => by
  have : cs = [] := List.length_eq_zero_iff.1 hl
  subst this
  rw [hit_nil]
  simp
theorem Pts.more {k : Nat} {cs : List Nat} (h : Pts k cs) (hl : cs.length < k) : ∃ c, c < k ∧ c ∉ cs := by
  have := h.rest
  have hp : 0 < (List.range k).countP (fun x => !cs.contains x) := by omega
  obtain ⟨c, hc, hn⟩ := List.countP_pos_iff.1 hp
  refine ⟨c, List.mem_range.1 hc, fun hm => ?_⟩
  rw [List.contains_iff_mem.2 hm] at hn
  cases hn
theorem hit_split {s c : Nat} {R : List (Nat → Nat)} {cs : List Nat} (hc : c ∉ cs) (hr : ∀ x ∈ R, x c < s) (v : Nat → Nat) : hit R cs v = dS (List.range s) fun y => hit R (c :: cs) (upF v c y) := by
  have e : dS (List.range s) (fun y => hit R (c :: cs) (upF v c y)) = dS (List.range s) fun y => ((R.filter (mtc cs v)).filter fun x => x c == y).length := dS_congr fun y _ => by
    rw [hit_cons hc]
    unfold hit
    rw [List.countP_eq_length_filter, List.filter_filter, List.filter_filter]
    congr 1
    apply List.filter_congr
    intro x _
    exact Bool.and_comm _ _
  rw [e, ← len_split fun x hx => hr x (List.mem_filter.1 hx).1]
  exact List.countP_eq_length_filter
theorem Str.down {s k t : Nat} {R : List (Nat → Nat)} (h : Str s k R (t + 1)) (hs : 0 < s) (hr : Lvl s k R) (ht : t < k) : Str s k R t := fun cs hc hl x hx => by
  obtain ⟨c, hck, hcn⟩ := hc.more (by omega)
  rw [hit_split (s := s) hcn (fun y hy => hr y hy c hck) x, hl]
  have e : ∀ y ∈ List.range s, hit R (c :: cs) (upF x c y) * s ^ (t + 1) = R.length := fun y hy => by
    refine h.all hs hr (hc.cons hck hcn) (by rw [List.length_cons, hl]) fun d hd => ?_
    unfold upF
    split
    · exact List.mem_range.1 hy
    · rename_i ne
      rcases List.mem_cons.1 hd with q | q
      · exact absurd q ne
      · exact hr x hx d (hc.lt d q)
  have hp : 0 < s ^ (t + 1) := Nat.pow_pos hs
  have e2 : dS (List.range s) (fun y => hit R (c :: cs) (upF x c y)) = dS (List.range s) fun _ => R.length / s ^ (t + 1) := dS_congr fun y hy => by
    rw [← e y hy, Nat.mul_div_cancel _ hp]
  have h0 : R.length / s ^ (t + 1) * s ^ (t + 1) = R.length := by
    have := e 0 (List.mem_range.2 hs)
    rw [← this, Nat.mul_div_cancel _ hp]
  rw [e2, dS_const, List.length_range]
  have : s * (R.length / s ^ (t + 1)) * s ^ t = R.length / s ^ (t + 1) * s ^ (t + 1) := by
    rw [Nat.pow_succ, Nat.mul_comm s, Nat.mul_assoc, Nat.mul_comm s]
  rw [this, h0]
theorem Str.low {s k : Nat} {R : List (Nat → Nat)} (hs : 0 < s) (hr : Lvl s k R) : ∀ {t : Nat}, t ≤ k → Str s k R t → ∀ u, u ≤ t → Str s k R u
  | 0, _, h, u, hu => by
    obtain rfl : u = 0 := by omega
    exact h
  | t + 1, ht, h, u, hu => by
    by_cases e : u = t + 1
    · subst e; exact h
    · exact Str.low hs hr (by omega) (h.down hs hr (by omega)) u (by omega)
/-- The strength: the first t such that t + 1 is too much. -/
structure StrIs (s k : Nat) (R : List (Nat → Nat)) (t : Nat) : Prop where
  le : t ≤ k
  is : ∀ u, u ≤ t → Str s k R u
  no : t < k → ¬ Str s k R (t + 1)
theorem StrIs.one {s k : Nat} {R : List (Nat → Nat)} {t u : Nat} (h : StrIs s k R t) (g : StrIs s k R u) : t = u := by
  rcases Nat.lt_trichotomy t u with k1 | k1 | k1
  · exact absurd (g.is (t + 1) k1) (h.no (Nat.lt_of_lt_of_le k1 g.le))
  · exact k1
  · exact absurd (h.is (u + 1) k1) (g.no (Nat.lt_of_lt_of_le k1 h.le))
theorem StrIs.ge {s k : Nat} {R : List (Nat → Nat)} {t u : Nat} (h : StrIs s k R t) (hs : 0 < s) (hr : Lvl s k R) (hu : u ≤ k) (g : Str s k R u) : u ≤ t := by
  rcases (show u ≤ t ∨ t < u by omega) with k1 | k1
  · exact k1
  · exact absurd (Str.low hs hr hu g (t + 1) k1) (h.no (by omega))
/-- Lists that rise are enough. -/
theorem str_rise {s k t : Nat} {R : List (Nat → Nat)} (h : ∀ cs : List Nat, cs.Pairwise (· < ·) → (∀ c ∈ cs, c < k) → cs.length = t → StrC s R cs) : Str s k R t := fun cs hc hl x hx => by
  have hp := hc.filter
  have e := h ((List.range k).filter fun c => cs.contains c) (List.Pairwise.filter _ List.pairwise_lt_range) (fun c hm => List.mem_range.1 (List.mem_filter.1 hm).1) (by rw [hp.length_eq, hl]) x hx
  rw [hp.length_eq] at e
  rw [← e]
  congr 1
  exact hit_congr (fun c => (hp.mem_iff).symm) fun _ _ => rfl
end Go.Proofs.YtjfjdidibglhaabDoor
