/- A strong starter and its opposite: rooms. Nothing of the program. -/
import Derived.Test.YtpeplnojmogkfaaRdD
namespace Go.Proofs.Ytpeplnojmogkfaa

def smS (v : Nat) (ps : List (Nat × Nat)) : List Nat := ps.map fun p => (p.1 + p.2) % v
/-- Sums are unlike, and none of them 0. -/
def Stg (v : Nat) (ps : List (Nat × Nat)) : Prop := (0 :: smS v ps).Nodup
/-- The opposite. -/
def opL (v : Nat) (ps : List (Nat × Nat)) : List (Nat × Nat) := ps.map fun p => (v - p.1, v - p.2)
theorem map_inj_nod {α β : Type} {f : α → β} : ∀ {l : List α}, (l.map f).Nodup → ∀ a ∈ l, ∀ b ∈ l, f a = f b → a = b
  | [], _, _, h, _, _, _ => by simp at h
  | x :: l, hd, a, ha, b, hb, e => by
    rw [List.map_cons, List.nodup_cons] at hd
    rcases List.mem_cons.1 ha with ea | ha1
    · rcases List.mem_cons.1 hb with eb | hb1
      · rw [ea, eb]
      · exact absurd (List.mem_map.2 ⟨b, hb1, by rw [← e, ea]⟩) hd.1
    · rcases List.mem_cons.1 hb with eb | hb1
      · exact absurd (List.mem_map.2 ⟨a, ha1, by rw [e, eb]⟩) hd.1
      · exact map_inj_nod hd.2 a ha1 b hb1 e
section
variable {v : Nat} {ps : List (Nat × Nat)}
theorem Pr.opp {x y : Nat} (h : St v ps) (p : Pr (opL v ps) x y) : Pr ps (v - x) (v - y) ∧ 1 ≤ x ∧ x < v ∧ 1 ≤ y ∧ y < v := by
  rcases p with p | p
  · obtain ⟨q, hq, e⟩ := List.mem_map.1 p
    simp only [Prod.mk.injEq] at e
    have k := h.rng q hq
    refine ⟨.inl ?_, by omega⟩
    rw [show v - x = q.1 by omega, show v - y = q.2 by omega]
    exact hq
  · obtain ⟨q, hq, e⟩ := List.mem_map.1 p
    simp only [Prod.mk.injEq] at e
    have k := h.rng q hq
    refine ⟨.inr ?_, by omega⟩
    rw [show v - x = q.2 by omega, show v - y = q.1 by omega]
    exact hq
theorem St.opp (h : St v ps) : St v (opL v ps) where
  v3 := h.v3
  v15 := h.v15
  odd := h.odd
  len := by unfold opL; rw [List.length_map]; exact h.len
  rng := fun p hp => by
    obtain ⟨q, hq, rfl⟩ := List.mem_map.1 hp
    have := h.rng q hq
    simp only
    omega
  all := fun x h1 h2 => by
    obtain ⟨p, hp, hm⟩ := List.mem_flatMap.1 (h.all (v - x) (by omega) (by omega))
    have k := h.rng p hp
    refine List.mem_flatMap.2 ⟨(v - p.1, v - p.2), List.mem_map_of_mem hp, ?_⟩
    simp only [List.mem_cons, List.not_mem_nil, or_false] at hm ⊢
    omega
  df := fun d h1 h2 => by
    obtain ⟨p, hp, hm⟩ := List.mem_flatMap.1 (h.df d h1 h2)
    have k := h.rng p hp
    refine List.mem_flatMap.2 ⟨(v - p.1, v - p.2), List.mem_map_of_mem hp, ?_⟩
    simp only [List.mem_cons, List.not_mem_nil, or_false] at hm ⊢
    rw [show v - p.1 + v - (v - p.2) = p.2 + v - p.1 by omega, show v - p.2 + v - (v - p.1) = p.1 + v - p.2 by omega]
    exact hm.symm
theorem Stg.ne0 (h : Stg v ps) {x y : Nat} (p : Pr ps x y) : (x + y) % v ≠ 0 := fun e => by
  have k := (List.nodup_cons.1 h).1
  rcases p with p | p
  · exact k (List.mem_map.2 ⟨_, p, e⟩)
  · exact k (List.mem_map.2 ⟨_, p, by rw [Nat.add_comm]; exact e⟩)
theorem Stg.one (h : Stg v ps) {x y a b : Nat} (p : Pr ps x y) (q : Pr ps a b) (e : (x + y) % v = (a + b) % v) : (x = a ∧ y = b) ∨ (x = b ∧ y = a) := by
  have k := map_inj_nod (List.nodup_cons.1 h).2
  rcases p with p | p <;> rcases q with q | q
  · have := k _ p _ q e
    exact .inl ⟨congrArg Prod.fst this, congrArg Prod.snd this⟩
  · have := k _ p _ q (e.trans (by rw [Nat.add_comm]))
    exact .inr ⟨congrArg Prod.fst this, congrArg Prod.snd this⟩
  · have := k _ p _ q (Eq.trans (by rw [Nat.add_comm]) e)
    exact .inr ⟨congrArg Prod.snd this, congrArg Prod.fst this⟩
  · have := k _ p _ q (Eq.trans (by rw [Nat.add_comm]) (e.trans (by rw [Nat.add_comm])))
    exact .inl ⟨congrArg Prod.snd this, congrArg Prod.fst this⟩
/-- Two teams that meet in both: the one in a round of its own, or by a pair whose sum tells how the rounds differ. -/
theorem both (h : St v ps) {i j : Nat} (hi : i < v) (hj : j < v) {f g : Nat → Nat} (d : Dv v i ps f) (e : Dv v j (opL v ps) g) {a : Nat} (ha : a ≤ v) (he : f a = g a) :
    (i = j ∧ (a = v ∨ a = i)) ∨ ∃ x y, Pr ps x y ∧ a = (x + i) % v ∧ f a = (y + i) % v ∧ ((x + y) % v + i) % v = j := by
  have ho := h.opp
  rcases h.place hi ha with h1 | h1 | ⟨x, y, p, ea⟩
  · refine .inl ⟨?_, .inl h1⟩
    rw [h1, d.top, e.top] at he
    exact he
  · rw [h1, d.low] at he
    rcases ho.place hj ha with h2 | h2 | ⟨x', y', p', ea'⟩
    · omega
    · exact .inl ⟨by omega, .inr h1⟩
    · rw [h1] at ea'
      rw [ea', e.pr x' y' p'] at he
      have := Nat.mod_lt (y' + j) (show 0 < v by omega)
      omega
  · obtain ⟨hx, hy⟩ := h.at p
    have hfa : f a = (y + i) % v := by rw [ea]; exact d.pr x y p
    have hlt := Nat.mod_lt (y + i) (show 0 < v by omega)
    have hlt2 := Nat.mod_lt (x + i) (show 0 < v by omega)
    rcases ho.place hj ha with h1 | h1 | ⟨x', y', p', ea'⟩
    · omega
    · rw [h1, e.low, ← h1, hfa] at he
      omega
    · obtain ⟨hp, hx1, hx2, hy1, hy2⟩ := Pr.opp h p'
      have hga : g a = (y' + j) % v := by rw [ea']; exact e.pr x' y' p'
      have k1 := dif_add hx.2 hy.2 hi
      have k2 := dif_add hx2 hy2 hj
      rw [← ea, ← hfa] at k1
      rw [← ea', ← hga, ← he] at k2
      have k3 : (x + v - y) % v = ((v - y') + v - (v - x')) % v := by rw [← k1, k2, show (v - y') + v - (v - x') = x' + v - y' by omega]
      obtain ⟨e1, e2⟩ := h.dif p hp.symm k3
      refine .inr ⟨x, y, p, ea, hfa, ?_⟩
      have e3 : (x + i) % v = (x' + j) % v := ea.symm.trans ea'
      rcases md hx.2 hi with ⟨q1, r1⟩ | ⟨q1, r1⟩ <;> rcases md hx2 hj with ⟨q2, r2⟩ | ⟨q2, r2⟩ <;> rcases md hx.2 hy.2 with ⟨q3, r3⟩ | ⟨q3, r3⟩ <;> rw [q3] <;> rcases md (x := (x + y) % v) (Nat.mod_lt _ (by omega)) hi with ⟨q4, r4⟩ | ⟨q4, r4⟩ <;> rw [q3] at q4 r4 <;> rw [q4] <;> omega
/-- At most two teams: one pair. -/
theorem both_one (h : St v ps) (hs : Stg v ps) {i j : Nat} (hi : i < v) (hj : j < v) {f g : Nat → Nat} (d : Dv v i ps f) (e : Dv v j (opL v ps) g) {a b : Nat} (ha : a ≤ v) (hb : b ≤ v) (hea : f a = g a) (heb : f b = g b) : b = a ∨ b = f a := by
  have zero : ∀ {x y}, Pr ps x y → ((x + y) % v + i) % v = i → False := fun {x y} p k => by
    have k0 := hs.ne0 p
    have hv := h.v3
    have hl := Nat.mod_lt (x + y) (show 0 < v by omega)
    rcases md hl hi with ⟨q, r⟩ | ⟨q, r⟩ <;> omega
  rcases both h hi hj d e ha hea with ⟨h1, h2⟩ | ⟨x, y, p, ea, fa, k⟩
  · rcases both h hi hj d e hb heb with ⟨_, h3⟩ | ⟨x, y, p, _, _, k⟩
    · have t := d.top
      have l := d.low
      rcases h2 with rfl | rfl
      · rw [t]; exact h3
      · rw [l]; exact h3.symm
    · rw [← h1] at k
      exact (zero p k).elim
  · rcases both h hi hj d e hb heb with ⟨h1, _⟩ | ⟨x', y', p', eb, fb, k'⟩
    · rw [← h1] at k
      exact (zero p k).elim
    · have hv := h.v3
      have e1 := add_inj (Nat.mod_lt _ (by omega)) (Nat.mod_lt _ (by omega)) hi (k.trans k'.symm)
      rcases hs.one p p' e1 with ⟨rfl, rfl⟩ | ⟨rfl, rfl⟩
      · exact .inl (eb.trans ea.symm)
      · exact .inr (eb.trans fa.symm)
end
/-- How many teams meet the same one in both. -/
def comR (n : Nat) (k l : List Nat) : Nat := (List.range n).countP fun x => k.getD x 0 == l.getD x 0
theorem com_two {n : Nat} {k l : List Nat} (h : ∀ a b, a < n → b < n → k.getD a 0 = l.getD a 0 → k.getD b 0 = l.getD b 0 → b = a ∨ b = k.getD a 0) : comR n k l ≤ 2 := by
  unfold comR
  rw [List.countP_eq_length_filter]
  have hn : ((List.range n).filter fun x => k.getD x 0 == l.getD x 0).Nodup := List.nodup_range.filter _
  have hm : ∀ x ∈ (List.range n).filter fun x => k.getD x 0 == l.getD x 0, x < n ∧ k.getD x 0 = l.getD x 0 := fun x hx => by
    obtain ⟨h1, h2⟩ := List.mem_filter.1 hx
    exact ⟨List.mem_range.1 h1, eq_of_beq h2⟩
  generalize (List.range n).filter (fun x => k.getD x 0 == l.getD x 0) = L at hn hm
  cases L with
  | nil => simp
  | cons a L =>
    have ka := hm a (by simp)
    exact nodL_len hn (m := [a, k.getD a 0]) fun b hb => by
      have kb := hm b hb
      have := h a b ka.1 kb.1 ka.2 kb.2
      simp only [List.mem_cons, List.not_mem_nil, or_false]
      exact this
/-- Rooms: both complete, and no two rounds have more than one pair in common. -/
def Rms (n : Nat) (as bs : List (List Nat)) : Prop := as.length = n - 1 ∧ bs.length = n - 1 ∧ ∀ i j, i < as.length → j < bs.length → comR n (as.getD i []) (bs.getD j []) ≤ 2
theorem St.rooms {v : Nat} {ps : List (Nat × Nat)} (h : St v ps) (hs : Stg v ps) : Rms (v + 1) (dvR v ps) (dvR v (opL v ps)) := by
  refine ⟨dvR_len v ps, dvR_len v _, fun i j hi hj => ?_⟩
  rw [dvR_len] at hi hj
  rw [dvR_at hi, dvR_at hj]
  refine com_two fun a b ha hb ea eb => ?_
  rw [dvL_at (show a ≤ v by omega), dvL_at (show a ≤ v by omega)] at ea
  rw [dvL_at (show b ≤ v by omega), dvL_at (show b ≤ v by omega)] at eb
  rw [dvL_at (show a ≤ v by omega)]
  exact both_one h hs hi hj (h.dv hi) (h.opp.dv hj) (by omega) (by omega) ea eb
end Go.Proofs.Ytpeplnojmogkfaa
