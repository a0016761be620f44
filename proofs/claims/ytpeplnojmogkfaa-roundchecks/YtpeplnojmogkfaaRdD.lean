/- Rounds that are developed of a starter. Nothing of the program. -/
import Derived.Test.YtpeplnojmogkfaaRdP
namespace Go.Proofs.Ytpeplnojmogkfaa

/-- A function with another value at one place. -/
def upF1 (f : Nat → Nat) (k x : Nat) : Nat → Nat := fun i => if i = k then x else f i
def asL : List (Nat × Nat) → (Nat → Nat) → Nat → Nat
  | [], f => f
  | (k, x) :: as, f => asL as (upF1 f k x)
theorem asL_append : ∀ (as bs : List (Nat × Nat)) (f : Nat → Nat), asL (as ++ bs) f = asL bs (asL as f)
  | [], _, _ => rfl
  | (k, x) :: as, bs, f => asL_append as bs (upF1 f k x)
theorem asL_out : ∀ {as : List (Nat × Nat)} {f : Nat → Nat} {i : Nat}, (∀ a ∈ as, a.1 ≠ i) → asL as f i = f i
  | [], _, _, _ => rfl
  | (k, x) :: as, f, i, h => by
    have h1 : k ≠ i := h (k, x) (by simp)
    show asL as (upF1 f k x) i = f i
    rw [asL_out fun a ha => h a (by simp [ha])]
    unfold upF1
    rw [if_neg (Ne.symm h1)]
theorem asL_in : ∀ {as : List (Nat × Nat)} {f : Nat → Nat}, (as.map Prod.fst).Nodup → ∀ a ∈ as, asL as f a.1 = a.2
  | [], _, _, a, h => by simp at h
  | (k, x) :: as, f, hd, a, ha => by
    rw [List.map_cons] at hd
    have h1 := List.nodup_cons.1 hd
    rcases List.mem_cons.1 ha with e | ha
    · subst e
      show asL as (upF1 f k x) k = x
      rw [asL_out fun b hb e => h1.1 (List.mem_map.2 ⟨b, hb, e⟩)]
      unfold upF1
      rw [if_pos rfl]
    · exact asL_in (f := upF1 f k x) h1.2 a ha
/-- What is laid for the round numbered r. -/
def prA (v r : Nat) (p : Nat × Nat) : List (Nat × Nat) := [((p.1 + r) % v, (p.2 + r) % v), ((p.2 + r) % v, (p.1 + r) % v)]
def asg (v r : Nat) (ps : List (Nat × Nat)) : List (Nat × Nat) := [(v, r), (r, v)] ++ ps.flatMap (prA v r)
def dvF (v r : Nat) (ps : List (Nat × Nat)) : Nat → Nat := asL (asg v r ps) fun _ => 0
def dvL (v r : Nat) (ps : List (Nat × Nat)) : List Nat := (List.range (v + 1)).map (dvF v r ps)
def dvR (v : Nat) (ps : List (Nat × Nat)) : List (List Nat) := (List.range v).map fun r => dvL v r ps
theorem dvL_at {v r : Nat} {ps : List (Nat × Nat)} {x : Nat} (h : x ≤ v) : (dvL v r ps).getD x 0 = dvF v r ps x := by
  unfold dvL
  rw [List.getD_eq_getElem?_getD, List.getElem?_map, List.getElem?_range (by omega)]
  rfl
theorem dvR_at {v r : Nat} {ps : List (Nat × Nat)} (h : r < v) : (dvR v ps).getD r [] = dvL v r ps := by
  unfold dvR
  rw [List.getD_eq_getElem?_getD, List.getElem?_map, List.getElem?_range h]
  rfl
theorem dvR_len (v : Nat) (ps : List (Nat × Nat)) : (dvR v ps).length = v := by simp [dvR]
section
variable {v : Nat} {ps : List (Nat × Nat)}
theorem add_inj {x y r : Nat} (hx : x < v) (hy : y < v) (hr : r < v) (e : (x + r) % v = (y + r) % v) : x = y := by
  rcases md hx hr with ⟨e1, h1⟩ | ⟨e1, h1⟩ <;> rcases md hy hr with ⟨e2, h2⟩ | ⟨e2, h2⟩ <;> omega
theorem keys_eq (v r : Nat) : ∀ ps : List (Nat × Nat), (ps.flatMap (prA v r)).map Prod.fst = (alS ps).map fun x => (x + r) % v
  | [] => rfl
  | p :: ps => by
    unfold alS
    rw [List.flatMap_cons, List.flatMap_cons, List.map_append, List.map_append, keys_eq v r ps]
    rfl
theorem map_nod {f : Nat → Nat} : ∀ {l : List Nat}, l.Nodup → (∀ x ∈ l, ∀ y ∈ l, f x = f y → x = y) → (l.map f).Nodup
  | [], _, _ => List.nodup_nil
  | a :: l, h, hi => by
    have h1 := List.nodup_cons.1 h
    rw [List.map_cons, List.nodup_cons]
    refine ⟨fun hm => ?_, map_nod h1.2 fun x hx y hy => hi x (by simp [hx]) y (by simp [hy])⟩
    obtain ⟨y, hy, e⟩ := List.mem_map.1 hm
    exact h1.1 (by rw [hi a (by simp) y (by simp [hy]) e.symm]; exact hy)
theorem St.al_in (h : St v ps) {x : Nat} (hx : x ∈ alS ps) : 1 ≤ x ∧ x < v := by
  obtain ⟨p, hp, hm⟩ := List.mem_flatMap.1 hx
  have k := h.rng p hp
  simp only [List.mem_cons, List.not_mem_nil, or_false] at hm
  rcases hm with rfl | rfl
  · exact k.1
  · exact k.2
theorem St.keys (h : St v ps) {r : Nat} (hr : r < v) : ((asg v r ps).map Prod.fst).Nodup := by
  have hv := h.v3
  unfold asg
  rw [List.map_append, keys_eq]
  refine List.nodup_append.2 ⟨by simp; omega, map_nod h.nd_all fun x hx y hy e => add_inj (h.al_in hx).2 (h.al_in hy).2 hr e, fun a ha b hb e => ?_⟩
  obtain ⟨x, hx, rfl⟩ := List.mem_map.1 hb
  have hxv := h.al_in hx
  have := Nat.mod_lt (x + r) (show 0 < v by omega)
  simp only [List.map_cons, List.map_nil, List.mem_cons, List.not_mem_nil, or_false] at ha
  rcases md hxv.2 hr with ⟨e1, h1⟩ | ⟨e1, h1⟩ <;> omega
/-- What stands in a round that is developed. -/
structure Dv (v r : Nat) (ps : List (Nat × Nat)) (f : Nat → Nat) : Prop where
  top : f v = r
  low : f r = v
  pr : ∀ x y, Pr ps x y → f ((x + r) % v) = (y + r) % v
theorem St.dv (h : St v ps) {r : Nat} (hr : r < v) : Dv v r ps (dvF v r ps) := by
  have hk := h.keys hr
  refine ⟨asL_in hk (v, r) (by simp [asg]), asL_in hk (r, v) (by simp [asg]), fun x y p => ?_⟩
  rcases p with p | p
  · exact asL_in hk ((x + r) % v, (y + r) % v) (List.mem_append_right _ (List.mem_flatMap.2 ⟨_, p, by simp [prA]⟩))
  · exact asL_in hk ((x + r) % v, (y + r) % v) (List.mem_append_right _ (List.mem_flatMap.2 ⟨_, p, by simp [prA]⟩))
/-- Where each team stands. -/
theorem St.place (h : St v ps) {r a : Nat} (hr : r < v) (ha : a ≤ v) : a = v ∨ a = r ∨ ∃ x y, Pr ps x y ∧ a = (x + r) % v := by
  by_cases h1 : a = v
  · exact .inl h1
  by_cases h2 : a = r
  · exact .inr (.inl h2)
  refine .inr (.inr ?_)
  by_cases h3 : r < a
  · obtain ⟨y, hy⟩ := h.some (x := a - r) (by omega) (by omega)
    exact ⟨a - r, y, hy, by rw [show a - r + r = a by omega, Nat.mod_eq_of_lt (by omega)]⟩
  · obtain ⟨y, hy⟩ := h.some (x := a + v - r) (by omega) (by omega)
    exact ⟨a + v - r, y, hy, by rw [show a + v - r + r = a + v by omega, Nat.add_mod_right, Nat.mod_eq_of_lt (by omega)]⟩
/-- A round. -/
def Rnd (n : Nat) (f : Nat → Nat) : Prop := ∀ x, x < n → f x < n ∧ f x ≠ x ∧ f (f x) = x
theorem Dv.rnd (h : St v ps) {r : Nat} (hr : r < v) {f : Nat → Nat} (d : Dv v r ps f) : Rnd (v + 1) f := fun a ha => by
  rcases h.place hr (show a ≤ v by omega) with rfl | rfl | ⟨x, y, p, rfl⟩
  · rw [d.top, d.low]; omega
  · rw [d.low, d.top]; omega
  · obtain ⟨hx, hy⟩ := h.at p
    rw [d.pr x y p, d.pr y x p.symm]
    have := Nat.mod_lt (y + r) (show 0 < v by omega)
    refine ⟨by omega, fun e => h.ne p (add_inj hy.2 hx.2 hr e).symm, rfl⟩
/-- The difference of two teams that meet. -/
theorem dif_add {x y r : Nat} (hx : x < v) (hy : y < v) (hr : r < v) : ((x + r) % v + v - (y + r) % v) % v = (x + v - y) % v := by
  have k : ∀ m, m < 2 * v → (m % v = m ∧ m < v) ∨ (m % v = m - v ∧ v ≤ m) := fun m hm => by
    by_cases h : m < v
    · exact .inl ⟨Nat.mod_eq_of_lt h, h⟩
    · exact .inr ⟨by rw [Nat.mod_eq_sub_mod (by omega), Nat.mod_eq_of_lt (by omega)], by omega⟩
  have h1 := Nat.mod_lt (x + r) (show 0 < v by omega)
  have h2 := Nat.mod_lt (y + r) (show 0 < v by omega)
  rcases md hx hr with ⟨e1, _⟩ | ⟨e1, _⟩ <;> rcases md hy hr with ⟨e2, _⟩ | ⟨e2, _⟩ <;> rcases k ((x + r) % v + v - (y + r) % v) (by omega) with ⟨e3, _⟩ | ⟨e3, _⟩ <;> rcases k (x + v - y) (by omega) with ⟨e4, _⟩ | ⟨e4, _⟩ <;> omega
/-- Two teams meet in one round. -/
theorem Dv.once (h : St v ps) {r s : Nat} (hr : r < v) (hs : s < v) {f g : Nat → Nat} (d : Dv v r ps f) (e : Dv v s ps g) (hne : r ≠ s) {a : Nat} (ha : a ≤ v) : f a ≠ g a := fun he => by
  rcases h.place hr ha with rfl | rfl | ⟨x, y, p, ea⟩
  · rw [d.top, e.top] at he; exact hne he
  · rw [d.low] at he
    rcases h.place hs ha with h1 | h1 | ⟨x, y, p, ea⟩
    · omega
    · exact hne h1
    · obtain ⟨hx, hy⟩ := h.at p
      rw [ea, e.pr x y p] at he
      have := Nat.mod_lt (y + s) (show 0 < v by omega)
      omega
  · obtain ⟨hx, hy⟩ := h.at p
    have hfa : f a = (y + r) % v := by rw [ea]; exact d.pr x y p
    have hlt := Nat.mod_lt (y + r) (show 0 < v by omega)
    rcases h.place hs ha with h1 | h1 | ⟨x', y', p', ea'⟩
    · have := Nat.mod_lt (x + r) (show 0 < v by omega)
      omega
    · rw [h1, e.low, ← h1, hfa] at he
      omega
    · obtain ⟨hx', hy'⟩ := h.at p'
      have hga : g a = (y' + s) % v := by rw [ea']; exact e.pr x' y' p'
      have k1 := dif_add hx.2 hy.2 hr
      have k2 := dif_add hx'.2 hy'.2 hs
      rw [← ea, ← hfa] at k1
      rw [← ea', ← hga, ← he] at k2
      obtain ⟨rfl, rfl⟩ := h.dif p p' (k1.symm.trans k2)
      rw [ea] at ea'
      refine hne (add_inj (v := v) (r := x) hr hs hx.2 ?_)
      rw [Nat.add_comm r, Nat.add_comm s]
      exact ea'
end
/-- Rounds of n teams, no two of which meet twice. -/
structure Rds (n : Nat) (ls : List (List Nat)) : Prop where
  len : ∀ l ∈ ls, l.length = n
  rnd : ∀ l ∈ ls, Rnd n fun x => l.getD x 0
  once : ∀ i j, j < i → i < ls.length → ∀ a, a < n → (ls.getD i []).getD a 0 ≠ (ls.getD j []).getD a 0
theorem St.rds {v : Nat} {ps : List (Nat × Nat)} (h : St v ps) : Rds (v + 1) (dvR v ps) where
  len := fun l hl => by
    obtain ⟨r, _, rfl⟩ := List.mem_map.1 hl
    simp [dvL]
  rnd := fun l hl => by
    obtain ⟨r, hr, rfl⟩ := List.mem_map.1 hl
    have hr := List.mem_range.1 hr
    intro x hx
    have k := (h.dv hr).rnd h hr x hx
    show (dvL v r ps).getD x 0 < v + 1 ∧ (dvL v r ps).getD x 0 ≠ x ∧ (dvL v r ps).getD ((dvL v r ps).getD x 0) 0 = x
    rw [dvL_at (show x ≤ v by omega), dvL_at (by omega)]
    exact k
  once := fun i j hj hi a ha => by
    rw [dvR_len] at hi
    rw [dvR_at hi, dvR_at (by omega), dvL_at (by omega), dvL_at (by omega)]
    exact Dv.once h hi (by omega) (h.dv hi) (h.dv (by omega)) (by omega) (by omega)
end Go.Proofs.Ytpeplnojmogkfaa
