/- What a closed list holds; points that stay; rows of points; what cannot be cut; nothing of the program. -/
import Derived.Test.YtmaplmgecohjbaaGCount
namespace Go.Proofs.Ytmaplmgecohjbaa

/-- A list that holds what moves nothing and, with each, what it and a maker come to, holds all that the makers make. -/
theorem gen_closed {n : Nat} {ms L : List (List Nat)} (h1 : idL n ∈ L) (hg : ∀ a ∈ L, Gen n ms a) (hc : ∀ a ∈ L, ∀ m ∈ ms, thenL a m ∈ L) (a : List Nat) : a ∈ L ↔ Gen n ms a := by
  refine ⟨hg a, fun h => ?_⟩
  induction h with
  | one => exact h1
  | step a m _ h2 ih => exact hc a ih m h2
/-- It is no longer than all there are. -/
theorem perms_le {n : Nat} {L : List (List Nat)} (nd : L.Nodup) (hp : ∀ a ∈ L, IsP n a) : L.length ≤ fac n := by
  have h := nodup_map (f := rnk n) nd (fun a ha b hb e => rnk_inj (hp a ha) (hp b hb) e)
  have hperm : (L.map (rnk n)).Perm ((List.range (fac n)).filter fun k => decide (k ∈ L.map (rnk n))) := by
    refine (List.perm_ext_iff_of_nodup h (List.nodup_range.filter _)).2 fun k => ?_
    rw [List.mem_filter, List.mem_range, decide_eq_true_eq]
    refine ⟨fun hk => ⟨?_, hk⟩, fun hk => hk.2⟩
    obtain ⟨a, _, rfl⟩ := List.mem_map.1 hk
    exact rnk_lt n a
  have h1 := hperm.length_eq
  have h2 := List.length_filter_le (fun k => decide (k ∈ L.map (rnk n))) (List.range (fac n))
  rw [List.length_map] at h1
  rw [List.length_range] at h2
  omega
/-- Two groups that have the same members have the same list. -/
theorem els_congr {n : Nat} {G H : List Nat → Prop} (h : ∀ a, IsP n a → (G a ↔ H a)) : els n G = els n H := by
  unfold els
  refine List.filter_congr fun l hl => ?_
  obtain ⟨k, hk, rfl⟩ := List.mem_map.1 hl
  rw [decide_eq_decide]
  exact h _ (unr_isP (List.mem_range.1 hk))
open Classical in
theorem els_and (n : Nat) (G p : List Nat → Prop) : els n (fun a => G a ∧ p a) = (els n G).filter fun a => decide (p a) := by
  unfold els
  rw [List.filter_filter]
  refine List.filter_congr fun l _ => ?_
  by_cases h1 : G l <;> by_cases h2 : p l <;> simp [h1, h2]
def fixN (n : Nat) (a : List Nat) : Nat := (List.range n).countP fun x => decide (a.getD x 0 = x)
/-- Cauchy and Frobenius: the points that stay are, together, the order times the orbits. -/
theorem burnside {n : Nat} {G : List Nat → Prop} (hG : Grp n G) : ((els n G).map (fixN n)).sum = (reps n G).length * (els n G).length := by
  rw [← burnside_points hG]
  have h := sum_swap (fun (a : List Nat) (x : Nat) => decide (a.getD x 0 = x)) (List.range n) (els n G)
  refine h.trans ?_
  congr 1
  refine List.map_congr_left fun x _ => ?_
  rw [els_and, List.countP_eq_length_filter]
  congr 1
  refine List.filter_congr fun a _ => ?_
  rw [decide_eq_decide]

/-! ### rows of points -/
/-- Each row of t points, all unlike, is where the first t go. -/
def Moves (n : Nat) (G : List Nat → Prop) (t : Nat) : Prop := ∀ r : List Nat, r.length = t → r.Nodup → (∀ x ∈ r, x < n) → ∃ a, G a ∧ a.take t = r
theorem Moves.pair {n : Nat} {G : List Nat → Prop} (hG : Grp n G) (h : Moves n G 2) {x y u v : Nat} (hx : x < n) (hy : y < n) (hxy : x ≠ y) (hu : u < n) (hv : v < n) (huv : u ≠ v) : ∃ a, G a ∧ a.getD x 0 = u ∧ a.getD y 0 = v := by
  have h2 : 2 ≤ n := by omega
  obtain ⟨a, a1, a2⟩ := h [x, y] rfl (by simp [hxy]) (by simp [hx, hy])
  obtain ⟨b, b1, b2⟩ := h [u, v] rfl (by simp [huv]) (by simp [hu, hv])
  have pa := hG.isP a a1
  have pb := hG.isP b b1
  have at2 : ∀ {l : List Nat} {p q : Nat}, l.length = n → l.take 2 = [p, q] → l.getD 0 0 = p ∧ l.getD 1 0 = q := by
    intro l p q hl e
    match l, hl, e with
    | a :: b :: l, _, e =>
      simp at e
      exact ⟨e.1, e.2⟩
    | [a], hl, _ => simp at hl; omega
    | [], hl, _ => simp at hl; omega
  obtain ⟨c1, c2⟩ := at2 pa.len a2
  obtain ⟨d1, d2⟩ := at2 pb.len b2
  refine ⟨thenL (invL n a) b, hG.mul _ _ (hG.inv a1) b1, ?_, ?_⟩
  · rw [thenL_at (invL_isP pa).len hx]
    have : (invL n a).getD x 0 = 0 := by rw [← c1, ← thenL_at pa.len (by omega), then_inv pa, idL_at (by omega)]
    rw [this, d1]
  · rw [thenL_at (invL_isP pa).len hy]
    have : (invL n a).getD y 0 = 1 := by rw [← c2, ← thenL_at pa.len (by omega), then_inv pa, idL_at (by omega)]
    rw [this, d2]
/-- What moves two points everywhere keeps no cut but that of all and that of none. -/
theorem Moves.uncut {n : Nat} {G : List Nat → Prop} (hG : Grp n G) (h : Moves n G 2) {c : Nat → Nat} (hk : ∀ a, G a → ∀ x y, x < n → y < n → c x = c y → c (a.getD x 0) = c (a.getD y 0)) {x y : Nat} (hx : x < n) (hy : y < n) (hxy : x ≠ y) (e : c x = c y) :
    ∀ u v, u < n → v < n → c u = c v := by
  intro u v hu hv
  by_cases huv : u = v
  · rw [huv]
  · obtain ⟨a, a1, a2, a3⟩ := h.pair hG hx hy hxy hu hv huv
    rw [← a2, ← a3]
    exact hk a a1 x y hx hy e
/-- What the makers keep, all members keep. -/
theorem gen_keeps {n : Nat} {ms : List (List Nat)} (hm : ∀ m ∈ ms, IsP n m) {c : Nat → Nat} (hk : ∀ m ∈ ms, ∀ x y, x < n → y < n → c x = c y → c (m.getD x 0) = c (m.getD y 0)) {a : List Nat} (ha : Gen n ms a) :
    ∀ x y, x < n → y < n → c x = c y → c (a.getD x 0) = c (a.getD y 0) := by
  induction ha with
  | one => intro x y hx hy e; rw [idL_at hx, idL_at hy]; exact e
  | step a m h1 h2 ih =>
    intro x y hx hy e
    have pa := h1.isP hm
    rw [thenL_at pa.len hx, thenL_at pa.len hy]
    exact hk m h2 _ _ (pa.at hx) (pa.at hy) (ih x y hx hy e)
/-- Centre and commutators are groups. -/
theorem centre_grp {n : Nat} {G : List Nat → Prop} (hG : Grp n G) : Grp n fun a => G a ∧ ∀ b, G b → thenL a b = thenL b a := by
  refine ⟨fun a h => hG.isP a h.1, ⟨hG.one, fun b hb => by rw [id_then (hG.isP b hb).len, then_id (hG.isP b hb)]⟩, fun a b ha hb => ⟨hG.mul a b ha.1 hb.1, fun c hc => ?_⟩⟩
  have pa := hG.isP a ha.1
  have pb := hG.isP b hb.1
  have pc := hG.isP c hc
  rw [then_assoc pa pb.len, hb.2 c hc, ← then_assoc pa pc.len, ha.2 c hc, then_assoc pc pa.len]
/-- What commutes with the makers commutes with all. -/
theorem centre_makers {n : Nat} {ms : List (List Nat)} (hm : ∀ m ∈ ms, IsP n m) {a : List Nat} (ha : IsP n a) : (∀ m ∈ ms, thenL a m = thenL m a) ↔ ∀ b, Gen n ms b → thenL a b = thenL b a := by
  constructor
  · intro h b hb
    induction hb with
    | one => rw [then_id ha, id_then ha.len]
    | step b m h1 h2 ih =>
      have pb := h1.isP hm
      have pm := hm m h2
      rw [← then_assoc ha pb.len, ih, then_assoc pb ha.len, h m h2, ← then_assoc pb pm.len]
  · intro h m hmm
    exact h m (Gen.maker hm hmm)

end Go.Proofs.Ytmaplmgecohjbaa
