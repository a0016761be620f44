/- Matrices of signs as lists, what is wrong with them, Sylvester's and Paley's; nothing of the program. -/
import Derived.Test.YtamdpcajfgbagaaDoorHdP
import Derived.Test.YtamdpcajfgbagaaDoorBPure
/- The blocks of an even matrix of signs are a design; nothing of the program. -/
namespace Go.Proofs.YtamdpcajfgbagaaDoor

theorem sm_front (f : Nat → Int) : ∀ n, sm (n + 1) f = f 0 + sm n fun k => f (k + 1)
  | 0 => by simp [sm]
  | n + 1 => by rw [sm, sm_front f n, sm]; omega
theorem cnt_sm {f : Nat → Int} : ∀ {m : Nat}, (∀ k, k < m → Sg (f k)) → 2 * (((List.range m).countP fun k => f k == 1 : Nat) : Int) = m + sm m f
  | 0, _ => by simp [sm]
  | m + 1, h => by
    have ih := cnt_sm (m := m) fun k hk => h k (by omega)
    rw [List.range_succ, List.countP_append, sm, List.countP_singleton]
    rcases h m (by omega) with e | e <;> rw [e] <;> simp <;> omega
theorem cnt_sm2 {f g : Nat → Int} : ∀ {m : Nat}, (∀ k, k < m → Sg (f k)) → (∀ k, k < m → Sg (g k)) → 4 * (((List.range m).countP fun k => (f k == 1) && (g k == 1) : Nat) : Int) = m + sm m f + sm m g + sm m fun k => f k * g k
  | 0, _, _ => by simp [sm]
  | m + 1, h, h' => by
    have ih := cnt_sm2 (m := m) (fun k hk => h k (by omega)) (fun k hk => h' k (by omega))
    rw [List.range_succ, List.countP_append, sm, sm, sm, List.countP_singleton]
    rcases h m (by omega) with e | e <;> rcases h' m (by omega) with e' | e' <;> rw [e, e'] <;> simp <;> omega
/-- The blocks of an even matrix of the side v + 1. -/
def hbR (v : Nat) (E : Nat → Nat → Int) (i : Nat) : List Nat := (List.range v).filter fun j => E (i + 1) (j + 1) == 1
def hbL (v : Nat) (E : Nat → Nat → Int) : List (List Nat) := (List.range v).map (hbR v E)
section
variable {v t : Nat} {E : Nat → Nat → Int}
theorem hb_size (h : Had (v + 1) E) (r0 : ∀ j, j < v + 1 → E 0 j = 1) (c0 : ∀ i, i < v + 1 → E i 0 = 1) (ht : v + 1 = 4 * t) {i : Nat} (hi : i < v) : (hbR v E i).length = 2 * t - 1 := by
  have e0 : sm (v + 1) (fun k => E (i + 1) k) = 0 := by
    rw [← h.ort (i + 1) 0 (by omega) (by omega) (by omega)]
    exact sm_congr fun k hk => by rw [r0 k hk, Int.mul_one]
  rw [sm_front, c0 (i + 1) (by omega)] at e0
  have c := cnt_sm (f := fun j => E (i + 1) (j + 1)) (m := v) fun k hk => h.one (i + 1) (k + 1) (by omega) (by omega)
  unfold hbR
  rw [← List.countP_eq_length_filter]
  omega
theorem hb_lev (h : Had (v + 1) E) (r0 : ∀ j, j < v + 1 → E 0 j = 1) (c0 : ∀ i, i < v + 1 → E i 0 = 1) (ht : v + 1 = 4 * t) : Lev v (hbL v E) 2 (t - 1) := fun s hs hl => by
  match s, hl with
  | [x, y], _ =>
    have hx : x < v := hs.lt x (by simp)
    have hy : y < v := hs.lt y (by simp)
    have hn : x ≠ y := by
      have := hs.nd
      simp only [List.nodup_cons, List.mem_singleton] at this
      exact this.1
    have col : ∀ p, p < v → sm v (fun i => E (i + 1) (p + 1)) = -1 := fun p hp => by
      have e0 : sm (v + 1) (fun i => E i (p + 1)) = 0 := by
        rw [← h.cols (p := p + 1) (q := 0) (by omega) (by omega) (by omega)]
        exact sm_congr fun i hi => by rw [c0 i hi, Int.mul_one]
      rw [sm_front, r0 (p + 1) (by omega)] at e0
      omega
    have pr : sm v (fun i => E (i + 1) (x + 1) * E (i + 1) (y + 1)) = -1 := by
      have e0 := h.cols (p := x + 1) (q := y + 1) (by omega) (by omega) (by omega)
      rw [sm_front, r0 (x + 1) (by omega), r0 (y + 1) (by omega)] at e0
      omega
    have c := cnt_sm2 (f := fun i => E (i + 1) (x + 1)) (g := fun i => E (i + 1) (y + 1)) (m := v) (fun k hk => h.one (k + 1) (x + 1) (by omega) (by omega)) (fun k hk => h.one (k + 1) (y + 1) (by omega) (by omega))
    rw [col x hx, col y hy, pr] at c
    have e : nb (hbL v E) [x, y] = (List.range v).countP fun k => (E (k + 1) (x + 1) == 1) && (E (k + 1) (y + 1) == 1) := by
      unfold nb hbL
      rw [List.countP_map]
      refine List.countP_congr fun k _ => ?_
      simp [hbR, hx, hy]
    rw [e]
    omega
theorem hb_bls : Bls v (hbL v E) := fun b hb => by
  obtain ⟨i, _, rfl⟩ := List.mem_map.1 hb
  exact ⟨List.nodup_range.filter _, fun x hx => List.mem_range.1 (List.mem_filter.1 hx).1⟩
end

end Go.Proofs.YtamdpcajfgbagaaDoor

namespace Go.Proofs.YtamdpcajfgbagaaDoor

/-- What stands in a row and a column of what stands row by row. -/
def mx (n : Nat) (L : List Int) (i j : Nat) : Int := L.getD (i * n + j) 0
def sgB (x : Int) : Bool := x == 1 || x == -1
theorem sgB_iff {x : Int} : sgB x = true ↔ Sg x := by unfold sgB Sg; simp
theorem sgB_no {x : Int} (h : ¬ Sg x) : sgB x = false := by
  cases e : sgB x
  · rfl
  · exact (h (sgB_iff.1 e)).elim
def sgLB (L : List Int) : Bool := (List.range L.length).all fun j => sgB (L.getD j 0)
theorem sgLB_iff {L : List Int} : sgLB L = true ↔ ∀ j, j < L.length → Sg (L.getD j 0) := by
  unfold sgLB
  rw [List.all_eq_true]
  exact ⟨fun h j hj => sgB_iff.1 (h j (List.mem_range.2 hj)), fun h j hj => sgB_iff.2 (h j (List.mem_range.1 hj))⟩
theorem sgLB_no {L : List Int} {j : Nat} (hj : j < L.length) (h : ¬ Sg (L.getD j 0)) : sgLB L = false := by
  cases e : sgLB L
  · rfl
  · exact (h (sgLB_iff.1 e j hj)).elim
/-- The products of two rows, all together. -/
def rp (n : Nat) (A : Nat → Nat → Int) (i k : Nat) : Int := sm n fun j => A i j * A k j
/-- Of each two rows they are 0. -/
def balB (n : Nat) (A : Nat → Nat → Int) : Bool := (List.range n).all fun i => (List.range i).all fun k => rp n A i k == 0
theorem balB_iff {n : Nat} {A : Nat → Nat → Int} : balB n A = true ↔ ∀ i k, i < n → k < i → rp n A i k = 0 := by
  unfold balB
  rw [List.all_eq_true]
  constructor
  · intro h i k hi hk
    have h1 := h i (List.mem_range.2 hi)
    rw [List.all_eq_true] at h1
    simpa using h1 k (List.mem_range.2 hk)
  · intro h i hi
    rw [List.all_eq_true]
    intro k hk
    simpa using h i k (List.mem_range.1 hi) (List.mem_range.1 hk)
theorem balB_no {n : Nat} {A : Nat → Nat → Int} {i k : Nat} (hi : i < n) (hk : k < i) (h : rp n A i k ≠ 0) : balB n A = false := by
  cases e : balB n A
  · rfl
  · exact (h (balB_iff.1 e i k hi hk)).elim
theorem rp_comm (n : Nat) (A : Nat → Nat → Int) (i k : Nat) : rp n A i k = rp n A k i := sm_congr fun _ _ => Int.mul_comm _ _
theorem had_of {n : Nat} {A : Nat → Nat → Int} (h1 : ∀ i j, i < n → j < n → Sg (A i j)) (h2 : balB n A = true) : Had n A := by
  refine ⟨h1, fun i j hi hj hn => ?_⟩
  rcases Nat.lt_or_gt_of_ne hn with h | h
  · exact (rp_comm n A i j).trans (balB_iff.1 h2 j i hj h)
  · exact balB_iff.1 h2 i j hi h
theorem Had.bal {n : Nat} {A : Nat → Nat → Int} (h : Had n A) : balB n A = true := balB_iff.2 fun i k hi hk => h.ort i k hi (by omega) (by omega)
theorem had_congr {n : Nat} {A B : Nat → Nat → Int} (e : ∀ i j, i < n → j < n → A i j = B i j) (h : Had n A) : Had n B :=
  ⟨fun i j hi hj => by rw [← e i j hi hj]; exact h.one i j hi hj, fun i j hi hj hn => by rw [← h.ort i j hi hj hn]; exact sm_congr fun k hk => by rw [e i k hi hk, e j k hj hk]⟩
theorem exc_congr {n : Nat} {A B : Nat → Nat → Int} (e : ∀ i j, i < n → j < n → A i j = B i j) : exc n A = exc n B := sm_congr fun i hi => sm_congr fun j hj => e i j hi hj
/-- What is wrong with a matrix. -/
def hF (s : Int) (L : List Int) : Nat := if s < 1 ∨ 24 < s then 1 else if (L.length : Int) ≠ s * s then 2 else if sgLB L = false then 1 else if balB s.toNat (mx s.toNat L) then 0 else 4
structure GoodH (n : Nat) (L : List Int) : Prop where
  pos : 0 < n
  le : n ≤ 24
  len : L.length = n * n
  had : Had n (mx n L)
theorem cell_ltH {m n i j : Nat} (hi : i < m) (hj : j < n) : i * n + j < m * n := by
  have : (i + 1) * n ≤ m * n := Nat.mul_le_mul_right n hi
  rw [Nat.add_mul] at this
  omega
theorem GoodH.at {n : Nat} {L : List Int} (h : GoodH n L) {k : Nat} (hk : k < n * n) : Sg (L.getD k 0) := by
  have := h.had.one (k / n) (k % n) (Nat.div_lt_of_lt_mul hk) (Nat.mod_lt _ h.pos)
  unfold mx at this
  rwa [Nat.div_add_mod' k n] at this
theorem hF_far {s : Int} {L : List Int} (h : s < 1 ∨ 24 < s) : hF s L = 1 := by unfold hF; rw [if_pos h]
theorem hF_shape {n : Nat} {L : List Int} (h1 : 1 ≤ n) (h8 : n ≤ 24) (h : L.length ≠ n * n) : hF n L = 2 := by
  unfold hF
  rw [if_neg (by omega), if_pos]
  intro e
  exact h (by exact_mod_cast e)
theorem hF_out {n : Nat} {L : List Int} {j : Nat} (h1 : 1 ≤ n) (h8 : n ≤ 24) (hl : L.length = n * n) (hj : j < n * n) (h : ¬ Sg (L.getD j 0)) : hF n L = 1 := by
  unfold hF
  rw [if_neg (by omega), if_neg (by rw [hl]; simp), if_pos]
  exact sgLB_no (by omega) h
theorem hF_on {n : Nat} {L : List Int} (h1 : 1 ≤ n) (h8 : n ≤ 24) (hl : L.length = n * n) (h : ∀ j, j < n * n → Sg (L.getD j 0)) : hF n L = if balB n (mx n L) then 0 else 4 := by
  unfold hF
  have hn : ((n : Int)).toNat = n := by omega
  rw [if_neg (by omega), if_neg (by rw [hl]; simp), if_neg (by rw [sgLB_iff.2 fun j hj => h j (by omega)]; simp), hn]
theorem hF_good {n : Nat} {L : List Int} (h : GoodH n L) : hF n L = 0 := by
  rw [hF_on h.pos h.le h.len fun j hj => h.at hj, h.had.bal]
  rfl
theorem hF_ok {s : Int} {L : List Int} (h : hF s L = 0) : ∃ n : Nat, s = n ∧ GoodH n L := by
  by_cases h1 : s < 1 ∨ 24 < s
  · rw [hF_far h1] at h; cases h
  · obtain ⟨n, rfl⟩ : ∃ n : Nat, s = n := ⟨s.toNat, by omega⟩
    refine ⟨n, rfl, ?_⟩
    by_cases hl : L.length = n * n
    · by_cases hs : ∀ j, j < n * n → Sg (L.getD j 0)
      · rw [hF_on (by omega) (by omega) hl hs] at h
        have hb : balB n (mx n L) = true := by
          cases e : balB n (mx n L)
          · rw [e] at h; cases h
          · rfl
        exact ⟨by omega, by omega, hl, had_of (fun i j hi hj => hs _ (cell_ltH hi hj)) hb⟩
      · exfalso
        have hs' : ∃ j, j < n * n ∧ ¬ Sg (L.getD j 0) := by
          apply Classical.byContradiction
          intro hc
          exact hs fun j hj => Classical.byContradiction fun hn => hc ⟨j, hj, hn⟩
        obtain ⟨j, hj, hn⟩ := hs'
        rw [hF_out (by omega) (by omega) hl hj hn] at h
        cases h
    · rw [hF_shape (by omega) (by omega) hl] at h; cases h
theorem hF_cases (s : Int) (L : List Int) : hF s L = 0 ∨ hF s L = 1 ∨ hF s L = 2 ∨ hF s L = 4 := by
  unfold hF
  repeat' split
  all_goals simp
/-- Filled row by row. -/
def flI (n : Nat) (t : Nat → Nat → Int) (k : Nat) : List Int := (List.range k).map fun k => t (k / n) (k % n)
@[simp] theorem flI_len (n : Nat) (t : Nat → Nat → Int) (k : Nat) : (flI n t k).length = k := by simp [flI]
theorem flI_at {n : Nat} {t : Nat → Nat → Int} {k m : Nat} (hk : k < m) : (flI n t m).getD k 0 = t (k / n) (k % n) := by simp [flI, hk]
theorem flI_succ {n : Nat} (t : Nat → Nat → Int) {r c : Nat} (hc : c < n) : flI n t (r * n + c + 1) = flI n t (r * n + c) ++ [t r c] := by
  unfold flI
  rw [List.range_succ]
  have := dm n (by omega) (a := r) hc
  simp [this.1, this.2]
theorem flI_mx {n : Nat} {t : Nat → Nat → Int} {i j : Nat} (hi : i < n) (hj : j < n) : mx n (flI n t (n * n)) i j = t i j := by
  unfold mx
  have := dm n (by omega) (a := i) hj
  rw [flI_at (cell_ltH hi hj), this.1, this.2]
theorem flI_good {n : Nat} {t : Nat → Nat → Int} (h1 : 0 < n) (h8 : n ≤ 24) (h : Had n t) : GoodH n (flI n t (n * n)) :=
  ⟨h1, h8, by simp, had_congr (fun i j hi hj => (flI_mx hi hj).symm) h⟩
theorem flI_congr {n : Nat} {s t : Nat → Nat → Int} (h : ∀ i j, i < n → j < n → s i j = t i j) : flI n s (n * n) = flI n t (n * n) := by
  unfold flI
  refine List.map_congr_left fun k hk => ?_
  have hk := List.mem_range.1 hk
  have hn : 0 < n := Nat.pos_of_ne_zero fun e => by subst e; simp at hk
  exact h _ _ (Nat.div_lt_of_lt_mul hk) (Nat.mod_lt _ hn)
theorem flI_self {n : Nat} {L : List Int} (hl : L.length = n * n) : flI n (mx n L) (n * n) = L := by
  apply List.ext_getElem (by simp [hl])
  intro k h1 h2
  have hk : k < n * n := by simpa using h1
  simp only [flI, List.getElem_map, List.getElem_range, mx, Nat.div_add_mod' k n]
  simp [List.getD_eq_getElem?_getD, h2]
/-- All cells together. -/
def smL (L : List Int) : Int := sm L.length fun j => L.getD j 0
theorem smL_exc {n : Nat} {L : List Int} (hl : L.length = n * n) : smL L = exc n (mx n L) := by
  unfold smL exc mx
  rw [hl, sm_split]
theorem sm_abs {f : Nat → Int} : ∀ {n : Nat}, (∀ i, i < n → Sg (f i)) → -(n : Int) ≤ sm n f ∧ sm n f ≤ n
  | 0, _ => by simp [sm]
  | n + 1, h => by
    have ih := sm_abs (n := n) fun i hi => h i (by omega)
    have := h n (by omega)
    rw [sm]
    rcases this with e | e <;> rw [e] <;> omega

/-- Sylvester's. -/
def syF (i j : Nat) : Int := if pc (i &&& j) % 2 = 0 then 1 else -1
theorem syF_sg (i j : Nat) : Sg (syF i j) := by unfold syF Sg; split <;> simp
theorem sy_bal : ∀ k : Fin 5, balB (2 ^ k.val) syF = true := by decide +kernel
theorem sy_had {k : Nat} (hk : k ≤ 4) : Had (2 ^ k) syF := had_of (fun i j _ _ => syF_sg i j) (sy_bal ⟨k, by omega⟩)
theorem sy_dbl : ∀ k : Fin 4, ∀ a : Fin (2 ^ k.val), ∀ b : Fin (2 ^ k.val), syF a.val (2 ^ k.val + b.val) = syF a.val b.val ∧ syF (2 ^ k.val + a.val) b.val = syF a.val b.val ∧ syF (2 ^ k.val + a.val) (2 ^ k.val + b.val) = - syF a.val b.val := by decide +kernel
/-- Paley's. -/
def paS (p : Nat) : List Nat := (List.range p).filter fun x => decide (1 ≤ x) && (List.range p).any fun y => decide (1 ≤ y) && (y * y % p == x)
def paF (p i j : Nat) : Int := if i = 0 ∨ i = j then 1 else if 0 < j ∧ (j + p - i) % p ∈ paS p then 1 else -1
theorem paF_sg (p i j : Nat) : Sg (paF p i j) := by unfold paF Sg; split <;> (try split) <;> simp
def paQ (p : Nat) : Bool := p == 3 || p == 7 || p == 11 || p == 19 || p == 23
theorem pa_bal : ∀ p : Fin 24, paQ p.val = true → balB (p.val + 1) (paF p.val) = true := by decide +kernel
theorem pa_had {p : Nat} (hp : paQ p = true) (h : p ≤ 23) : Had (p + 1) (paF p) := had_of (fun i j _ _ => paF_sg p i j) (pa_bal ⟨p, by omega⟩ hp)
end Go.Proofs.YtamdpcajfgbagaaDoor
