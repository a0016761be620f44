/- What the second seat needs of the first one's texts: all that walks nothing. -/
import Derived.Test.YtcjkcgfohmhbcabW1
import Derived.Test.YtcjkcgfohmhbcabP14
import Derived.Test.YtcjkcgfohmhbcabWdF
import Derived.Test.YtcjkcgfohmhbcabWdP
import Derived.Test.YtcjkcgfohmhbcabWdB
import Derived.Test.YtcjkcgfohmhbcabWdN
import Derived.Test.YtcjkcgfohmhbcabDOw
import Derived.Laws.MakeOwn
namespace Go.Proofs.Ytcjkcgfohmhbcab
open Go.RowKit


/-- What is wrong with a word. -/
def wF (l : List Int) : Nat := if 4096 < l.length then 3 else if (List.range l.length).any (fun i => decide (l.getD i 0 < 0) || decide (9 < l.getD i 0)) = true then 1 else 0
theorem wF_ok {l : List Int} (h : wF l = 0) : l.length ≤ 4096 ∧ ∃ M : List Nat, l = M.map Int.ofNat ∧ ∀ x ∈ M, x ≤ 9 := by
  unfold wF at h
  by_cases h1 : 4096 < l.length
  · rw [if_pos h1] at h; cases h
  rw [if_neg h1] at h
  by_cases h2 : (List.range l.length).any (fun i => decide (l.getD i 0 < 0) || decide (9 < l.getD i 0)) = true
  · rw [if_pos h2] at h; cases h
  have hx : ∀ x ∈ l, 0 ≤ x ∧ x ≤ 9 := fun x hx => by
    obtain ⟨i, hi, e⟩ := List.getElem_of_mem hx
    have hg : l.getD i 0 = x := by rw [List.getD_eq_getElem?_getD, List.getElem?_eq_getElem hi]; exact e
    have h4 : ¬ ((decide (l.getD i 0 < 0) || decide (9 < l.getD i 0)) = true) := fun hh => h2 (List.any_eq_true.2 ⟨i, List.mem_range.2 hi, hh⟩)
    rw [hg] at h4
    simp at h4
    omega
  refine ⟨by omega, l.map Int.toNat, ?_, fun x hm => ?_⟩
  · rw [List.map_map]
    refine ((List.map_congr_left fun x hm => ?_).trans (List.map_id l)).symm
    show ((x.toNat : Nat) : Int) = x
    have := (hx x hm).1
    omega
  · obtain ⟨y, hy, rfl⟩ := List.mem_map.1 hm
    have := hx y hy
    omega
theorem lyB_no {M : List Nat} {i : Nat} (h0 : 0 < i) (hi : i < M.length) (h : ahB M (M.drop i) = false) : lyB M = false := by
  cases e : lyB M with
  | false => rfl
  | true =>
    unfold lyB at e
    rw [Bool.and_eq_true, List.all_eq_true] at e
    have := e.2 i (List.mem_range.2 hi)
    rw [h] at this
    simp at this
    omega
theorem lyB_yes {M : List Nat} (h : ∀ i, 0 < i → i < M.length → ahB M (M.drop i) = true) : lyB M = decide (0 < M.length) := by
  unfold lyB
  have : ((List.range M.length).all fun i => i == 0 || ahB M (M.drop i)) = true := by
    rw [List.all_eq_true]
    intro i hi
    rcases Nat.eq_zero_or_pos i with e | e
    · rw [e]; rfl
    · rw [h i e (List.mem_range.1 hi)]; simp
  rw [this, Bool.and_true]
theorem Wd.drop {w : World} {b o n c : Nat} {M : List Nat} (h : Wd w (.slice (some ⟨b, o, none⟩) n c) M) {i : Nat} (hi : i ≤ n) : Wd w (.slice (some ⟨b, o + i, none⟩) (n - i) (c - i)) (M.drop i) := by
  obtain ⟨a', c', e, h0, hk⟩ := h
  cases e
  refine ⟨_, _, by rw [List.length_drop], by rw [List.length_drop]; omega, fun j hj => ?_⟩
  rw [List.length_drop] at hj
  obtain ⟨b', o', e, hc⟩ := hk (i + j) (by omega)
  cases e
  refine ⟨b, o + i, rfl, ?_⟩
  rw [Nat.add_assoc, hc, List.getD_eq_getElem?_getD, List.getD_eq_getElem?_getD, List.getElem?_drop]
theorem Wd.take {w : World} {b o n c : Nat} {M : List Nat} (h : Wd w (.slice (some ⟨b, o, none⟩) n c) M) {i : Nat} (hi : i ≤ n) : Wd w (.slice (some ⟨b, o, none⟩) i c) (M.take i) := by
  obtain ⟨a', c', e, h0, hk⟩ := h
  cases e
  have hl : (M.take i).length = i := by rw [List.length_take]; omega
  refine ⟨_, c, by rw [hl], by rw [hl]; omega, fun j hj => ?_⟩
  rw [hl] at hj
  obtain ⟨b', o', e, hc⟩ := hk j (by omega)
  cases e
  refine ⟨b, o, rfl, ?_⟩
  rw [hc, List.getD_eq_getElem?_getD, List.getD_eq_getElem?_getD, List.getElem?_take, if_pos hj]
theorem Wd.some {w : World} {v : Value} {M : List Nat} (h : Wd w v M) (h0 : 0 < M.length) : ∃ b o c, v = .slice (some ⟨b, o, none⟩) M.length c ∧ M.length ≤ c := by
  obtain ⟨a, c, rfl, h1, hk⟩ := h
  obtain ⟨b, o, rfl, _⟩ := hk 0 h0
  exact ⟨b, o, c, rfl, h1⟩

theorem own_form {w : World} {base n : Nat} {e : TypeId} {v : Value} {xs : List Value} (h : w.ownsRow base e 1 v n xs) : ∃ a c, v = .slice a n c := by
  obtain ⟨_, ⟨rfl, rfl⟩ | ⟨g, cap, cur, rfl, _⟩⟩ := h
  · exact ⟨_, _, rfl⟩
  · exact ⟨_, _, rfl⟩
/-- The numbers of a row of one's own. -/
def nz (l : List Nat) : List Value := (l.map Int.ofNat).map (Value.int .i64)
theorem nz_more (l : List Nat) (x : Nat) : nz (l ++ [x]) = nz l ++ [.int .i64 (x : Int)] := by simp [nz]
/-- How long the pieces are. -/
def facL (w : List Nat) : List Nat := (fcP w.length w).map List.length
theorem fcP_fuel {f : Nat} {w : List Nat} (h : w.length ≤ f) : fcP f w = fcP w.length w := fcP_one (fcP_fal f w h) (fcP_flat f w h)
theorem facL_nil : facL [] = [] := rfl
theorem facL_step {w : List Nat} (h : 0 < w.length) : facL w = lgL w w.length :: facL (w.drop (lgL w w.length)) := by
  have hg := lgL_is w w.length (Nat.le_refl _) h
  obtain ⟨n, hn⟩ : ∃ n, w.length = n + 1 := ⟨w.length - 1, by omega⟩
  have e : fcP w.length w = w.take (lgL w w.length) :: fcP n (w.drop (lgL w w.length)) := by
    conv => lhs; rw [hn, fcP, if_neg (by omega)]
  unfold facL
  rw [e, List.map_cons, List.length_take, fcP_fuel (by rw [List.length_drop]; omega)]
  congr 1
  omega
theorem facL_len (w : List Nat) : (facL w).length ≤ w.length := by
  have key : ∀ (f : Nat) (w : List Nat), w.length ≤ f → (fcP f w).length ≤ w.length := by
    intro f
    induction f with
    | zero => intro w _; simp [fcP]
    | succ f ih =>
      intro w hw
      unfold fcP
      split
      · simp
      · rename_i h0
        have hg := lgL_is w w.length (Nat.le_refl _) (by omega)
        have := ih (w.drop (lgL w w.length)) (by rw [List.length_drop]; omega)
        rw [List.length_drop] at this
        rw [List.length_cons]
        omega
  unfold facL
  rw [List.length_map]
  exact key _ w (Nat.le_refl _)
theorem Wd.drop' {w : World} {b o n c : Nat} {M : List Nat} (h : Wd w (.slice (Option.some ⟨b, o, none⟩) n c) M) {i : Nat} (hi : i ≤ n) : Wd w (.slice (if c = i then Option.some ⟨b, o, none⟩ else Option.some ⟨b, o + i, none⟩) (n - i) (c - i)) (M.drop i) := by
  by_cases e : c = i
  · rw [if_pos e]
    obtain ⟨a', c', e2, h0, hk⟩ := h
    cases e2
    have hl : (M.drop i).length = M.length - i := by rw [List.length_drop]
    refine ⟨_, _, by rw [hl], by rw [hl]; omega, fun j hj => ?_⟩
    rw [hl] at hj
    omega
  · rw [if_neg e]
    exact h.drop hi
def slLen : Value → Nat
  | .slice _ n _ => n
  | _ => 0
theorem newCell (w : World) (x : Int) : ∀ j u, ([.int .i64 x] : List Value)[j]? = some u → (w.alloc (.cells #[.int .i64 x] 3)).drew.cell? ((⟨w.heap.size, 0, none⟩ : Addr).add j) = some u := fun j u hj => by
  match j, hj with
  | 0, hj => simp at hj; subst hj; simp [Addr.add]
theorem own_cells {w : World} {base n : Nat} {v : Value} {L : List Nat} (h : w.ownsRow base 3 1 v n (nz L)) (h0 : 0 < n) : ∃ g cap, v = .slice (some ⟨g, 0, none⟩) n cap ∧ base ≤ g ∧ n = L.length ∧ ∀ j, j < n → w.cell? ⟨g, j, none⟩ = some (.int .i64 ((L.getD j 0 : Nat) : Int)) := by
  have hl : n = L.length := by have := h.1; simp [nz] at this; omega
  obtain ⟨g, cap, rfl, hb, cur, hg, hc⟩ := Own.of (l := L.map Int.ofNat) h h0
  exact ⟨g, cap, rfl, hb, hl, fun j hj => by rw [cell_of_row _ _ _ _ _ _ hg, hc j hj]; show some (Value.int .i64 ((L.map Int.ofNat).getD j 0)) = _; rw [nat_at]⟩
/-- Gray's numbers. -/
def grL : Nat → List Nat
  | 0 => [0]
  | i + 1 => grL i ++ (grL i).reverse.map fun x => x + 2 ^ i
theorem grL_len : ∀ i, (grL i).length = 2 ^ i
  | 0 => rfl
  | i + 1 => by
    unfold grL
    rw [List.length_append, List.length_map, List.length_reverse, grL_len i, Nat.pow_succ]
    omega
theorem grL_lt : ∀ i, ∀ x ∈ grL i, x < 2 ^ i
  | 0, x, h => by simp [grL] at h; subst h; decide
  | i + 1, x, h => by
    unfold grL at h
    rw [Nat.pow_succ]
    rcases List.mem_append.1 h with h | h
    · have := grL_lt i x h; omega
    · obtain ⟨y, hy, rfl⟩ := List.mem_map.1 h
      have := grL_lt i y (List.mem_reverse.1 hy)
      omega
/-- So many of the other half laid. -/
def grS (i m : Nat) : List Nat := grL i ++ ((grL i).reverse.take m).map fun x => x + 2 ^ i
theorem grS_zero (i : Nat) : grS i 0 = grL i := by unfold grS; simp
theorem grS_all (i : Nat) : grS i (2 ^ i) = grL (i + 1) := by
  unfold grS
  rw [List.take_of_length_le (by rw [List.length_reverse, grL_len]; exact Nat.le_refl _)]
  rfl
theorem grS_len {i m : Nat} (h : m ≤ 2 ^ i) : (grS i m).length = 2 ^ i + m := by
  unfold grS
  rw [List.length_append, List.length_map, List.length_take, List.length_reverse, grL_len]
  omega
theorem grS_more {i m : Nat} (h : m < 2 ^ i) : grS i (m + 1) = grS i m ++ [(grL i).getD (2 ^ i - 1 - m) 0 + 2 ^ i] := by
  unfold grS
  have hl : m < (grL i).reverse.length := by rw [List.length_reverse, grL_len]; exact h
  rw [List.take_add_one, List.getElem?_eq_getElem hl, List.map_append, List.append_assoc, List.getElem_reverse]
  have h2 : 2 ^ i - 1 - m < (grL i).length := by rw [grL_len]; omega
  rw [List.getD_eq_getElem?_getD, List.getElem?_eq_getElem h2]
  simp [grL_len]
theorem grS_at {i m j : Nat} (h : j < 2 ^ i) : (grS i m).getD j 0 = (grL i).getD j 0 := by
  unfold grS
  rw [List.getD_eq_getElem?_getD, List.getD_eq_getElem?_getD, List.getElem?_append_left (by rw [grL_len]; exact h)]
def grE (n : Int) : Nat := if n < 0 ∨ 12 < n then 1 else 0
def grZ (n : Int) : List Nat := if n < 0 ∨ 12 < n then [] else grL n.toNat

def prE (k n : Int) : Nat := if k < 1 ∨ n < 1 ∨ 60 < n then 1 else if 1000000000000000000 < k.toNat ^ n.toNat then 3 else 0
theorem mbF_end {f p n : Nat} {m : Int} (h : n < p) : mbF f p n m = m := by
  cases f with
  | zero => rfl
  | succ f => show (if n < p then m else _) = _; rw [if_pos h]
theorem mbF_no {f p n : Nat} {m : Int} (h : ¬ n < p) (h2 : ¬ n % p = 0) : mbF (f + 1) p n m = mbF f (p + 1) n m := by
  show (if n < p then m else if n % p = 0 then (if (n / p) % p = 0 then 0 else mbF f (p + 1) (n / p) (-m)) else mbF f (p + 1) n m) = _
  rw [if_neg h, if_neg h2]
theorem mbF_yes {f p n : Nat} {m : Int} (h : ¬ n < p) (h2 : n % p = 0) : mbF (f + 1) p n m = if (n / p) % p = 0 then 0 else mbF f (p + 1) (n / p) (-m) := by
  show (if n < p then m else if n % p = 0 then (if (n / p) % p = 0 then 0 else mbF f (p + 1) (n / p) (-m)) else mbF f (p + 1) n m) = _
  rw [if_neg h, if_pos h2]
theorem mbF_le : ∀ (f p n : Nat) (m : Int), -1 ≤ m → m ≤ 1 → -1 ≤ mbF f p n m ∧ mbF f p n m ≤ 1
  | 0, _, _, m, h1, h2 => ⟨h1, h2⟩
  | f + 1, p, n, m, h1, h2 => by
    have e : mbF (f + 1) p n m = if n < p then m else if n % p = 0 then (if (n / p) % p = 0 then 0 else mbF f (p + 1) (n / p) (-m)) else mbF f (p + 1) n m := rfl
    rw [e]
    split
    · exact ⟨h1, h2⟩
    · split
      · split
        · exact ⟨by decide, by decide⟩
        · exact mbF_le f _ _ _ (by omega) (by omega)
      · exact mbF_le f _ _ _ h1 h2

theorem mbN_le (n : Nat) : -1 ≤ mbN n ∧ mbN n ≤ 1 := mbF_le n 2 n 1 (by decide) (by decide)
theorem mul_le1 {m : Int} (p : Nat) (h1 : -1 ≤ m) (h2 : m ≤ 1) : -(p : Int) ≤ m * (p : Int) ∧ m * (p : Int) ≤ p := by
  rcases (show m = -1 ∨ m = 0 ∨ m = 1 by omega) with rfl | rfl | rfl
  · rw [show (-1 : Int) * (p : Int) = -(p : Int) by omega]; omega
  · rw [Int.zero_mul]; omega
  · rw [Int.one_mul]; omega
theorem psZ_no {k n D : Nat} (h1 : 1 ≤ D) (h : ¬ n % D = 0) : psZ k n D = psZ k n (D - 1) := by
  obtain ⟨j, rfl⟩ : ∃ j, D = j + 1 := ⟨D - 1, by omega⟩
  show (if n % (j + 1) = 0 then psZ k n j + mbN (n / (j + 1)) * ((k ^ (j + 1) : Nat) : Int) else psZ k n j) = _
  rw [if_neg h, Nat.add_sub_cancel]
theorem psZ_yes {k n D : Nat} (h1 : 1 ≤ D) (h : n % D = 0) : psZ k n D = psZ k n (D - 1) + mbN (n / D) * ((k ^ D : Nat) : Int) := by
  obtain ⟨j, rfl⟩ : ∃ j, D = j + 1 := ⟨D - 1, by omega⟩
  show (if n % (j + 1) = 0 then psZ k n j + mbN (n / (j + 1)) * ((k ^ (j + 1) : Nat) : Int) else psZ k n j) = _
  rw [if_pos h, Nat.add_sub_cancel]
theorem half_le {D n : Nat} (h : n % D = 0) (h1 : 1 ≤ D) (h2 : D < n) : D ≤ n / 2 := by
  have e : D * (n / D) = n := by have := Nat.div_add_mod n D; rw [h] at this; exact this
  generalize n / D = q at e
  have h3 : 2 ≤ q := by
    rcases Nat.lt_or_ge q 2 with h4 | h4
    · have : q = 0 ∨ q = 1 := by omega
      rcases this with rfl | rfl <;> omega
    · exact h4
  have h5 : D * 2 ≤ D * q := Nat.mul_le_mul_left D h3
  omega
theorem psZ_half {k n : Nat} (hk : 1 ≤ k) : ∀ j, j < n → -((j * k ^ (n / 2) : Nat) : Int) ≤ psZ k n j ∧ psZ k n j ≤ ((j * k ^ (n / 2) : Nat) : Int)
  | 0, _ => ⟨by show _ ≤ (0 : Int); omega, by show (0 : Int) ≤ _; omega⟩
  | j + 1, hj => by
    obtain ⟨h1, h2⟩ := psZ_half (n := n) hk j (by omega)
    have e : (j + 1) * k ^ (n / 2) = j * k ^ (n / 2) + k ^ (n / 2) := Nat.succ_mul _ _
    by_cases hd : n % (j + 1) = 0
    · rw [psZ_yes (by omega) hd, Nat.add_sub_cancel, e]
      have h3 : k ^ (j + 1) ≤ k ^ (n / 2) := Nat.pow_le_pow_right hk (half_le (D := j + 1) (n := n) hd (by omega) hj)
      obtain ⟨h4, h5⟩ := mul_le1 (k ^ (j + 1)) (mbN_le (n / (j + 1))).1 (mbN_le (n / (j + 1))).2
      generalize mbN (n / (j + 1)) * ((k ^ (j + 1) : Nat) : Int) = x at *
      generalize k ^ (j + 1) = a at *
      generalize j * k ^ (n / 2) = b at *
      omega
    · rw [psZ_no (by omega) hd, Nat.add_sub_cancel, e]
      generalize j * k ^ (n / 2) = b at *
      omega
theorem root_le {k n : Nat} (hk : 1 ≤ k) (h : k ^ n ≤ 1000000000000000000) : k ^ (n / 2) ≤ 1000000000 := by
  rcases Nat.lt_or_ge 1000000000 (k ^ (n / 2)) with h1 | h1
  · exfalso
    have h2 : 1000000001 * 1000000001 ≤ k ^ (n / 2) * k ^ (n / 2) := Nat.mul_le_mul h1 h1
    rw [← Nat.pow_add] at h2
    have h3 : k ^ (n / 2 + n / 2) ≤ k ^ n := Nat.pow_le_pow_right hk (by omega)
    omega
  · exact h1
/-- The sums stay small. -/
theorem psZ_small {k n : Nat} (hk : 1 ≤ k) (hn : 1 ≤ n) (hn6 : n ≤ 60) (h : k ^ n ≤ 1000000000000000000) (j : Nat) (hj : j ≤ n) :
    -1100000000000000000 ≤ psZ k n j ∧ psZ k n j ≤ 1100000000000000000 := by
  have hr := root_le hk h
  have hb : ∀ i, i ≤ 60 → i * k ^ (n / 2) ≤ 60 * 1000000000 := fun i hi => Nat.mul_le_mul hi hr
  rcases Nat.lt_or_ge j n with h1 | h1
  · obtain ⟨h2, h3⟩ := psZ_half hk j h1
    have := hb j (by omega)
    generalize j * k ^ (n / 2) = b at *
    omega
  · obtain rfl : j = n := by omega
    obtain ⟨h2, h3⟩ := psZ_half (n := j) hk (j - 1) (by omega)
    have := hb (j - 1) (by omega)
    rw [psZ_yes hn (Nat.mod_self j)]
    obtain ⟨h4, h5⟩ := mul_le1 (k ^ j) (mbN_le (j / j)).1 (mbN_le (j / j)).2
    generalize mbN (j / j) * ((k ^ j : Nat) : Int) = x at *
    generalize (j - 1) * k ^ (j / 2) = b at *
    omega
theorem tdiv_small {s : Int} {n : Nat} {B : Int} (h1 : -B ≤ s) (h2 : s ≤ B) : -B ≤ s.tdiv n ∧ s.tdiv n ≤ B := by
  have h3 : (s.tdiv n).natAbs ≤ s.natAbs := by rw [Int.natAbs_tdiv]; exact Nat.div_le_self _ _
  omega
def bfE (k n : Int) : Nat := if k < 1 ∨ 10 < k ∨ n < 1 then 1 else if 12 < n ∨ 4096 < k.toNat ^ n.toNat then 3 else 0

def updV {T : Type} (f : Nat → T) (i : Nat) (v : T) : Nat → T := fun j => if j = i then v else f j
/-- Block g is a row of one's own whose first n values are f's. -/
def OwV {T : Type} (t : TypeId) (en : T → Value) (w : World) (g n : Nat) (f : Nat → T) : Prop := ∃ cur, w.heap[g]? = some (.cells cur t (0, 0)) ∧ ∀ j, j < n → cur[j]? = some (en (f j))
theorem OwV.lt {T : Type} {t : TypeId} {en : T → Value} {w : World} {g n : Nat} {f : Nat → T} (h : OwV t en w g n f) : g < w.heap.size := by
  obtain ⟨cur, h, _⟩ := h
  exact (Array.getElem?_eq_some_iff.1 h).1
theorem OwV.cell {T : Type} {t : TypeId} {en : T → Value} {w : World} {g n : Nat} {f : Nat → T} (h : OwV t en w g n f) (j : Nat) (hj : j < n) : w.cell? ⟨g, j, none⟩ = some (en (f j)) := by
  obtain ⟨cur, h, hc⟩ := h
  rw [cell_of_row w g j _ _ _ h, hc j hj]
theorem OwV.frozen {T : Type} {t : TypeId} {en : T → Value} {w : World} {g n : Nat} {f : Nat → T} (h : OwV t en w g n f) (j : Nat) : w.frozen? ⟨g, j, none⟩ = false := by
  obtain ⟨cur, h, _⟩ := h
  exact frozen_of_row w g j _ _ h
theorem OwV.set {T : Type} {t : TypeId} {en : T → Value} {w : World} {g n : Nat} {f : Nat → T} (h : OwV t en w g n f) (i : Nat) (v : T) : OwV t en (w.setCell ⟨g, i, none⟩ (en v)) g n (updV f i v) := by
  obtain ⟨cur, h, hc⟩ := h
  refine ⟨_, heap_setCell_same w g i _ _ _ h, fun j hj => ?_⟩
  have hcj := hc j hj
  have hlt : j < cur.size := (Array.getElem?_eq_some_iff.1 hcj).1
  rw [Array.getElem?_setIfInBounds]
  by_cases e : i = j
  · subst e; rw [if_pos rfl, if_pos hlt]; simp [updV]
  · rw [if_neg e, hcj]; simp [updV, Ne.symm e]
theorem OwV.below {T : Type} {t : TypeId} {en : T → Value} {w w' : World} {g n : Nat} {f : Nat → T} (h : OwV t en w g n f) (hb : Below w.heap.size w w') : OwV t en w' g n f := by
  have hl := h.lt
  obtain ⟨cur, h, hc⟩ := h
  exact ⟨cur, (hb.block g hl).trans h, hc⟩
theorem OwV.congr {T : Type} {t : TypeId} {en : T → Value} {w : World} {g n : Nat} {f f' : Nat → T} (h : OwV t en w g n f) (e : ∀ j, j < n → f j = f' j) : OwV t en w g n f' := by
  obtain ⟨cur, h, hc⟩ := h
  exact ⟨cur, h, fun j hj => by rw [hc j hj, e j hj]⟩
theorem OwV.other {T : Type} {t : TypeId} {en : T → Value} {w : World} {g n : Nat} {f : Nat → T} (h : OwV t en w g n f) (a : Addr) (v : Value) (hne : g ≠ a.block) : OwV t en (w.setCell a v) g n f := by
  obtain ⟨cur, h, hc⟩ := h
  exact ⟨cur, (heap_setCell_other w a g v hne).trans h, hc⟩
theorem OwV.made {T : Type} {t : TypeId} {en : T → Value} (n : Nat) (w : World) (f : Nat → T) (z : Value) (hz : ∀ {j}, z = en (f j)) : OwV t en (w.alloc (.cells (madeCells #[z] n) t)) w.heap.size n f :=
  ⟨_, heap_alloc_new w _, fun j hj => by simp only [madeCells, Array.getElem?_map, Array.getElem?_range, hj, if_true, Option.map_some]; rw [← hz]; simp [Nat.mod_one]⟩
theorem OwV.low {T : Type} {t : TypeId} {en : T → Value} {w w' : World} {B g n : Nat} {f : Nat → T} (h : OwV t en w g n f) (hb : Below B w w') (hg : g < B) : OwV t en w' g n f := by
  obtain ⟨cur, h, hc⟩ := h
  exact ⟨cur, (hb.block g hg).trans h, hc⟩
theorem newCellZ (w : World) (n : Nat) (x : Int) (h : n = w.heap.size) : (w.alloc (.cells #[.int .i64 x] 3)).cell? ⟨n, 0, none⟩ = some (.int .i64 x) := by subst h; simp
theorem own_up {w : World} {b b' : Nat} {e : TypeId} {size : Nat} {v : Value} {n : Nat} {xs : List Value} (h : w.ownsRow b e size v n xs) (hb : b' ≤ b) : w.ownsRow b' e size v n xs := by
  obtain ⟨h1, h2⟩ := h
  refine ⟨h1, ?_⟩
  rcases h2 with h2 | ⟨g, cap, cur, r1, r2, r3⟩
  · exact .inl h2
  · exact .inr ⟨g, cap, cur, r1, by omega, r3⟩
theorem und44 : Try.prog.underlying 27 = some (.slice 4) := by kernel_rfl
theorem info4 : ∃ i, Try.prog.info? 4 = some i ∧ i.zero = some (.bool false) ∧ i.size = 1 ∧ i.bytes = 1 := by
  refine ⟨_, rfl, ?_, ?_, ?_⟩ <;> kernel_rfl
theorem run_makeB (n : Nat) (hn : n ≤ 100000) (w : World) : (Instr.makeSlice 27 (.int .i64 (n : Int)) (.int .i64 (n : Int))).run Try.prog w = .ok (.slice (some ⟨w.heap.size, 0, none⟩) n n) (w.alloc (.cells (madeCells #[.bool false] n) 4)) := by
  obtain ⟨i4, hi, hz0, hz1, hz2⟩ := info4
  have h := run_make (P := Try.prog) w 27 4 i4 (.bool false) und44 hi hz0 .i64 .i64 n n (by omega) (by omega) (by rw [hz2]; omega) (by omega)
  simpa [hz1, Value.cells] using h
theorem bru_step {k A i c s : Nat} (h : frX k A c s k 0 < k) : bru k A (i + 1) c s = frX k A c s k 0 :: bru k A i ((c * k + frX k A c s k 0) % A) (s ||| 1 <<< ((c * k + frX k A c s k 0) % A)) := by
  conv => lhs; unfold bru
  rw [if_pos h]
theorem bit_set (s c : Nat) : updV s.testBit c true = (s ||| 1 <<< c).testBit := by
  funext j
  unfold updV
  rw [Nat.testBit_or, Nat.testBit_shiftLeft]
  by_cases e : j = c
  · subst e; simp
  · rw [if_neg e]
    have h1 : ∀ m, Nat.testBit 1 m = decide (m = 0) := fun m => by
      cases m with
      | zero => rfl
      | succ m => rw [Nat.testBit_succ, show (1 : Nat) / 2 = 0 from rfl, Nat.zero_testBit]; rfl
    rw [h1]
    by_cases h : j ≥ c
    · have : ¬ j - c = 0 := by omega
      simp [this]
    · simp [h]

/-- The last place whose number can be raised. -/
def nxI (k : Int) (M : List Nat) : Nat → Option Nat
  | 0 => none
  | i + 1 => if ((M.getD i 0 : Nat) : Int) + 1 < k then some i else nxI k M i
def nxZ (k : Int) (M : List Nat) : List Nat := match nxI k M M.length with
  | none => []
  | some i => M.take i ++ [M.getD i 0 + 1]
def nxE (k : Int) (M : List Nat) : Nat := if (nxI k M M.length).isSome then 0 else 4
theorem nxI_is {k : Int} {M : List Nat} : ∀ {n i : Nat}, nxI k M n = some i → i < n ∧ ((M.getD i 0 : Nat) : Int) + 1 < k ∧ ∀ j, i < j → j < n → ¬ ((M.getD j 0 : Nat) : Int) + 1 < k
  | 0, i, h => by cases h
  | n + 1, i, h => by
    unfold nxI at h
    by_cases hk : ((M.getD n 0 : Nat) : Int) + 1 < k
    · rw [if_pos hk] at h
      cases h
      exact ⟨Nat.lt_succ_self _, hk, fun j h1 h2 => by omega⟩
    · rw [if_neg hk] at h
      obtain ⟨h1, h2, h3⟩ := nxI_is h
      refine ⟨by omega, h2, fun j h4 h5 => ?_⟩
      by_cases e : j = n
      · rw [e]; exact hk
      · exact h3 j h4 (by omega)
theorem split_at {M : List Nat} {i : Nat} (hi : i < M.length) : M = M.take i ++ M.getD i 0 :: M.drop (i + 1) := by
  conv => lhs; rw [← List.take_append_drop i M]
  rw [List.drop_eq_getElem_cons hi, List.getD_eq_getElem?_getD, List.getElem?_eq_getElem hi]
  rfl
theorem nx_lyn {k : Int} {M : List Nat} {n i : Nat} (hM : Lyn M) (hn : n ≤ M.length) (h : nxI k M n = some i) : Lyn (M.take i ++ [M.getD i 0 + 1]) := by
  obtain ⟨h1, h2, _⟩ := nxI_is h
  rw [split_at (M := M) (i := i) (by omega)] at hM
  exact Lyn.up hM (Nat.lt_succ_self _)
theorem nx_behind {k : Int} {M : List Nat} {n i : Nat} (hn : n ≤ M.length) (h : nxI k M n = some i) : Ah M (M.take i ++ [M.getD i 0 + 1]) := by
  obtain ⟨h1, h2, _⟩ := nxI_is h
  have := up_behind (M.take i) (M.drop (i + 1)) (M.getD i 0)
  rw [← split_at (M := M) (i := i) (by omega)] at this
  exact this
theorem Wd.news {w : World} {b o n c : Nat} {M : List Nat} (h : Wd w (.slice (Option.some ⟨b, o, none⟩) n c) M) : ∀ j u, (nz M)[j]? = Option.some u → w.cell? ((⟨b, o, none⟩ : Addr).add j) = Option.some u := fun j u hj => by
  obtain ⟨a', c', e, -, hcell⟩ := h
  cases e
  have hjl : j < M.length := by
    have := (List.getElem?_eq_some_iff.1 hj).1
    simpa [nz] using this
  obtain ⟨b', o', e, hci⟩ := hcell j hjl
  cases e
  have e2 : ((⟨b, o, none⟩ : Addr).add j) = ⟨b, o + j, none⟩ := by simp [Addr.add]
  rw [e2, hci, ← hj]
  simp [nz, hjl]
theorem nz_one (L : List Nat) : ∀ u ∈ nz L, u.oneCell' = true := fun u hu => by
  obtain ⟨x, -, rfl⟩ := List.mem_map.1 hu
  rfl
theorem ORow.own {w : World} {base : Nat} {v : Value} {M : List Nat} (h : ORow w base v M) : Wd w v M := by
  rcases Nat.eq_zero_or_pos M.length with h0 | h0
  · have e : M = [] := List.length_eq_zero_iff.1 h0
    subst e
    obtain ⟨a, c, rfl⟩ := own_form h
    exact ⟨a, c, rfl, Nat.zero_le _, fun j hj => absurd hj (Nat.not_lt_zero j)⟩
  · obtain ⟨g, cap, rfl, -, -, hc⟩ := own_cells (L := M) h h0
    refine ⟨_, cap, rfl, ?_, fun j hj => ⟨g, 0, rfl, by rw [Nat.zero_add]; exact hc j hj⟩⟩
    obtain ⟨-, h2 | ⟨g', cap', cur, h3, -, -, h5, -⟩⟩ := h
    · cases h2.1
    · cases h3
      omega
end Go.Proofs.Ytcjkcgfohmhbcab
