/- What chapter 2's texts tell, as TopRows asks it. -/
import Derived.Test.YtcjkcgfohmhbcabDoorRFul
import Derived.Test.YtcjkcgfohmhbcabDoorRBM
import Derived.Test.YtcjkcgfohmhbcabDoorTQ
import Derived.Test.YtcjkcgfohmhbcabDoorR16
import Derived.Test.YtcjkcgfohmhbcabDoorR27
import Derived.Laws.CopyOwn
import Derived.Test.YtcjkcgfohmhbcabDoorR28
import Derived.Test.YtcjkcgfohmhbcabDoorR30
import Derived.Test.YtcjkcgfohmhbcabDoorR14
/- The law TopRows over contracts. -/
/- Rows of the longest period with one 0 more: each list stands once; and their taps are the only ones. Plain words. -/
namespace Go.Proofs.YtcjkcgfohmhbcabDoor.Rc

/-- The code of a list, its first number the highest. -/
def cdH (p : Int) (f : Nat → Int) : Nat → Int
  | 0 => 0
  | k + 1 => cdH p f k * p + f k
theorem cdH_bd {p : Int} {f : Nat → Int} (hp : 2 ≤ p) (h : digs p f) : ∀ k, 0 ≤ cdH p f k ∧ cdH p f k < p ^ k
  | 0 => ⟨Int.le_refl _, by show (0 : Int) < p ^ 0; simp⟩
  | k + 1 => by
    obtain ⟨h1, h2⟩ := cdH_bd hp h k
    obtain ⟨h3, h4⟩ := h k
    show 0 ≤ cdH p f k * p + f k ∧ cdH p f k * p + f k < p ^ (k + 1)
    have h5 : 0 ≤ cdH p f k * p := Int.mul_nonneg h1 (by omega)
    have h6 : (cdH p f k + 1) * p ≤ p ^ k * p := Int.mul_le_mul_of_nonneg_right (by omega) (by omega)
    rw [Int.add_mul, Int.one_mul] at h6
    rw [Int.pow_succ]
    omega
theorem cdH_inj {p : Int} (hp : 2 ≤ p) {f g : Nat → Int} (hf : digs p f) (hg : digs p g) : ∀ k, cdH p f k = cdH p g k → ∀ j, j < k → f j = g j
  | 0, _, j, hj => absurd hj (Nat.not_lt_zero j)
  | k + 1, e, j, hj => by
    have e : cdH p f k * p + f k = cdH p g k * p + g k := e
    obtain ⟨a1, a2⟩ := hf k
    obtain ⟨b1, b2⟩ := hg k
    have m1 : f k = g k := by
      have h1 : (cdH p f k * p + f k) % p = f k := by rw [Int.add_comm, Int.add_mul_emod_self_right]; exact Int.emod_eq_of_lt a1 a2
      have h2 : (cdH p g k * p + g k) % p = g k := by rw [Int.add_comm, Int.add_mul_emod_self_right]; exact Int.emod_eq_of_lt b1 b2
      rw [← h1, ← h2, e]
    have m2 : cdH p f k = cdH p g k := Int.eq_of_mul_eq_mul_right (show p ≠ 0 by omega) (by omega)
    by_cases h : j = k
    · rw [h]; exact m1
    · exact cdH_inj hp hf hg k m2 j (by omega)
/-- The row with one 0 ahead of it. -/
def fuR (p : Int) (T : List Int) (k i : Nat) : Int := if i = 0 then 0 else rowN p T (seedL k) (i - 1)
theorem row_nought {p : Int} {T : List Int} {k i : Nat} (h : i + 1 < k) : rowN p T (seedL k) i = 0 := by
  rw [rowN_seed (by rw [seedL_len]; omega), seedL_at (by omega), if_neg (by omega)]
theorem row_one {p : Int} {T : List Int} {k : Nat} (h : 1 ≤ k) : rowN p T (seedL k) (k - 1) = 1 := by
  rw [rowN_seed (by rw [seedL_len]; omega), seedL_at (by omega), if_pos rfl]
/-- One period on the row is the same. -/
theorem row_again {p : Int} {T : List Int} {k Q : Nat} (hp : 2 ≤ p) (hl : T.length = k) (hper : PerIs (winN p T (seedL k)) 0 (Q - 1)) (hs : belB p (seedL k) = true) {j : Nat} (hj : j < k) : rowN p T (seedL k) (Q - 1 + j) = rowN p T (seedL k) j := by
  obtain ⟨_, h2, _⟩ := hper
  rw [Nat.zero_add] at h2
  have := numP_inj hp T.length (row_digs (taps := T) hp hs 0) (row_digs (taps := T) hp hs (Q - 1)) h2 j (by omega)
  rw [Nat.zero_add] at this
  exact this.symm
/-- Where a list of the longer row stands in the row itself. -/
theorem fuR_win {p : Int} {T : List Int} {k Q : Nat} (hp : 2 ≤ p) (hl : T.length = k) (hQ : k < Q) (hper : PerIs (winN p T (seedL k)) 0 (Q - 1)) (hs : belB p (seedL k) = true) {i j : Nat} (hi : 1 ≤ i) (hiQ : i < Q) (hj : j < k) :
    fuR p T k ((i + j) % Q) = rowN p T (seedL k) (i - 1 + j) := by
  rcases Nat.lt_or_ge (i + j) Q with h | h
  · rw [Nat.mod_eq_of_lt h]
    unfold fuR
    rw [if_neg (by omega), show i + j - 1 = i - 1 + j by omega]
  · rw [Nat.mod_eq_sub_mod h, Nat.mod_eq_of_lt (by omega)]
    have e : i - 1 + j = Q - 1 + (i + j - Q) := by omega
    rw [e, row_again hp hl hper hs (by omega), row_nought (by omega)]
    unfold fuR
    by_cases h0 : i + j - Q = 0
    · rw [if_pos h0]
    · rw [if_neg h0, row_nought (by omega)]
theorem fuR_first {p : Int} {T : List Int} {k Q : Nat} (hQ : k < Q) {j : Nat} (hj : j < k) : fuR p T k ((0 + j) % Q) = 0 := by
  rw [Nat.zero_add, Nat.mod_eq_of_lt (by omega)]
  unfold fuR
  by_cases h0 : j = 0
  · rw [if_pos h0]
  · rw [if_neg h0, row_nought (by omega)]
theorem fuR_digs {p : Int} {T : List Int} {k : Nat} (hp : 2 ≤ p) (hs : belB p (seedL k) = true) (Q i : Nat) : digs p (fun j => fuR p T k ((i + j) % Q)) := fun j => by
  show 0 ≤ fuR p T k ((i + j) % Q) ∧ fuR p T k ((i + j) % Q) < p
  unfold fuR
  split
  · omega
  · exact rowN_bd (by omega) hs _
/-- Each list stands once. -/
theorem fuR_once {p : Int} {T : List Int} {k Q : Nat} (hp : 2 ≤ p) (hk : 1 ≤ k) (hl : T.length = k) (hQ : k < Q) (hper : PerIs (winN p T (seedL k)) 0 (Q - 1)) (hs : belB p (seedL k) = true) {i i' : Nat} (hi : i < Q) (hi' : i' < Q)
    (e : cdH p (fun j => fuR p T k ((i + j) % Q)) k = cdH p (fun j => fuR p T k ((i' + j) % Q)) k) : i = i' := by
  have hw : ∀ a, 1 ≤ a → a < Q → ∀ f : Nat → Int, (∀ j, j < k → fuR p T k ((a + j) % Q) = f j) → winN p T (seedL k) (a - 1) = numP p f k := fun a h1 h2 f hf => by
    unfold winN
    rw [hl]
    exact numP_congr fun j hj => by rw [← fuR_win hp hl hQ hper hs h1 h2 hj, hf j hj]
  have hj := cdH_inj hp (fuR_digs (T := T) hp hs Q i) (fuR_digs (T := T) hp hs Q i') k e
  have hpos := full_pos hp hk hl hper hs
  obtain ⟨_, _, h3⟩ := hper
  rcases Nat.eq_zero_or_pos i with h0 | h0 <;> rcases Nat.eq_zero_or_pos i' with h0' | h0'
  · omega
  · exfalso
    subst h0
    have := hw i' h0' hi' (fun _ => 0) fun j hjk => by rw [← hj j hjk]; exact fuR_first hQ hjk
    rw [numP_zero (fun _ _ => rfl)] at this
    exact hpos (i' - 1) (by omega) this
  · exfalso
    subst h0'
    have := hw i h0 hi (fun _ => 0) fun j hjk => (hj j hjk).trans (fuR_first hQ hjk)
    rw [numP_zero (fun _ _ => rfl)] at this
    exact hpos (i - 1) (by omega) this
  · have e1 := hw i h0 hi _ (fun j hjk => hj j hjk)
    have e2 := hw i' h0' hi' (fun j => fuR p T k ((i' + j) % Q)) (fun j _ => rfl)
    have e3 : winN p T (seedL k) (i - 1) = winN p T (seedL k) (i' - 1) := e1.trans e2.symm
    rcases Nat.lt_trichotomy (i - 1) (i' - 1) with h | h | h
    · exact absurd e3 (h3 _ _ h (by omega))
    · omega
    · exact absurd e3.symm (h3 _ _ h (by omega))
theorem sumTo_hit {F : Nat → Int} {n s : Nat} (hs : s < n) (h : ∀ j, j < n → j ≠ s → F j = 0) : sumTo F n = F s := sumTo_one (F s) hs rfl h
/-- What makes the first 2 k numbers of the row and is no longer, is the taps. -/
theorem least_is {p : Int} {T U : List Int} {k : Nat} (hp : 2 ≤ p) (hk : 1 ≤ k) (hl : T.length = k) (hT : belB p T = true) (hU : belB p U = true) (hUl : U.length ≤ k)
    (hM : Makes p U (fun j => rowN p T (seedL k) j) (2 * k)) (hMT : Makes p T (fun j => rowN p T (seedL k) j) (2 * k)) : U = T := by
  have hUk : U.length = k := by
    apply Classical.byContradiction
    intro hne
    have h1 := hM (k - 1) (by omega) (by omega)
    have h2 : dot U (fun j => rowN p T (seedL k) j) (k - 1) = 0 := by
      unfold dot
      refine sumTo_zero fun a ha => ?_
      show U.getD a 0 * rowN p T (seedL k) (k - 1 - 1 - a) = 0
      rw [row_nought (by omega), Int.mul_zero]
    have h3 : p ∣ rowN p T (seedL k) (k - 1) - dot U (fun j => rowN p T (seedL k) j) (k - 1) := h1
    rw [h2, row_one hk] at h3
    obtain ⟨c, hc⟩ := h3
    have : c = 0 ∨ 1 ≤ c ∨ c ≤ -1 := by omega
    rcases this with rfl | h | h
    · omega
    · have : p * 1 ≤ p * c := Int.mul_le_mul_of_nonneg_left h (by omega)
      omega
    · have : p * c ≤ p * (-1) := Int.mul_le_mul_of_nonneg_left h (by omega)
      omega
  have key : ∀ a, a < k → U.getD a 0 = T.getD a 0 := by
    intro a
    induction a using Nat.strongRecOn with
    | _ a ih =>
      intro ha
      have h1 : p ∣ rowN p T (seedL k) (k + a) - dot U (fun j => rowN p T (seedL k) j) (k + a) := hM (k + a) (by omega) (by omega)
      have h2 : p ∣ rowN p T (seedL k) (k + a) - dot T (fun j => rowN p T (seedL k) j) (k + a) := hMT (k + a) (by omega) (by omega)
      have h3 := Int.dvd_sub h2 h1
      rw [show rowN p T (seedL k) (k + a) - dot T (fun j => rowN p T (seedL k) j) (k + a) - (rowN p T (seedL k) (k + a) - dot U (fun j => rowN p T (seedL k) j) (k + a)) = dot U (fun j => rowN p T (seedL k) j) (k + a) - dot T (fun j => rowN p T (seedL k) j) (k + a) by omega] at h3
      have h4 : dot U (fun j => rowN p T (seedL k) j) (k + a) - dot T (fun j => rowN p T (seedL k) j) (k + a) = U.getD a 0 - T.getD a 0 := by
        unfold dot
        rw [hUk, hl, ← sumTo_sub, sumTo_hit ha fun j hj hne => ?_]
        · show U.getD a 0 * rowN p T (seedL k) (k + a - 1 - a) - T.getD a 0 * rowN p T (seedL k) (k + a - 1 - a) = _
          rw [show k + a - 1 - a = k - 1 by omega, row_one hk, Int.mul_one, Int.mul_one]
        · show U.getD j 0 * rowN p T (seedL k) (k + a - 1 - j) - T.getD j 0 * rowN p T (seedL k) (k + a - 1 - j) = 0
          rcases Nat.lt_or_ge j a with h | h
          · rw [ih j h (by omega)]; omega
          · rw [row_nought (by omega)]; omega
      rw [h4] at h3
      have b1 := belB_iff.1 hU a (by omega)
      have b2 := belB_iff.1 hT a (by omega)
      obtain ⟨c, hc⟩ := h3
      have : c = 0 ∨ 1 ≤ c ∨ c ≤ -1 := by omega
      rcases this with rfl | h | h
      · omega
      · have : p * 1 ≤ p * c := Int.mul_le_mul_of_nonneg_left h (by omega)
        omega
      · have : p * c ≤ p * (-1) := Int.mul_le_mul_of_nonneg_left h (by omega)
        omega
  apply List.ext_getElem
  · omega
  · intro a h1 h2
    have := key a (by omega)
    rw [List.getD_eq_getElem?_getD, List.getD_eq_getElem?_getD, List.getElem?_eq_getElem h1, List.getElem?_eq_getElem h2] at this
    exact this
end Go.Proofs.YtcjkcgfohmhbcabDoor.Rc

namespace Go.Proofs.YtcjkcgfohmhbcabDoor
open Go.RowKit

set_option maxRecDepth 100000
def FOne (TB : World → Prop) : Prop := ∀ w, TB w → Calls Tryd.prog 4 #[] w fun e w' => e = .returned (.bool true) ∧ Below w.heap.size w w'
/-- Full: either told is an error, or taps of the longest period. -/
def FFull : Prop := ∀ (p k : Int) (w : World), Calls Tryd.prog 5 #[.int .i64 p, .int .i64 k] w fun e w' => ∃ (u : Value) (s : List Int) (z : Nat), e = .returned (.tuple #[u, .int .i64 (z : Int)]) ∧ Sl w' u s ∧ (z = 0 → ∃ P K : Nat, p = P ∧ k = K ∧ 2 ≤ P ∧ P ≤ 7 ∧ 1 ≤ K ∧ K ≤ 8 ∧ P ^ K ≤ 2000 ∧ Rc.runF P s (Rc.seedL K) = 0 ∧ s.length = K ∧ Rc.belB P s = true ∧ Rc.PerIs (Rc.winN P s (Rc.seedL K)) 0 (P ^ K - 1)) ∧ Below w.heap.size w w'
def FPeriod : Prop := ∀ (p : Int) (l m : List Int) (v u : Value) (w : World), Sl w v l → l.length ≤ maxLen → Sl w u m → m.length ≤ maxLen → Rc.runF p l m = 0 → p.toNat ^ l.length ≤ 20000 → Calls Tryd.prog 6 #[.int .i64 p, v, u] w fun e w' => ∃ x y : Nat, e = .returned (.tuple #[.int .i64 (x : Int), .int .i64 (y : Int), .int .i64 0]) ∧ Rc.PerIs (Rc.winN p l m) x y ∧ Below w.heap.size w w'
def FRun : Prop := ∀ (p : Int) (n : Nat) (l m : List Int) (v u : Value) (w : World), Sl w v l → l.length ≤ maxLen → Sl w u m → m.length ≤ maxLen → Rc.runF p l m = 0 → n ≤ 5000 → Calls Tryd.prog 8 #[.int .i64 p, v, u, .int .i64 (n : Int)] w fun e w' => ∃ r, e = .returned (.tuple #[r, .int .i64 0]) ∧ w'.ownsRow w.heap.size 3 1 r n ((Rc.rowL p l m n).map (Value.int .i64)) ∧ Below w.heap.size w w'
def FLeast : Prop := ∀ (P : Nat) (S : List Int) (u : Value) (w : World), 2 ≤ P → P ≤ 7 → Rc.smB P = true → Sl w u S → Rc.belB P S = true → S.length ≤ 60 → Calls Tryd.prog 9 #[.int .i64 (P : Int), u] w fun e w' => ∃ (v : Value) (T R : List Int), e = .returned (.tuple #[.int .i64 (T.length : Int), v, .int .i64 0]) ∧ Sl w' v R ∧ (Rc.belB P T = true ∧ T.length ≤ S.length ∧ Rc.Makes P T (fun j => S.getD j 0) S.length ∧ ∀ U, Rc.Makes P U (fun j => S.getD j 0) S.length → T.length ≤ U.length) ∧ (2 * T.length ≤ S.length → R = T) ∧ Below w.heap.size w w'
theorem und23 : Tryd.prog.underlying 23 = some (.slice 3) := by kernel_rfl
theorem run_makeI (n : Nat) (hn : n ≤ 100000) (w : World) : (Instr.makeSlice 23 (.int .i64 (n : Int)) (.int .i64 (n : Int))).run Tryd.prog w = .ok (.slice (some ⟨w.heap.size, 0, none⟩) n n) (w.alloc (.cells (madeCells #[.int .i64 0] n) 3)) := by
  obtain ⟨i4, hi, hz0, hz1, hz2⟩ := info3
  have h := run_make (P := Tryd.prog) w 23 3 i4 (.int .i64 0) und23 hi hz0 .i64 .i64 n n (by omega) (by omega) (by rw [hz2]; omega) (by omega)
  simpa [hz1, Value.cells] using h
theorem own_new (w : World) (n : Nat) : Own (w.alloc (.cells (madeCells #[.int .i64 0] n) 3)) w.heap.size n (fun _ => 0) := by
  refine ⟨_, heap_alloc_new w _, fun j hj => ?_⟩
  rw [Array.getElem?_eq_getElem (by rw [size_madeCells]; exact hj)]
  simp [madeCells, Nat.mod_one]
theorem own_new1 (w : World) (n i : Nat) (v : Int) : Own (w.alloc (.cells ((madeCells #[.int .i64 0] n).setIfInBounds i (.int .i64 v)) 3)) w.heap.size n (upd (fun _ => 0) i v) := by
  refine ⟨_, heap_alloc_new w _, fun j hj => ?_⟩
  rw [Array.getElem?_setIfInBounds, size_madeCells]
  unfold upd
  by_cases e : i = j
  · subst e; rw [if_pos rfl, if_pos (by simpa using hj)]; simp
  · rw [if_neg e, if_neg (Ne.symm e), Array.getElem?_eq_getElem (by rw [size_madeCells]; exact hj)]
    simp [madeCells, Nat.mod_one]
theorem seed_sl {w : World} {g K : Nat} (h : Own w g K (upd (fun _ => 0) (K - 1) 1)) : Sl w (.slice (some ⟨g, 0, none⟩) K K) (Rc.seedL K) := by
  have h2 := (h.congr (f' := fun j => if j = K - 1 then 1 else 0) (fun j _ => rfl)).sl K
  exact h2
/-- Codes that the first lists had. -/
def sdT (F : Nat → Nat) (i x : Nat) : Bool := (List.range i).any fun j => F j == x
theorem sdT_more (F : Nat → Nat) (i : Nat) : updV (sdT F i) (F i) true = sdT F (i + 1) := by
  funext x
  unfold updV sdT
  rw [List.range_succ, List.any_append]
  by_cases e : x = F i
  · rw [if_pos e, e]; simp
  · rw [if_neg e]
    have : (F i == x) = false := by simp; exact fun h => e h.symm
    simp [this]
theorem sdT_no {F : Nat → Nat} {i : Nat} (h : ∀ j, j < i → F j ≠ F i) : sdT F i (F i) = false := by
  rw [Bool.eq_false_iff]
  intro h2
  obtain ⟨j, hj, e⟩ := List.any_eq_true.1 h2
  exact h j (List.mem_range.1 hj) (eq_of_beq e)
theorem mk_congr {p : Int} {T : List Int} {f g : Nat → Int} {n : Nat} (h : ∀ j, j < n → f j = g j) (hM : Rc.Makes p T f n) : Rc.Makes p T g n := by
  intro j h1 h2
  have := hM j h1 h2
  have e : Rc.dot T f j = Rc.dot T g j := by
    unfold Rc.dot
    exact Rc.sumTo_congr fun a ha => by rw [h (j - 1 - a) (by omega)]
  rw [← h j h2, ← e]
  exact this
theorem mk_row {p : Int} {T m : List Int} (hl : m.length = T.length) (n : Nat) : Rc.Makes p T (fun j => Rc.rowN p T m j) n := by
  intro j h1 h2
  show p ∣ Rc.rowN p T m j - Rc.dot T (fun j => Rc.rowN p T m j) j
  rw [Rc.rowN_on (by omega) h1]
  exact Rc.emod_dvd p _
/-- What Least tells of the first 2 k numbers. -/
theorem least_same {P K : Nat} {s S T : List Int} (hP : 2 ≤ P) (hK : 1 ≤ K) (hsl : s.length = K) (hsb : Rc.belB P s = true) (hS : S.length = 2 * K) (hSN : ∀ j, j < 2 * K → S.getD j 0 = Rc.rowN P s (Rc.seedL K) j)
    (h1 : Rc.belB P T = true) (h2 : Rc.Makes P T (fun j => S.getD j 0) S.length) (h3 : ∀ U, Rc.Makes P U (fun j => S.getD j 0) S.length → T.length ≤ U.length) : T = s := by
  rw [hS] at h2 h3
  have hm := mk_row (p := (P : Int)) (T := s) (m := Rc.seedL K) (by rw [Rc.seedL_len, hsl]) (2 * K)
  have hTl := h3 s (mk_congr (fun j hj => (hSN j hj).symm) hm)
  exact Rc.least_is (by omega) hK hsl hsb h1 (by omega) (mk_congr hSN h2) hm
set_option maxRecDepth 100000 in
set_option maxHeartbeats 16000000 in
theorem Rows_law (TB : World → Prop) (FO : FOne TB) (FF : FFull) (FP : FPeriod) (FB : FBruijn) (FR : FRun) (FL : FLeast) (p k : Int) (w : World) (hT : TB w) :
    Calls Tryd.prog 3 #[.int .i64 p, .int .i64 k] w fun e w' => e = .returned (.bool true) ∧ Below w.heap.size w w' := by
  have D4 := FO w hT
  have H5 : Hid (∀ W, Calls Tryd.prog 5 #[.int .i64 p, .int .i64 k] W fun e w' => ∃ (u : Value) (s : List Int) (z : Nat), e = .returned (.tuple #[u, .int .i64 (z : Int)]) ∧ Sl w' u s ∧ (z = 0 → ∃ P K : Nat, p = P ∧ k = K ∧ 2 ≤ P ∧ P ≤ 7 ∧ 1 ≤ K ∧ K ≤ 8 ∧ P ^ K ≤ 2000 ∧ Rc.runF P s (Rc.seedL K) = 0 ∧ s.length = K ∧ Rc.belB P s = true ∧ Rc.PerIs (Rc.winN P s (Rc.seedL K)) 0 (P ^ K - 1)) ∧ Below W.heap.size W w') := fun W => FF p k W
  have hB : Below w.heap.size w w := Below.refl _ _
  clear hT
  go_enter Tryd.func3, Tryd.ntmps3
  go_wp2_with fail
  refine D4.mono ?_
  rintro e wa ⟨rfl, ba⟩
  clear D4
  replace hB := hB.trans (ba.mono hB.size)
  clear ba
  go_wp2_with fail
  refine (H5.out wa).mono ?_
  rintro e wb ⟨u, s, z, rfl, hs, hz, bb⟩
  replace hB := hB.trans (bb.mono hB.size)
  clear bb H5
  by_cases h0 : z = 0
  · subst h0
    obtain ⟨P, K, rfl, rfl, hP2, hP7, hK1, hK8, hQ2, hrun, hsl, hsb, hper⟩ := hz rfl
    have hsm : Rc.smB (P : Int) = true := (Rc.tapsF_ok (Rc.runF_ok hrun).1).1
    obtain ⟨Q, HQ⟩ : ∃ Q : Nat, Hid (P ^ K = Q) := ⟨_, rfl⟩
    rw [HQ.out] at hQ2 hper
    have hQK : K < Q := by rw [← HQ.out]; exact Nat.lt_of_lt_of_le Nat.lt_two_pow_self (Nat.pow_le_pow_left hP2 K)
    obtain ⟨n, Hn⟩ : ∃ n, Hid (Q - 1 = n) := ⟨_, rfl⟩
    have hQn : Q = n + 1 := by have := Hn.out; omega
    have hper2 := hper
    rw [Hn.out] at hper2
    obtain ⟨ua, uc, rfl⟩ : ∃ a c, u = .slice a K c := by obtain ⟨a, c, e, _⟩ := hs; exact ⟨a, c, by rw [e, hsl]⟩
    have hmk : ∀ w : World, (Instr.makeSlice 23 (.int .i64 (K : Int)) (.int .i64 (K : Int))).run Tryd.prog w = .ok (.slice (some ⟨w.heap.size, 0, none⟩) K K) (w.alloc (.cells (madeCells #[.int .i64 0] K) 3)) := fun w => run_makeI K (by omega) w
    have hO0 := own_new wb K
    have hcl := hO0.cell (K - 1) (by omega)
    have hfz := hO0.frozen (K - 1)
    have hKw : IntKind.i64.wrap ((K : Int) - 1) = ((K - 1 : Nat) : Int) := by
      rw [show (K : Int) - 1 = ((K - 1 : Nat) : Int) by omega]
      exact IntWalk.i64_in _ (by omega)
    have hK0 : (0 : Int) ≤ ((K - 1 : Nat) : Int) := by omega
    have hKK : ((K - 1 : Nat) : Int) < (K : Int) := by omega
    have hS2 := seed_sl (own_new1 wb K (K - 1) 1)
    have hB2 : Below wb.heap.size wb (wb.alloc (.cells ((madeCells #[.int .i64 0] K).setIfInBounds (K - 1) (.int .i64 1)) 3)) := balloc wb _
    obtain ⟨w2, Hw2⟩ : ∃ w2, Hid (wb.alloc (.cells ((madeCells #[.int .i64 0] K).setIfInBounds (K - 1) (.int .i64 1)) 3) = w2) := ⟨_, rfl⟩
    rw [Hw2.out] at hS2 hB2
    have hs2 := hs.below hB2
    have hBw2 := hB.trans (hB2.mono hB.size)
    have D6 := FP P s (Rc.seedL K) _ _ w2 hs2 (by rw [hsl]; unfold maxLen; omega) hS2 (by rw [Rc.seedL_len]; unfold maxLen; omega) hrun (by rw [hsl, Int.toNat_natCast, HQ.out]; omega)
    have H7 : Hid (∀ W, Calls Tryd.prog 7 #[.int .i64 (P : Int), .int .i64 (K : Int)] W fun e w' => (∃ y, e = .returned (.tuple #[y, .int .i64 (bfE P K : Int)]) ∧ Wd w' y (bjZ P K)) ∧ Below W.heap.size W w') := fun W => FB P K W
    have HR : Hid (∀ W, Below w2.heap.size w2 W → Calls Tryd.prog 8 #[.int .i64 (P : Int), .slice ua K uc, .slice (some ⟨wb.heap.size, 0, none⟩) K K, .int .i64 (n : Int)] W fun e w' => ∃ r, e = .returned (.tuple #[r, .int .i64 0]) ∧ w'.ownsRow W.heap.size 3 1 r n ((Rc.rowL P s (Rc.seedL K) n).map (Value.int .i64)) ∧ Below W.heap.size W w') := fun W b => FR P n s (Rc.seedL K) _ _ W (hs2.below b) (by rw [hsl]; unfold maxLen; omega) (hS2.below b) (by rw [Rc.seedL_len]; unfold maxLen; omega) hrun (by omega)
    have HSL : Hid (∀ W, Below w2.heap.size w2 W → Sl W (.slice ua K uc) s) := fun W b => hs2.below b
    have hnw : IntKind.i64.wrap ((n : Int) + 1) = ((n + 1 : Nat) : Int) := by
      rw [show (n : Int) + 1 = ((n + 1 : Nat) : Int) by omega]
      exact IntWalk.i64_in _ (by omega)
    have HBJ : Hid (bfE (P : Int) (K : Int) = 0 → (bjZ (P : Int) (K : Int)).length = n + 1) := fun h => by
      unfold bjZ
      rw [if_pos h, Int.toNat_natCast, Int.toNat_natCast]
      have h4 : P ^ K ≤ 4096 := by rw [HQ.out]; omega
      rw [bjN_len (by omega) (by omega) hK1 (by omega) h4, HQ.out, hQn]
    obtain ⟨t, Ht⟩ : ∃ t, Hid (bfE (P : Int) (K : Int) = t) := ⟨_, rfl⟩
    obtain ⟨L, HL⟩ : ∃ L, Hid (bjZ (P : Int) (K : Int) = L) := ⟨_, rfl⟩
    rw [Ht.out, HL.out] at H7 HBJ
    have hnn : ((n : Int) != (n : Int)) = false := by simp
    have hnn1 : (((n + 1 : Nat) : Int) != ((n + 1 : Nat) : Int)) = false := by simp
    clear hO0 hs hS2 hs2 hz
    go_wp2_with fail
    rw [Hw2.out]
    refine D6.mono ?_
    rintro e w3 ⟨x, y, rfl, hxy, b3⟩
    clear D6
    obtain ⟨hx0, hy0⟩ := hxy.one hper2
    have hy0 := hy0.symm
    subst hx0 hy0
    have D7 := H7.out w3
    go_wp2_with fail
    refine D7.mono ?_
    rintro e w4 ⟨⟨y1, rfl, hy1⟩, b4⟩
    clear D7
    have b24 := Below.next b3 b4
    obtain ⟨by1, bm, bc, rfl⟩ := hy1.form
    have HBJ2 : Hid (((t : Int) == 0) = true ∧ ((bm : Int) != ((n + 1 : Nat) : Int)) = false ∨ ((t : Int) == 0) = false) := by
      by_cases ht : t = 0
      · left
        have h2 := HBJ.out ht
        obtain ⟨a', c', e', _⟩ := hy1
        simp only [Value.slice.injEq] at e'
        obtain ⟨-, e2, -⟩ := e'
        refine ⟨by simp [ht], ?_⟩
        rw [e2, h2]; simp
      · right; simp [ht]
    clear hy1
    obtain ⟨i3, ki3, kz0, kz1, kz2⟩ := info3
    rcases HBJ2.out with ⟨ht0, hm0⟩ | ht0
    all_goals
      have D8 := HR.out w4 b24
      go_wp2_with fail
      refine D8.mono ?_
      rintro e w5 ⟨r, rfl, hr, b5⟩
      clear D8
      have b25 := Below.next b24 b5
      obtain ⟨ra, rc, rfl⟩ := own_formT hr
      obtain ⟨gr, cr, er, hgr, hrO⟩ := Own.of hr (by omega)
      simp only [Value.slice.injEq] at er
      obtain ⟨rfl, -, rfl⟩ := er
      have hl0 : (w5.alloc (.cells #[.int .i64 0] 3)).ownsRow w5.heap.size 3 1 (.slice (some ⟨w5.heap.size, 0, none⟩) 1 1) 1 [.int .i64 0] := ⟨rfl, .inr ⟨w5.heap.size, 1, _, rfl, Nat.le_refl _, heap_alloc_new w5 _, by omega, by unfold maxLen; omega, rfl, rfl⟩⟩
      have hrO2 := hrO.below (balloc w5 (.cells #[.int .i64 0] 3))
      go_wp2_with (first
        | (at_builtin; refine wpList_append_own _ rfl _ _ 23 rfl w5.heap.size 3 i3 (.int .i64 0) 1 8 und23 ki3 kz0 kz1 kz2 rfl (by decide) _ _ _ rfl hl0 ⟨gr, 0, none⟩ n rc ((Rc.rowL P s (Rc.seedL K) n).map (Value.int .i64)) rfl ?c0 ?c1 ?c2 ?c3 ?c4 ?c5 ?_))
      case c0 => simp [Rc.rowL_len]
      case c1 =>
        intro j u hj
        have hjl : j < n := by
          have := (List.getElem?_eq_some_iff.1 hj).1
          simpa [Rc.rowL_len] using this
        have hc := hrO2.cell j hjl
        have e2 : ((⟨gr, 0, none⟩ : Addr).add j) = ⟨gr, j, none⟩ := by simp [Addr.add]; intro h; omega
        rw [e2, hc, ← hj, List.getElem?_map, List.getD_eq_getElem?_getD]
        have hjr : j < (Rc.rowL (P : Int) s (Rc.seedL K) n).length := by rw [Rc.rowL_len]; exact hjl
        rw [List.getElem?_eq_getElem hjr]; rfl
      case c2 =>
        intro u hu
        obtain ⟨x, -, rfl⟩ := List.mem_map.1 hu
        rfl
      case c3 => unfold maxLen; omega
      case c4 => omega
      case c5 => simp
      intro v6 w6 ho6 hg6 _
      have b56 : Below w5.heap.size w5 w6 := ((Below.refl _ _).alloc (Nat.le_refl _) _).grown hg6 (by simp) (fun k hk => (hl0.lt k hk).1)
      have b26 := Below.next b25 b56
      have ho6 : w6.ownsRow w5.heap.size 3 1 v6 (1 + n) ((0 :: Rc.rowL P s (Rc.seedL K) n).map (Value.int .i64)) := ho6
      obtain ⟨gf, cf, rfl, hgf, hfO⟩ := Own.of ho6 (by omega)
      have hrO6 := hrO.below b56
      have hnrc : n ≤ rc := by
        obtain ⟨-, h2 | ⟨g', cap', cur, h3, -, -, h5, -⟩⟩ := hr
        · cases h2.1
        · cases h3; omega
      clear ho6 hg6 hrO2 hl0 hr b56
      have HF : Hid (∀ W, Below w6.heap.size w6 W → Own W gf (1 + n) (fun j => (0 :: Rc.rowL (P : Int) s (Rc.seedL K) n).getD j 0)) := fun W b => hfO.below b
      have HR6 : Hid (∀ W, Below w6.heap.size w6 W → Own W gr n (fun j => (Rc.rowL (P : Int) s (Rc.seedL K) n).getD j 0)) := fun W b => hrO6.below b
      have HFU : Hid (∀ i, i < n + 1 → (0 :: Rc.rowL (P : Int) s (Rc.seedL K) n).getD i 0 = Rc.fuR P s K i) := fun i hi => by
        unfold Rc.fuR
        cases i with
        | zero => rfl
        | succ i =>
          rw [if_neg (by omega)]
          show (Rc.rowL (P : Int) s (Rc.seedL K) n).getD i 0 = _
          rw [Rc.rowL_at _ _ _ (by omega), Nat.add_sub_cancel]
      have hmkB : ∀ w : World, (Instr.makeSlice 30 (.int .i64 ((n : Int) + 1)) (.int .i64 ((n : Int) + 1))).run Tryd.prog w = .ok (.slice (some ⟨w.heap.size, 0, none⟩) (n + 1) (n + 1)) (w.alloc (.cells (madeCells #[.bool false] (n + 1)) 4)) := fun w => by
        have := run_makeB (n + 1) (by omega) w
        rw [show ((n + 1 : Nat) : Int) = (n : Int) + 1 by omega] at this
        exact this
      have hsb0 : Rc.belB P (Rc.seedL K) = true := Rc.seedL_bel hP2
      obtain ⟨cd, Hcd⟩ : ∃ cd : Nat → Nat, Hid (∀ i, cd i = (Rc.cdH P (fun j => Rc.fuR P s K ((i + j) % (n + 1))) K).toNat) := ⟨_, fun _ => rfl⟩
      have hdg : ∀ i, Rc.digs P (fun j => Rc.fuR P s K ((i + j) % (n + 1))) := fun i => Rc.fuR_digs (by omega) hsb0 (n + 1) i
      have HBD : Hid (∀ i m, 0 ≤ Rc.cdH P (fun j => Rc.fuR P s K ((i + j) % (n + 1))) m ∧ Rc.cdH P (fun j => Rc.fuR P s K ((i + j) % (n + 1))) m < (P : Int) ^ m) := fun i m => Rc.cdH_bd (by omega) (hdg i) m
      have HDG : Hid (∀ i, 0 ≤ Rc.fuR P s K i ∧ Rc.fuR P s K i < P) := fun i => by
        unfold Rc.fuR
        split
        · omega
        · exact Rc.rowN_bd (by omega) hsb0 _
      have HCI : Hid (∀ i, ((cd i : Nat) : Int) = Rc.cdH P (fun j => Rc.fuR P s K ((i + j) % (n + 1))) K) := fun i => by
        rw [Hcd.out i, Int.toNat_of_nonneg (HBD.out i K).1]
      have HPQ : Hid ((P : Int) ^ K = ((n + 1 : Nat) : Int)) := by show _ = _; rw [← hQn, ← HQ.out, Int.natCast_pow]
      have HCL : Hid (∀ i, cd i < n + 1) := fun i => by
        have h1 := HCI.out i
        have h2 := (HBD.out i K).2
        rw [HPQ.out] at h2
        omega
      have HIN : Hid (∀ i i', i < n + 1 → i' < n + 1 → cd i = cd i' → i = i') := fun i i' h1 h2 e => by
        have e2 : Rc.cdH P (fun j => Rc.fuR P s K ((i + j) % (n + 1))) K = Rc.cdH P (fun j => Rc.fuR P s K ((i' + j) % (n + 1))) K := by rw [← HCI.out i, ← HCI.out i', e]
        have hp2 := hper
        rw [show Q - 1 = n + 1 - 1 by omega] at hp2
        exact Rc.fuR_once (by omega) hK1 hsl (by omega) hp2 hsb0 h1 h2 e2
      have HSN : Hid (∀ i, i < n + 1 → sdT cd i (cd i) = false) := fun i hi => sdT_no fun j hj e => by
        have := HIN.out j i (by omega) hi e
        omega
      have HSM : Hid (∀ i, updV (sdT cd i) (cd i) true = sdT cd (i + 1)) := fun i => sdT_more cd i
      have HPK : Hid (∀ m, m ≤ K → (P : Int) ^ m ≤ 2000) := fun m hm => by
        have h1 : P ^ m ≤ P ^ K := Nat.pow_le_pow_right (by omega) hm
        rw [HQ.out] at h1
        have h2 : (P : Int) ^ m = ((P ^ m : Nat) : Int) := (Int.natCast_pow P m).symm
        rw [h2]; omega
      have hOs := OwV.made (t := 4) (en := Value.bool) (n + 1) w6 (sdT cd 0) (.bool false) (by intro j; rfl)
      have hBs := balloc w6 (.cells (madeCells #[.bool false] (n + 1)) 4)
      clear hdg hper hxy
      go_wp2
      have hne : ¬ (n : Int) + 1 = 0 := by omega
      go_loopw [16] (fun iv wr => ∃ t : Nat, iv = .int .i64 (t : Int) ∧ t ≤ n + 1 ∧ OwV 4 Value.bool wr w6.heap.size (n + 1) (sdT cd t) ∧ Below w6.heap.size w6 wr) (fun iv _ => (n + 1 - intOf iv).toNat)
      case atStart => exact ⟨0, rfl, by omega, hOs, hBs⟩
      case round =>
        clear hOs hBs hmkB
        obtain ⟨i, rfl, hi, hO, hB6⟩ := hrel
        by_cases hin : i ≤ n
        · have hdi : decide ((i : Int) ≤ (n : Int)) = true := by simp; omega
          have hiw : IntKind.i64.wrap ((i : Int) + 1) = (i : Int) + 1 := IntWalk.i64_in _ (by omega)
          go_wp2
          go_loopw [17, 18] (fun cv jv ur => ∃ j c : Nat, jv = .int .i64 (j : Int) ∧ cv = .int .i64 (c : Int) ∧ j ≤ K ∧ Hid (Rc.cdH P (fun j => Rc.fuR P s K ((i + j) % (n + 1))) j = (c : Int)) ∧ ur = wr) (fun _ jv _ => (K - intOf jv).toNat)
          case atStart => exact ⟨0, 0, rfl, rfl, by omega, rfl, rfl⟩
          case round =>
            obtain ⟨j, c, rfl, rfl, hj, HC, e2⟩ := hrel
            subst e2
            by_cases hlj : j < K
            · have hdj : decide ((j : Int) < (K : Int)) = true := by simp; omega
              have hjj : (j : Int) < (K : Int) := by omega
              have hjw : IntKind.i64.wrap ((j : Int) + 1) = (j : Int) + 1 := IntWalk.i64_in _ (by omega)
              have hij : IntKind.i64.wrap ((i : Int) + (j : Int)) = (i : Int) + (j : Int) := IntWalk.i64_in _ (by omega)
              obtain ⟨a, Ha⟩ : ∃ a, Hid ((i + j) % (n + 1) = a) := ⟨_, rfl⟩
              have haA : a < n + 1 := by rw [← Ha.out]; exact Nat.mod_lt _ (by omega)
              have ea : ((i : Int) + (j : Int)).tmod ((n : Int) + 1) = (a : Int) := by
                rw [show (n : Int) + 1 = ((n + 1 : Nat) : Int) by omega, ← Ha.out]; rfl
              have haw : IntKind.i64.wrap (a : Int) = (a : Int) := IntWalk.i64_in _ (by omega)
              have hai : (a : Int) < 1 + (n : Int) := by omega
              have ha0 : (0 : Int) ≤ (a : Int) := by omega
              have cx := (HF.out _ hB6).cell a (by omega)
              rw [HFU.out a haA] at cx
              have hxb := HDG.out a
              obtain ⟨x, Hx⟩ : ∃ x : Nat, Hid (Rc.fuR P s K a = (x : Int)) := ⟨(Rc.fuR P s K a).toNat, by show _ = _; omega⟩
              rw [Hx.out] at cx hxb
              have hb1 := HBD.out i (j + 1)
              have hpk := HPK.out (j + 1) (by omega)
              have hst : Rc.cdH P (fun j => Rc.fuR P s K ((i + j) % (n + 1))) (j + 1) = (c : Int) * (P : Int) + (x : Int) := by
                show Rc.cdH P (fun j => Rc.fuR P s K ((i + j) % (n + 1))) j * (P : Int) + Rc.fuR P s K ((i + j) % (n + 1)) = _
                rw [HC.out, Ha.out, Hx.out]
              obtain ⟨q, Hq⟩ : ∃ q, Hid (c * P = q) := ⟨_, rfl⟩
              have eq1 : (c : Int) * (P : Int) = (q : Int) := by rw [← Hq.out]; simp
              rw [eq1] at hst
              rw [hst] at hb1
              have HC2 : Hid (Rc.cdH P (fun j => Rc.fuR P s K ((i + j) % (n + 1))) (j + 1) = ((q + x : Nat) : Int)) := by show _ = _; rw [hst]; omega
              have hqw : IntKind.i64.wrap (q : Int) = (q : Int) := IntWalk.i64_in _ (by omega)
              have hqxw : IntKind.i64.wrap ((q : Int) + (x : Int)) = (q : Int) + (x : Int) := IntWalk.i64_in _ (by omega)
              clear hb1 hpk hst hO hxb
              go_wp2
              go_roundw
              case rel => exact ⟨j + 1, q + x, by go_num, by go_num, by omega, HC2, trivial⟩
              case measure => simp [intOf]; omega
            · have hdj : decide ((j : Int) < (K : Int)) = false := by simp; omega
              obtain rfl : K = j := by omega
              have hcc : cd i = c := by have := HCI.out i; rw [HC.out] at this; omega
              have hcA := HCL.out i
              have hsn := HSN.out i (by omega)
              have hsd := HSM.out i
              rw [hcc] at hcA hsn hsd
              have cs := hO.cell c hcA
              rw [hsn] at cs
              have hfz2 := hO.frozen c
              have hO2 := hO.set c true
              rw [hsd] at hO2
              have hB3 := hB6.setCell (p := ⟨_, c, none⟩) (Nat.le_refl _) (.bool true)
              have hci : (c : Int) < (n : Int) + 1 := by omega
              have hc0 : (0 : Int) ≤ (c : Int) := by omega
              have dc1 : decide ((c : Int) < 0) = false := by simp
              have dc2 : decide ((n : Int) < (c : Int)) = false := by simp; omega
              clear hsn hsd hO hcc
              go_wp2
              go_roundw
              case rel => exact ⟨i + 1, by go_num, by omega, hO2, hB3⟩
              case measure => simp [intOf]; omega
        · have hdi : decide ((i : Int) ≤ (n : Int)) = false := by simp; omega
          clear hO
          have b2r := Below.next b26 hB6
          have hBr := hBw2.trans (b2r.mono hBw2.size)
          obtain ⟨M, HM⟩ : ∃ M, Hid (2 * K = M) := ⟨_, rfl⟩
          have hM16 : M ≤ 16 := by rw [← HM.out]; omega
          have em : (2 : Int) * (K : Int) = (M : Int) := by rw [← HM.out]; simp
          have hMw : IntKind.i64.wrap (M : Int) = (M : Int) := IntWalk.i64_in _ (by omega)
          have d60 : decide ((60 : Int) < (M : Int)) = false := by simp; omega
          rcases Nat.lt_or_ge n M with hnM | hnM
          · have dnM : decide ((n : Int) < (M : Int)) = true := by simp; omega
            go_wp2
            go_ret
            exact ⟨rfl, hBr⟩
          · have dnM : decide ((n : Int) < (M : Int)) = false := by simp; omega
            have sM1 : (M : Int) ≤ (n : Int) := by omega
            have sM2 : (M : Int) ≤ (rc : Int) := by omega
            have sM3 : (0 : Int) ≤ (M : Int) := by omega
            have sM4 : (n : Int) ≤ (rc : Int) := by omega
            have hrl : (Rc.rowL (P : Int) s (Rc.seedL K) n).length = n := Rc.rowL_len _ _ _ _
            have hSlen : ((Rc.rowL (P : Int) s (Rc.seedL K) n).take M).length = M := by rw [List.length_take, hrl]; omega
            have hSat : ∀ j, j < M → ((Rc.rowL (P : Int) s (Rc.seedL K) n).take M).getD j 0 = Rc.rowN P s (Rc.seedL K) j := fun j hj => by
              rw [← Rc.rowL_at (P : Int) s (Rc.seedL K) (show j < n by omega), List.getD_eq_getElem?_getD, List.getElem?_take, if_pos hj, ← List.getD_eq_getElem?_getD]
            have hSl9 : Sl wr (.slice (some ⟨gr, 0, none⟩) M rc) ((Rc.rowL (P : Int) s (Rc.seedL K) n).take M) := by
              refine ⟨_, rc, by rw [hSlen], fun j hj => ⟨gr, 0, rfl, ?_⟩⟩
              rw [hSlen] at hj
              rw [Nat.zero_add, (HR6.out wr hB6).cell j (by omega), hSat j hj, Rc.rowL_at _ _ _ (by omega)]
            have hSb : Rc.belB P ((Rc.rowL (P : Int) s (Rc.seedL K) n).take M) = true := by
              rw [Rc.belB_iff]
              intro j hj
              rw [hSlen] at hj
              rw [hSat j hj]
              exact Rc.rowN_bd (by omega) hsb0 j
            have D9 := FL P _ _ wr hP2 hP7 hsm hSl9 hSb (by rw [hSlen]; omega)
            have HLS : Hid (∀ T : List Int, Rc.belB P T = true → Rc.Makes P T (fun j => ((Rc.rowL (P : Int) s (Rc.seedL K) n).take M).getD j 0) ((Rc.rowL (P : Int) s (Rc.seedL K) n).take M).length → (∀ U, Rc.Makes P U (fun j => ((Rc.rowL (P : Int) s (Rc.seedL K) n).take M).getD j 0) ((Rc.rowL (P : Int) s (Rc.seedL K) n).take M).length → T.length ≤ U.length) → T = s) := fun T h1 h2 h3 => least_same hP2 hK1 hsl hsb (by rw [hSlen]; exact HM.out.symm) (fun j hj => hSat j (by have := HM.out; omega)) h1 h2 h3
            have HSW := HSL.out wr b2r
            have hKK2 : ((K : Int) == (K : Int)) = true := by simp
            clear hSat hSl9 hSb hrl
            go_wp2_with fail
            refine D9.mono ?_
            rintro e w9 ⟨v9, T, R, rfl, hR, ⟨h1, -, h2, h3⟩, hRT, b9⟩
            obtain rfl : s = T := (HLS.out T h1 h2 h3).symm
            have hRs : R = s := hRT (by rw [hSlen, hsl]; have := HM.out; omega)
            subst hRs
            clear D9 h1 h2 h3 hRT
            obtain ⟨v9a, v9c, rfl⟩ : ∃ a c, v9 = .slice a K c := by obtain ⟨a, c, e, _⟩ := id hR; exact ⟨a, c, by rw [e, hsl]⟩
            rw [hsl]
            have D10 := ints_any R R _ _ w9 hR (HSW.below b9) (by rw [hsl]; unfold maxLen; omega) (by rw [hsl]; unfold maxLen; omega)
            have hB9 := hBr.trans (b9.mono hBr.size)
            go_wp2_with fail
            refine D10.mono ?_
            rintro e w10 ⟨b, rfl, hb, b10⟩
            obtain rfl : b = true := by simpa using hb
            clear D10
            go_wp2
            go_ret
            exact ⟨rfl, hB9.trans (b10.mono hB9.size)⟩
  · have hzb : ((z : Int) != 0) = true := by simp [h0]
    clear hz hs
    go_wp2
    go_ret
    exact ⟨rfl, hB⟩
end Go.Proofs.YtcjkcgfohmhbcabDoor

/- The walks of digits and Digits. -/
namespace Go.Proofs.YtcjkcgfohmhbcabDoor.Rc
open Go.RowKit

theorem div_succ (n p k : Nat) : n / p ^ (k + 1) = n / p ^ k / p := by rw [Nat.pow_succ, Nat.div_div_eq_div_mul]

set_option maxHeartbeats 1000000 in
theorem digits_any (n p m : Nat) (w : World) (hn : n < 4096) (hp : 2 ≤ p) (hp' : p ≤ 64) (hm1 : 1 ≤ m) (hm : m ≤ 64) :
    Calls Tryd.prog 17 #[.int .i64 n, .int .i64 p, .int .i64 m] w fun e w' => ∃ g : Nat, e = .returned (.slice (some ⟨g, 0, none⟩) m m) ∧ w.heap.size ≤ g ∧ Own w' g m (dgF n p) ∧ Below w.heap.size w w' := by
  obtain ⟨i3, hi, hz0, hz1, hz2⟩ := info3
  go_enter Tryd.func17, Tryd.ntmps17
  go_wp2_with (first
    | (at_make; refine wpList_make_full _ rfl _ _ 23 rfl w.heap.size 3 i3 (.int .i64 0) 1 und22 hi hz0 hz1 .i64 .i64 (m : Int) (m : Int) m rfl rfl rfl rfl ?c1 ?c2 (Nat.le_refl _) ?_))
  case c1 => rw [hz2]; omega
  case c2 => unfold maxLen; omega
  intro w1 how1 hgr1
  have hO1 := own_made' how1
  have hb1 : Below w.heap.size w w1 := ⟨hgr1.os, hgr1.tape, hgr1.output, hgr1.size, fun k hk => hgr1.block k hk (by simp)⟩
  clear how1 hgr1
  go_wp2
  go_loopw [0, 13] (fun x i wr => ∃ k c : Nat, i = .int .i64 k ∧ k ≤ m ∧ x = .int .i64 c ∧ Hid (c = n / p ^ k) ∧ c ≤ n ∧ Own wr w.heap.size m (fun j => if j < k then dgF n p j else 0) ∧ Below w.heap.size w wr) (fun _ i _ => (m - intOf i).toNat)
  case atStart => exact ⟨0, n, rfl, by omega, rfl, (show n = n / p ^ 0 by simp), Nat.le_refl _, hO1.congr (fun j _ => by simp), hb1⟩
  case round =>
    obtain ⟨k, c, rfl, hk, rfl, HC, hcn, hO, hb⟩ := hrel
    by_cases hlt : k < m
    · have HE : Hid (((c / p : Nat) : Int) = (c : Int) / (p : Int)) := Int.natCast_ediv c p
      have HM : Hid (((c % p : Nat) : Int) = (c : Int) % (p : Int)) := Int.natCast_emod c p
      have hdv : c / p ≤ c := Nat.div_le_self _ _
      have hq0 : 0 ≤ (c : Int) / (p : Int) := by rw [← HE.out]; exact Int.natCast_nonneg _
      have hq1 : (c : Int) / (p : Int) ≤ 4096 := by rw [← HE.out]; omega
      have hki : (k : Int) < m := by omega
      have hcell := hO.cell k hlt
      have hfr := hO.frozen k
      go_wp2
      go_roundw
      case rel =>
        have hfin : ∃ k' c' : Nat, Value.int .i64 ((k : Int) + 1) = .int .i64 k' ∧ k' ≤ m ∧ Value.int .i64 ((c : Int) / (p : Int)) = .int .i64 c' ∧ Hid (c' = n / p ^ k') ∧ c' ≤ n ∧ Own (wr.setCell ⟨w.heap.size, k, none⟩ (.int .i64 ((c : Int) % (p : Int)))) w.heap.size m (fun j => if j < k' then dgF n p j else 0) ∧ Below w.heap.size w (wr.setCell ⟨w.heap.size, k, none⟩ (.int .i64 ((c : Int) % (p : Int)))) := by
          refine ⟨k + 1, c / p, by go_num, by omega, by rw [HE.out], ?_, by omega, ?_, hb.setCell (p := ⟨w.heap.size, k, none⟩) (Nat.le_refl _) _⟩
          · show c / p = n / p ^ (k + 1)
            rw [div_succ, ← HC.out]
          · refine (hO.set k ((c : Int) % (p : Int))).congr (fun j _ => ?_)
            unfold upd
            by_cases e : j = k
            · subst e
              rw [if_pos rfl, if_pos (by omega), ← HM.out]
              unfold dgF
              rw [← HC.out]
            · rw [if_neg e]
              show (if j < k then dgF n p j else 0) = if j < k + 1 then dgF n p j else 0
              by_cases hj : j < k
              · rw [if_pos hj, if_pos (by omega)]
              · rw [if_neg hj, if_neg (by omega)]
        first
          | exact hfin
          | ((repeat apply Exists.intro); exact ⟨hfin, rfl⟩)
      case measure => simp [intOf]; omega
    · go_wp2
      go_ret
      obtain rfl : k = m := by omega
      exact ⟨w.heap.size, rfl, Nat.le_refl _, hO.congr (fun j hj => by rw [if_pos hj]), hb⟩

end Go.Proofs.YtcjkcgfohmhbcabDoor.Rc

/- The walks of shortest and Least: Berlekamp's and Massey's way. -/
/- The walks of inverse and missing. -/
namespace Go.Proofs.YtcjkcgfohmhbcabDoor.Rc
open Go.RowKit

theorem inv_all : ∀ P : Fin 8, ∀ a : Fin 8, (smB (P.val : Int) && decide (1 ≤ a.val) && decide (a.val < P.val)) = true → (List.range P.val).any (fun b => decide (1 ≤ b) && a.val * b % P.val == 1) = true := by decide +kernel
theorem inv_ex {P a : Nat} (hs : smB (P : Int) = true) (h1 : 1 ≤ a) (ha : a < P) : ∃ b, 1 ≤ b ∧ b < P ∧ a * b % P = 1 := by
  have hb := smB_bd hs
  have h := inv_all ⟨P, by omega⟩ ⟨a, by omega⟩ (by simp [hs, h1, ha])
  obtain ⟨b, hb1, hb2⟩ := List.any_eq_true.1 h
  simp only [Bool.and_eq_true, decide_eq_true_eq, beq_iff_eq, List.mem_range] at hb1 hb2
  exact ⟨b, hb2.1, hb1, hb2.2⟩

set_option maxHeartbeats 1000000 in
theorem inverse_any (P a : Nat) (w : World) (hs : smB (P : Int) = true) (h1 : 1 ≤ a) (ha : a < P) :
    Calls Tryd.prog 58 #[.int .i64 (P : Int), .int .i64 (a : Int)] w fun e w' => ∃ b : Nat, e = .returned (.int .i64 (b : Int)) ∧ 1 ≤ b ∧ b < P ∧ Hid (a * b % P = 1 ∧ ∀ c, 1 ≤ c → c < b → a * c % P ≠ 1) ∧ w' = w := by
  have hpb := smB_bd hs
  have hp : 2 ≤ P ∧ P ≤ 7 := by omega
  have HEX : Hid (∃ b, 1 ≤ b ∧ b < P ∧ a * b % P = 1) := inv_ex hs h1 ha
  clear hpb
  go_enter Tryd.func58, Tryd.ntmps58
  go_wp2
  go_loop [5] (fun i => ∃ b : Nat, i = .int .i64 b ∧ 1 ≤ b ∧ b ≤ P ∧ Hid (∀ c, 1 ≤ c → c < b → a * c % P ≠ 1)) (fun i => (P - intOf i).toNat)
  case atStart => exact ⟨1, rfl, by omega, by omega, (fun c h1 h2 => by omega : ∀ c, 1 ≤ c → c < 1 → _)⟩
  case round =>
    obtain ⟨b, rfl, hb1, hbP, HB⟩ := hrel
    by_cases hlt : b < P
    · have hbi : (b : Int) < P := by omega
      obtain ⟨x, Hx⟩ : ∃ x : Nat, Hid (x = a * b) := ⟨_, rfl⟩
      have hx : (a : Int) * (b : Int) = (x : Int) := by rw [Hx.out, Int.natCast_mul]
      have hx9 : x ≤ 49 := by rw [Hx.out]; exact Nat.mul_le_mul (show a ≤ 7 by omega) (show b ≤ 7 by omega)
      obtain ⟨r, Hr⟩ : ∃ r : Nat, Hid (r = x % P) := ⟨_, rfl⟩
      have hr : (x : Int) % (P : Int) = (r : Int) := by rw [Hr.out, Int.natCast_emod]
      by_cases hr1 : r = 1
      · subst hr1
        go_wp2
        go_ret
        exact ⟨b, rfl, hb1, hlt, ⟨by rw [← Hx.out]; exact Hr.out.symm, HB.out⟩, rfl⟩
      · have hrd : ((r : Int) == 1) = false := by simp; omega
        go_wp2
        go_round
        case rel =>
          refine ⟨b + 1, by go_num, by omega, by omega, (fun c h1 h2 => ?_ : ∀ c, 1 ≤ c → c < b + 1 → _)⟩
          by_cases e : c = b
          · subst e; rw [← Hx.out, ← Hr.out]; exact hr1
          · exact HB.out c h1 (by omega)
        case measure => simp [intOf]; omega
    · obtain ⟨c, h1, h2, h3⟩ := HEX.out
      exact absurd h3 (HB.out c h1 (by omega))

open Classical in
noncomputable def invN (P a : Nat) : Nat := if h : ∃ b, 1 ≤ b ∧ b < P ∧ a * b % P = 1 ∧ ∀ c, 1 ≤ c → c < b → a * c % P ≠ 1 then Classical.choose h else 0
theorem inverse_is (P a : Nat) (w : World) (hs : smB (P : Int) = true) (h1 : 1 ≤ a) (ha : a < P) :
    Calls Tryd.prog 58 #[.int .i64 (P : Int), .int .i64 (a : Int)] w fun e w' => e = .returned (.int .i64 (invN P a : Nat)) ∧ w' = w := by
  refine (inverse_any P a w hs h1 ha).mono ?_
  rintro e w' ⟨b, rfl, hb1, hb2, HB, rfl⟩
  have hex : ∃ b, 1 ≤ b ∧ b < P ∧ a * b % P = 1 ∧ ∀ c, 1 ≤ c → c < b → a * c % P ≠ 1 := ⟨b, hb1, hb2, HB.out.1, HB.out.2⟩
  have e : invN P a = b := by
    unfold invN
    rw [dif_pos hex]
    obtain ⟨k1, k2, k3, k4⟩ := Classical.choose_spec hex
    by_cases hlt : Classical.choose hex < b
    · exact absurd k3 (HB.out.2 _ k1 hlt)
    · by_cases hgt : b < Classical.choose hex
      · exact absurd HB.out.1 (k4 b hb1 hgt)
      · omega
  exact ⟨by rw [e], rfl⟩
theorem invN_ok {P a : Nat} (hs : smB (P : Int) = true) (h1 : 1 ≤ a) (ha : a < P) : 1 ≤ invN P a ∧ invN P a < P ∧ a * invN P a % P = 1 := by
  have hleast : ∀ n b, b ≤ n → 1 ≤ b → b < P → a * b % P = 1 → ∃ b, 1 ≤ b ∧ b < P ∧ a * b % P = 1 ∧ ∀ c, 1 ≤ c → c < b → a * c % P ≠ 1 := by
    intro n
    induction n with
    | zero => intro b h; omega
    | succ n ih =>
      intro b hbn hb1 hb2 hb3
      by_cases h : ∃ c, 1 ≤ c ∧ c < b ∧ a * c % P = 1
      · obtain ⟨c, c1, c2, c3⟩ := h
        exact ih c (by omega) c1 (by omega) c3
      · exact ⟨b, hb1, hb2, hb3, fun c c1 c2 c3 => h ⟨c, c1, c2, c3⟩⟩
  obtain ⟨b, b1, b2, b3⟩ := inv_ex hs h1 ha
  have hex := hleast b b (Nat.le_refl _) b1 b2 b3
  unfold invN
  rw [dif_pos hex]
  obtain ⟨k1, k2, k3, _⟩ := Classical.choose_spec hex
  exact ⟨k1, k2, k3⟩

set_option maxHeartbeats 2000000 in
theorem missing_any (P i : Nat) (T S : List Int) (v u : Value) (w : World) (hs : smB (P : Int) = true) (hv : Sl w v T) (hu : Sl w u S) (hbT : belB P T = true) (hbS : belB P S = true) (hi : i < S.length) (hT : T.length ≤ i) (hS : S.length ≤ 60) :
    Calls Tryd.prog 43 #[.int .i64 (P : Int), v, u, .int .i64 (i : Int)] w fun e w' => ∃ m : Nat, e = .returned (.int .i64 (m : Int)) ∧ m < P ∧ Hid ((P : Int) ∣ S.getD i 0 - dot T (fun j => S.getD j 0) i - m) ∧ w' = w := by
  have hpb := smB_bd hs
  have hp : 2 ≤ P ∧ P ≤ 7 := by omega
  obtain ⟨n, Hn⟩ : ∃ n : Nat, Hid (S.length = n) := ⟨_, rfl⟩
  obtain ⟨k, Hk⟩ : ∃ k : Nat, Hid (T.length = k) := ⟨_, rfl⟩
  have hn : i < n ∧ n ≤ 60 ∧ k ≤ i := by rw [← Hn.out, ← Hk.out]; omega
  obtain ⟨b, off, cap, rfl, hbw, huc⟩ := hu.form Hn.out (by omega)
  obtain ⟨a, ca, rfl, hvc⟩ := hv
  rw [Hk.out] at hvc ⊢
  have HV : Hid (∀ j, j < k → ∃ g o, a = some ⟨g, o, none⟩ ∧ w.cell? ⟨g, o + j, none⟩ = some (.int .i64 (T.getD j 0))) := hvc
  have HU : Hid (∀ j, j < n → w.cell? ⟨b, off + j, none⟩ = some (.int .i64 (S.getD j 0))) := huc
  have HT : Hid (∀ j, j < k → 0 ≤ T.getD j 0 ∧ T.getD j 0 < P) := by show ∀ j, j < k → _; rw [← Hk.out]; exact belB_iff.1 hbT
  have HSb : Hid (∀ j, j < n → 0 ≤ S.getD j 0 ∧ S.getD j 0 < P) := by show ∀ j, j < n → _; rw [← Hn.out]; exact belB_iff.1 hbS
  obtain ⟨x0, Hx0⟩ : ∃ x : Int, Hid (x = S.getD i 0) := ⟨_, rfl⟩
  have hc0 := HU.out i hn.1
  have hx0 := HSb.out i hn.1
  rw [← Hx0.out] at hc0 hx0
  clear hvc huc hi hT hS hpb
  go_enter Tryd.func43, Tryd.ntmps43
  go_wp2
  go_loop [9, 18] (fun s c => ∃ (y : Int) (j : Nat), c = .int .i64 j ∧ s = .int .i64 y ∧ j ≤ k ∧ 0 ≤ y ∧ y ≤ 6 + (j : Int) * 49 ∧ Hid ((P : Int) ∣ x0 - sumTo (fun c => T.getD c 0 * S.getD (i - 1 - c) 0) j - y)) (fun _ c => (k - intOf c).toNat)
  case atStart =>
    refine ⟨x0, 0, rfl, rfl, by omega, hx0.1, by omega, ?_⟩
    show (P : Int) ∣ x0 - 0 - x0
    rw [show x0 - 0 - x0 = 0 by omega]; exact Int.dvd_zero _
  case round =>
    obtain ⟨y, j, rfl, rfl, hj, hy0, hy9, HY⟩ := hrel
    by_cases hlt : j < k
    · have hji : (j : Int) < k := by omega
      obtain ⟨g, o, rfl, hcz⟩ := HV.out j hlt
      obtain ⟨z, Hz⟩ : ∃ z : Int, Hid (z = T.getD j 0) := ⟨_, rfl⟩
      obtain ⟨m, Hm⟩ : ∃ m : Nat, Hid (m = i - 1 - j) := ⟨_, rfl⟩
      obtain ⟨x, Hx⟩ : ∃ x : Int, Hid (x = S.getD m 0) := ⟨_, rfl⟩
      have hz := HT.out j hlt
      have hmn : m < n := by rw [Hm.out]; omega
      have hx := HSb.out m hmn
      have hcx := HU.out m hmn
      rw [← Hz.out] at hz hcz
      rw [← Hx.out] at hx hcx
      have hme : (i : Int) - 1 - (j : Int) = (m : Int) := by rw [Hm.out]; omega
      have hpz : 0 ≤ (P : Int) - z ∧ (P : Int) - z ≤ 7 := by omega
      have hq0 : 0 ≤ ((P : Int) - z) * x := Int.mul_nonneg hpz.1 hx.1
      have hq9 : ((P : Int) - z) * x ≤ 7 * 7 := Int.mul_le_mul hpz.2 (by omega) hx.1 (by omega)
      go_wp2
      go_round
      case rel =>
        refine ⟨y + ((P : Int) - z) * x, j + 1, by go_num, by go_num, by omega, by omega, by rw [Int.natCast_add, Int.add_mul]; omega, ?_⟩
        show (P : Int) ∣ x0 - (sumTo (fun c => T.getD c 0 * S.getD (i - 1 - c) 0) j + T.getD j 0 * S.getD (i - 1 - j) 0) - (y + ((P : Int) - z) * x)
        rw [← Hz.out, ← Hm.out, ← Hx.out, Int.sub_mul]
        have h1 := Int.dvd_sub HY.out (Int.dvd_mul_right (P : Int) x)
        rwa [show x0 - sumTo (fun c => T.getD c 0 * S.getD (i - 1 - c) 0) j - y - (P : Int) * x = x0 - (sumTo (fun c => T.getD c 0 * S.getD (i - 1 - c) 0) j + z * x) - (y + ((P : Int) * x - z * x)) by omega] at h1
      case measure => simp [intOf]; omega
    · obtain rfl : j = k := by omega
      obtain ⟨m, Hm⟩ : ∃ m : Nat, Hid ((m : Int) = y % (P : Int)) := ⟨(y % (P : Int)).toNat, by
        show (((y % (P : Int)).toNat : Nat) : Int) = y % (P : Int)
        have := Int.emod_nonneg y (show (P : Int) ≠ 0 by omega)
        omega⟩
      have hym : y % (P : Int) = (m : Int) := Hm.out.symm
      have hmP : m < P := by have := Int.emod_lt_of_pos y (show (0 : Int) < P by omega); omega
      go_wp2
      go_ret
      refine ⟨m, rfl, hmP, ?_, rfl⟩
      show (P : Int) ∣ S.getD i 0 - dot T (fun j => S.getD j 0) i - m
      unfold dot
      rw [Hk.out, ← Hx0.out, Hm.out]
      have h1 := Int.dvd_sub HY.out (emod_dvd (P : Int) y)
      rwa [show x0 - sumTo (fun c => T.getD c 0 * S.getD (i - 1 - c) 0) j - y - (y % (P : Int) - y) = x0 - sumTo (fun c => T.getD c 0 * S.getD (i - 1 - c) 0) j - y % (P : Int) by omega] at h1

end Go.Proofs.YtcjkcgfohmhbcabDoor.Rc

/- The walk of mend: taps that slip are mended. -/
namespace Go.Proofs.YtcjkcgfohmhbcabDoor.Rc
open Go.RowKit

/-- Block g holds a slip: the taps' slice, the place, what is missing. -/
def SB (w : World) (g : Nat) (v : Value) (a m : Int) : Prop := w.heap[g]? = some (.cells #[v, .int .i64 a, .int .i64 m] 84 (0, 0))
theorem SB.lt {w : World} {g : Nat} {v : Value} {a m : Int} (h : SB w g v a m) : g < w.heap.size := (Array.getElem?_eq_some_iff.1 h).1
theorem SB.cells {w : World} {g : Nat} {v : Value} {a m : Int} (h : SB w g v a m) : w.cell? ⟨g, 0, none⟩ = some v ∧ w.cell? ⟨g, 1, none⟩ = some (.int .i64 a) ∧ w.cell? ⟨g, 2, none⟩ = some (.int .i64 m) :=
  ⟨by rw [cell_of_row w g 0 _ _ _ h]; rfl, by rw [cell_of_row w g 1 _ _ _ h]; rfl, by rw [cell_of_row w g 2 _ _ _ h]; rfl⟩
theorem SB.below {w w' : World} {g : Nat} {v : Value} {a m : Int} (h : SB w g v a m) (hb : Below w.heap.size w w') : SB w' g v a m := (hb.block g h.lt).trans h
theorem SB.made (w : World) (v : Value) (a m : Int) : SB (w.alloc (.cells #[v, .int .i64 a, .int .i64 m] 84)) w.heap.size v a m := heap_alloc_new w _
theorem SB.other {w : World} {g : Nat} {v : Value} {a m : Int} (h : SB w g v a m) (ad : Addr) (u : Value) (hne : g ≠ ad.block) : SB (w.setCell ad u) g v a m := (heap_setCell_other w ad g u hne).trans h

set_option maxHeartbeats 4000000 in
theorem mend_any (P i h m d : Nat) (T H : List Int) (v u : Value) (w : World) (hs : smB (P : Int) = true) (hv : Sl w v T) (hu : Sl w u H) (hbT : belB P T = true) (hbH : belB P H = true) (hT : T.length ≤ 60) (hH : H.length ≤ 60) (hi : i < 60) (hh : h ≤ i)
    (hm : 1 ≤ m ∧ m < P) (hd : 1 ≤ d ∧ d < P) (N : Nat) (HN : Hid (N = max T.length (i + 1 - h + H.length))) :
    Calls Tryd.prog 44 #[.int .i64 (P : Int), .agg #[v, .int .i64 (i : Int), .int .i64 (m : Int)], .agg #[u, .int .i64 ((h : Int) - 1), .int .i64 (d : Int)]] w fun e w' => ∃ (g : Nat) (o : Int), e = .returned (.slice (some ⟨g, 0, none⟩) N N) ∧ w.heap.size ≤ g ∧ Own w' g N (mendF P T H (i + 1 - h) o) ∧ (P : Int) ∣ o * d - m ∧ Below w.heap.size w w' := by
  obtain ⟨i3, hi3, hz0, hz1, hz2⟩ := info3
  have hpb := smB_bd hs
  have hp : 2 ≤ P ∧ P ≤ 7 := by omega
  obtain ⟨s, Hs⟩ : ∃ s : Nat, Hid (s = i + 1 - h) := ⟨_, rfl⟩
  have hs1 : 1 ≤ s ∧ s ≤ 60 := by rw [Hs.out]; omega
  have hsi : (i : Int) - ((h : Int) - 1) = (s : Int) := by rw [Hs.out]; omega
  obtain ⟨k, Hk⟩ : ∃ k : Nat, Hid (T.length = k) := ⟨_, rfl⟩
  obtain ⟨l, Hl⟩ : ∃ l : Nat, Hid (H.length = l) := ⟨_, rfl⟩
  have hkl : k ≤ 60 ∧ l ≤ 60 := by rw [← Hk.out, ← Hl.out]; exact ⟨hT, hH⟩
  have hNe : N = max k (s + l) := by rw [HN.out, Hk.out, Hl.out, ← Hs.out]
  have hN : k ≤ N ∧ s + l ≤ N ∧ N ≤ 120 := by omega
  have hmax : max (k : Int) ((s : Int) + (l : Int)) = (N : Int) := by omega
  obtain ⟨b, Hb⟩ : ∃ b : Nat, Hid (b = invN P d) := ⟨_, rfl⟩
  obtain ⟨b1, b2, b3⟩ := invN_ok hs hd.1 hd.2
  rw [← Hb.out] at b1 b2 b3
  have HB3 : Hid (d * b % P = 1) := b3
  have CI : ∀ A, Calls Tryd.prog 58 #[.int .i64 (P : Int), .int .i64 (d : Int)] A fun e B => e = .returned (.int .i64 (b : Int)) ∧ B = A := fun A => by rw [Hb.out]; exact inverse_is P d A hs hd.1 hd.2
  obtain ⟨o, Ho⟩ : ∃ o : Nat, Hid (o = m * b % P) := ⟨_, rfl⟩
  have hmb : (m : Int) * (b : Int) ≤ 7 * 7 := Int.mul_le_mul (by omega) (by omega) (by omega) (by omega)
  have hmb0 : 0 ≤ (m : Int) * (b : Int) := Int.mul_nonneg (by omega) (by omega)
  have hoe : (m : Int) * (b : Int) % (P : Int) = (o : Int) := by rw [Ho.out, Int.natCast_emod, Int.natCast_mul]
  have ho : o < P := by rw [Ho.out]; exact Nat.mod_lt _ (by omega)
  have HOD : Hid ((P : Int) ∣ (o : Int) * d - m) := by
    show (P : Int) ∣ (o : Int) * d - m
    have h1 := emod_dvd (P : Int) ((m : Int) * (b : Int))
    rw [hoe] at h1
    have h2 := Int.dvd_mul_of_dvd_left (c := (d : Int)) h1
    have h3 := emod_dvd (P : Int) ((d : Int) * (b : Int))
    rw [show (d : Int) * (b : Int) % (P : Int) = 1 by rw [← Int.natCast_mul, ← Int.natCast_emod, HB3.out]; rfl] at h3
    have h4 := Int.dvd_mul_of_dvd_right (b := (m : Int)) h3
    have h5 := Int.dvd_sub h2 h4
    rw [Int.sub_mul, Int.mul_sub, Int.mul_one] at h5
    rwa [show (o : Int) * d - (m : Int) * b * d - ((m : Int) - (m : Int) * ((d : Int) * b)) = (o : Int) * d - m by
      rw [Int.mul_comm (d : Int) b, ← Int.mul_assoc (m : Int)]; omega] at h5
  obtain ⟨va, vc, rfl, hvc⟩ := id hv
  obtain ⟨ua, uc, rfl, huc⟩ := id hu
  rw [Hk.out] at hvc ⊢
  rw [Hl.out] at huc ⊢
  have HV : Hid (∀ j, j < k → ∃ g o, va = some ⟨g, o, none⟩ ∧ w.cell? ⟨g, o + j, none⟩ = some (.int .i64 (T.getD j 0))) := hvc
  have HU : Hid (∀ j, j < l → ∃ g o, ua = some ⟨g, o, none⟩ ∧ w.cell? ⟨g, o + j, none⟩ = some (.int .i64 (H.getD j 0))) := huc
  have HTb : Hid (∀ j, 0 ≤ T.getD j 0 ∧ T.getD j 0 < P) := fun j => by
    by_cases hj : j < T.length
    · exact belB_iff.1 hbT j hj
    · rw [List.getD_eq_getElem?_getD, List.getElem?_eq_none (by omega)]
      show (0 : Int) ≤ 0 ∧ (0 : Int) < P
      omega
  have HHb : Hid (∀ j, j < l → 0 ≤ H.getD j 0 ∧ H.getD j 0 < P) := by show ∀ j, j < l → _; rw [← Hl.out]; exact belB_iff.1 hbH
  have hB2 : Below w.heap.size w ((w.alloc (.cells #[.slice va k vc, .int .i64 (i : Int), .int .i64 (m : Int)] 84)).alloc (.cells #[.slice ua l uc, .int .i64 ((h : Int) - 1), .int .i64 (d : Int)] 84)) := (balloc w _).alloc (by simp) _
  clear hvc huc hv hu hpb hi hT hH b3
  rw [← Hs.out]
  have hcase : (N = k ∧ (s : Int) + (l : Int) ≤ (k : Int)) ∨ (N = s + l ∧ (k : Int) < (s : Int) + (l : Int)) := by omega
  have HNe : Hid (N = max k (s + l)) := hNe
  have S1 : SB ((w.alloc (.cells #[.slice va k vc, .int .i64 (i : Int), .int .i64 (m : Int)] 84)).alloc (.cells #[.slice ua l uc, .int .i64 ((h : Int) - 1), .int .i64 (d : Int)] 84)) w.heap.size (.slice va k vc) i m := (SB.made w _ _ _).below (balloc _ _)
  have S2 : SB ((w.alloc (.cells #[.slice va k vc, .int .i64 (i : Int), .int .i64 (m : Int)] 84)).alloc (.cells #[.slice ua l uc, .int .i64 ((h : Int) - 1), .int .i64 (d : Int)] 84)) (w.heap.size + 1) (.slice ua l uc) ((h : Int) - 1) d := by
    have h := SB.made (w.alloc (.cells #[.slice va k vc, .int .i64 (i : Int), .int .i64 (m : Int)] 84)) (.slice ua l uc) ((h : Int) - 1) d
    rw [World.size_alloc] at h; exact h
  obtain ⟨w0, Hw0⟩ : ∃ w0, Hid (w0 = (w.alloc (.cells #[.slice va k vc, .int .i64 (i : Int), .int .i64 (m : Int)] 84)).alloc (.cells #[.slice ua l uc, .int .i64 ((h : Int) - 1), .int .i64 (d : Int)] 84)) := ⟨_, rfl⟩
  have hw0 : w0.heap.size = w.heap.size + 2 := by rw [Hw0.out]; simp
  rw [← Hw0.out] at S1 S2 hB2
  obtain ⟨sm, Hsm⟩ : ∃ x : Nat, Hid (x = s - 1) := ⟨_, rfl⟩
  have hsm : (s : Int) - 1 = (sm : Int) := by rw [Hsm.out]; omega
  have hsmN : sm < N := by rw [Hsm.out]; omega
  clear hNe hmax
  have hsz : (Tryd.prog.info? 3).map (·.size) = some 1 := by kernel_rfl
  have hcase' : (Hid (N = k) ∧ (s : Int) + (l : Int) ≤ (k : Int)) ∨ (Hid (N = s + l) ∧ (k : Int) < (s : Int) + (l : Int)) := hcase
  clear hcase
  rcases hcase' with ⟨eN, hcmp⟩ | ⟨eN, hcmp⟩
  all_goals
    go_enter Tryd.func44, Tryd.ntmps44
    go_wp2
    go_quiet ((go_at_call 58; exact Calls.quiet_of_same (CI _)))
    go_wp2_with (first
      | (at_make; refine wpList_make_full _ rfl _ _ 23 rfl (w.heap.size + 2) 3 i3 (.int .i64 0) 1 und22 hi3 hz0 hz1 .i64 .i64 _ _ N rfl rfl ?e1 ?e2 ?c1 ?c2 ?c3 ?_))
    case e1 => have := eN.out; omega
    case e2 => have := eN.out; omega
    case c1 => rw [hz2]; omega
    case c2 => unfold maxLen; omega
    case c3 => simp
    intro w3 how3 hgr3
    rw [← Hw0.out] at hgr3
    have hb3 : Below (w.heap.size + 2) w0 w3 := ⟨hgr3.os, hgr3.tape, hgr3.output, hgr3.size, fun k hk => hgr3.block k (by show k < w0.heap.size; omega) (by simp)⟩
    obtain ⟨cur, HC3⟩ : ∃ cur : List Value, Hid (w3.heap[w.heap.size + 1 + 1]? = some (.cells cur.toArray 3 (0, 0)) ∧ cur.length = N ∧ ∀ j, j < N → cur[j]? = some (.int .i64 0)) := by
      have hO := own_made' how3
      obtain ⟨_, ⟨h1, _⟩ | ⟨g', cap, cu, e, _, hg, _, _, h4, _⟩⟩ := how3
      · cases h1
      · cases e
        obtain ⟨cu', hg', hc'⟩ := hO
        rw [hg] at hg'
        cases hg'
        refine ⟨cu.toList, by simpa using hg, by simpa using h4, fun j hj => ?_⟩
        rw [Array.getElem?_toList]; exact hc' j hj
    have S13 : SB w3 w.heap.size (.slice va k vc) i m := (hb3.block w.heap.size (by omega)).trans S1
    have S23 : SB w3 (w.heap.size + 1) (.slice ua l uc) ((h : Int) - 1) d := (hb3.block (w.heap.size + 1) (by omega)).trans S2
    have q13 := S13.cells.1
    clear how3 hgr3
    go_wp2_with (first
      | (refine wpList_copy_splice rfl _ _ 23 23 rfl 3 und22 hsz (some ⟨w.heap.size + 1 + 1, 0, none⟩) va N N k vc rfl rfl (w.heap.size + 1 + 1) 0 cur 3 HC3.out.1 (T.map (Value.int .i64)) ?f1 ?f2 ?f3 ?f4 (w.heap.size + 2) w0 hb3 ?f5 ?_)
      | go_in)
    case f1 => rw [List.length_map, Hk.out]; show k = min k N; omega
    case f2 =>
      intro hpos
      rw [Hk.out] at hpos
      obtain ⟨g, off, e, _⟩ := HV.out 0 hpos
      refine ⟨⟨g, off, none⟩, e, fun j y hy => ?_⟩
      have hjk : j < k := by rw [← Hk.out]; exact (List.getElem?_eq_some_iff.1 hy).1
      obtain ⟨g', off', e', hc'⟩ := HV.out j hjk
      rw [e] at e'
      cases e'
      have hlt : g < w.heap.size := block_lt_of_cell hc'
      have hc3 : w3.cell? ⟨g, off + j, none⟩ = w.cell? ⟨g, off + j, none⟩ := World.cell?_of_block (a := ⟨g, off + j, none⟩) ((hb3.block g (by omega)).trans (hB2.block g hlt))
      rw [show (⟨g, off, none⟩ : Addr).add j = ⟨g, off + j, none⟩ by simp [Addr.add]]
      rw [hc3, hc', List.getD_eq_getElem?_getD, hy]; rfl
    case f3 => rw [List.length_map, Hk.out, HC3.out.2.1]; omega
    case f4 => intro x hx; rw [List.mem_map] at hx; obtain ⟨y, _, rfl⟩ := hx; rfl
    case f5 => omega
    intro w4 HG4 hb4
    have hO4 : Own w4 (w.heap.size + 1 + 1) N (fun a => T.getD a 0) := by
      refine ⟨_, HG4.out, fun j hj => ?_⟩
      rw [List.getElem?_toArray]
      unfold splice
      rw [List.take_zero, List.nil_append]
      show _ = some (Value.int .i64 (T.getD j 0))
      by_cases hjk : j < k
      · rw [List.getElem?_append_left (by rw [List.length_map, Hk.out]; exact hjk), List.getElem?_map, List.getD_eq_getElem?_getD]
        rw [List.getElem?_eq_getElem (by rw [Hk.out]; exact hjk)]; rfl
      · rw [List.getElem?_append_right (by rw [List.length_map, Hk.out]; omega), List.length_map, Hk.out, Nat.zero_add, List.getElem?_drop, show k + (j - k) = j by omega, HC3.out.2.2 j hj]
        rw [List.getD_eq_getElem?_getD, List.getElem?_eq_none (by rw [Hk.out]; omega)]; rfl
    have S24 : SB w4 (w.heap.size + 1) (.slice ua l uc) ((h : Int) - 1) d := (hb4.block (w.heap.size + 1) (by omega)).trans S2
    have hB4 : Below w.heap.size w w4 := hB2.trans (hb4.mono (by omega))
    obtain ⟨t0, Ht0⟩ : ∃ x : Int, Hid (x = T.getD sm 0) := ⟨_, rfl⟩
    have ht0 := HTb.out sm
    have qc := hO4.cell sm hsmN
    rw [← Ht0.out] at ht0 qc
    have qf := hO4.frozen sm
    obtain ⟨x1, Hx1⟩ : ∃ x : Int, Hid (x = (t0 + o) % (P : Int)) := ⟨_, rfl⟩
    have hx1 : (t0 + (o : Int)) % (P : Int) = x1 := Hx1.out.symm
    have S25 := S24.other ⟨w.heap.size + 1 + 1, sm, none⟩ (.int .i64 x1) (by simp)
    have q25 := S25.cells.1
    have hO5 := hO4.set sm x1
    have hB5 : Below w.heap.size w (w4.setCell ⟨w.heap.size + 1 + 1, sm, none⟩ (.int .i64 x1)) := hB4.setCell (p := ⟨w.heap.size + 1 + 1, sm, none⟩) (by simp; omega) _
    clear HC3 hb3 S13 S23 q13 HG4
    go_wp2
    go_loopw [56] (fun c wr => ∃ j : Nat, c = .int .i64 j ∧ j ≤ l ∧ Own wr (w.heap.size + 1 + 1) N (fun a => if a = s - 1 then (T.getD a 0 + o) % (P : Int) else if s ≤ a ∧ a < s + j then (T.getD a 0 + o * (P - H.getD (a - s) 0)) % (P : Int) else T.getD a 0) ∧ Below w.heap.size w wr) (fun c _ => (l - intOf c).toNat)
    case atStart =>
      refine ⟨0, rfl, by omega, hO5.congr (fun a _ => ?_), hB5⟩
      unfold upd
      rw [Hsm.out]
      by_cases e : a = s - 1
      · rw [if_pos e, if_pos e, Hx1.out, Ht0.out, Hsm.out, ← e]
      · rw [if_neg e, if_neg e, if_neg (by omega)]
    case round =>
      obtain ⟨j, rfl, hj, hO, hB⟩ := hrel
      by_cases hlt : j < l
      · have hji : (j : Int) < l := by omega
        obtain ⟨g, off, rfl, hcz0⟩ := HU.out j hlt
        have hcz := (hB.cell (p := ⟨g, off + j, none⟩) (block_lt_of_cell hcz0)).trans hcz0
        obtain ⟨z, Hz⟩ : ∃ z : Int, Hid (z = H.getD j 0) := ⟨_, rfl⟩
        have hz := HHb.out j hlt
        rw [← Hz.out] at hz hcz
        obtain ⟨sj, Hsj⟩ : ∃ x : Nat, Hid (x = s + j) := ⟨_, rfl⟩
        have hsj : (s : Int) + (j : Int) = (sj : Int) := by rw [Hsj.out]; omega
        have hsjN : sj < N := by rw [Hsj.out]; omega
        obtain ⟨t, Ht⟩ : ∃ x : Int, Hid (x = T.getD sj 0) := ⟨_, rfl⟩
        have ht := HTb.out sj
        have qt := hO.cell sj hsjN
        rw [show (if sj = s - 1 then (T.getD sj 0 + (o : Int)) % (P : Int) else if s ≤ sj ∧ sj < s + j then (T.getD sj 0 + o * (P - H.getD (sj - s) 0)) % (P : Int) else T.getD sj 0) = t by
          rw [if_neg (by rw [Hsj.out]; omega), if_neg (by rw [Hsj.out]; omega), Ht.out]] at qt
        rw [← Ht.out] at ht
        have qtf := hO.frozen sj
        have hpz : 0 ≤ (P : Int) - z ∧ (P : Int) - z ≤ 7 := by omega
        have hq0 : 0 ≤ (o : Int) * ((P : Int) - z) := Int.mul_nonneg (by omega) hpz.1
        have hq9 : (o : Int) * ((P : Int) - z) ≤ 7 * 7 := Int.mul_le_mul (by omega) hpz.2 hpz.1 (by omega)
        obtain ⟨x, Hx⟩ : ∃ x : Int, Hid (x = (t + o * (P - z)) % (P : Int)) := ⟨_, rfl⟩
        have hx : (t + (o : Int) * ((P : Int) - z)) % (P : Int) = x := Hx.out.symm
        clear hcz0
        go_wp2
        go_roundw
        case rel =>
          refine ⟨j + 1, by go_num, by omega, (hO.set sj x).congr (fun a _ => ?_), hB.setCell (p := ⟨w.heap.size + 1 + 1, sj, none⟩) (by simp; omega) _⟩
          unfold upd
          by_cases e : a = sj
          · subst e
            rw [if_pos rfl, if_neg (by rw [Hsj.out]; omega), if_pos (by rw [Hsj.out]; omega), Hx.out, Ht.out, Hz.out, show a - s = j by rw [Hsj.out]; omega]
          · rw [if_neg e]
            show (if a = s - 1 then (T.getD a 0 + (o : Int)) % (P : Int) else if s ≤ a ∧ a < s + j then (T.getD a 0 + o * (P - H.getD (a - s) 0)) % (P : Int) else T.getD a 0) = (if a = s - 1 then (T.getD a 0 + (o : Int)) % (P : Int) else if s ≤ a ∧ a < s + (j + 1) then (T.getD a 0 + o * (P - H.getD (a - s) 0)) % (P : Int) else T.getD a 0)
            have e' : a ≠ s + j := by rw [← Hsj.out]; exact e
            by_cases e1 : a = s - 1
            · rw [if_pos e1, if_pos e1]
            · rw [if_neg e1, if_neg e1]
              by_cases e2 : s ≤ a ∧ a < s + j
              · rw [if_pos e2, if_pos (by omega)]
              · rw [if_neg e2, if_neg (by omega)]
        case measure => simp [intOf]; omega
      · obtain rfl : j = l := by omega
        go_wp2
        go_ret
        refine ⟨w.heap.size + 1 + 1, o, rfl, by omega, hO.congr (fun a _ => ?_), HOD.out, hB⟩
        unfold mendF
        rw [Hl.out]

end Go.Proofs.YtcjkcgfohmhbcabDoor.Rc

namespace Go.Proofs.YtcjkcgfohmhbcabDoor.Rc
open Go.RowKit

theorem inf66 : (Tryd.prog.info? 84).map (·.size) = some 3 := by kernel_rfl
theorem und66 : ∃ fs, Tryd.prog.underlying 84 = some (.struct fs) := by
  have h2 : (match Tryd.prog.underlying 84 with | some (.struct _) => true | _ => false) = true := by kernel_rfl
  split at h2
  · rename_i fs e; exact ⟨fs, e⟩
  · cases h2
theorem one3 (v : Value) (a m : Int) (h : v.oneCell' = true) : (#[v, Value.int .i64 a, Value.int .i64 m] : Array Value).all (·.oneCell') = true := by cases v <;> simp_all [Value.oneCell']
theorem SB.whole {w : World} {g : Nat} {v : Value} {a m : Int} (h : SB w g v a m) (v' : Value) (a' m' : Int) : SB (w.setRow g #[v', .int .i64 a', .int .i64 m']) g v' a' m' := setRow_heap w g _ _ _ _ h

theorem slSetRow {w : World} {v : Value} {l : List Int} {g : Nat} (h : Sl w v l) (hne : ∀ b off n c, v = .slice (some ⟨b, off, none⟩) n c → b ≠ g) (cs : Array Value) : Sl (w.setRow g cs) v l := by
  obtain ⟨a, cap, rfl, hc⟩ := h
  refine ⟨a, cap, rfl, fun j hj => ?_⟩
  obtain ⟨b, off, e, hcj⟩ := hc j hj
  subst e
  exact ⟨b, off, rfl, (World.cell?_of_block (a := ⟨b, off + j, none⟩) (setRow_other w g b cs (hne b off _ cap rfl))).trans hcj⟩

/-- The shortest taps: they make the row, and none that do are shorter. -/
def LeastTaps (p : Int) (S T : List Int) : Prop := belB p T = true ∧ T.length ≤ S.length ∧ Makes p T (fun j => S.getD j 0) S.length ∧ ∀ U, Makes p U (fun j => S.getD j 0) S.length → T.length ≤ U.length

set_option maxHeartbeats 4000000 in
theorem shortest_any (P : Nat) (S : List Int) (u : Value) (w : World) (hs : smB (P : Int) = true) (hu : Sl w u S) (hbS : belB P S = true) (hS : S.length ≤ 60) :
    Calls Tryd.prog 26 #[.int .i64 (P : Int), u] w fun e w' => ∃ (v : Value) (T : List Int), e = .returned v ∧ Sl w' v T ∧ LeastTaps P S T ∧ Below w.heap.size w w' := by
  have hpb := smB_bd hs
  have hp : 2 ≤ P ∧ P ≤ 7 := by omega
  obtain ⟨n, Hn⟩ : ∃ n : Nat, Hid (S.length = n) := ⟨_, rfl⟩
  have hn : n ≤ 60 := by rw [← Hn.out]; exact hS
  obtain ⟨ua, uc, rfl, _⟩ := id hu
  obtain ⟨f, Hf⟩ : ∃ f : Nat → Int, Hid (f = fun j => S.getD j 0) := ⟨_, rfl⟩
  have C1 : ∀ A T v (i : Nat), Below w.heap.size w A → Sl A v T → belB P T = true → i < n → T.length ≤ i → Calls Tryd.prog 43 #[.int .i64 (P : Int), v, .slice ua n uc, .int .i64 (i : Int)] A fun e B => ∃ m : Nat, e = .returned (.int .i64 (m : Int)) ∧ m < P ∧ Hid ((P : Int) ∣ f i - dot T f i - m) ∧ B = A := by
    intro A T v i hA hv hb hi hT
    have h := missing_any P i T S v _ A hs hv (hu.below hA) hb hbS (by rw [Hn.out]; exact hi) hT hS
    rw [Hn.out] at h
    rw [Hf.out]; exact h
  rw [Hn.out]
  have hB1 := balloc w (.cells #[.slice none 0 0, .int .i64 (-1), .int .i64 1] 84)
  have hS1 := SB.made w (.slice none 0 0) (-1) 1
  have hS0 := SB.made w (.slice none 0 0) 0 0
  clear hpb
  go_enter Tryd.func26, Tryd.ntmps26
  go_wp2_with (first
    | (refine wpList_store_row rfl 84 _ _ rfl w.heap.size #[.slice none 0 0, .int .i64 (-1), .int .i64 1] rfl rfl 84 _ hS0 inf66 rfl (one3 _ _ _ rfl) ?_))
  have hBM0 : BM P f 0 [] [] 0 1 := BM.start (by omega) f
  have HBM0 : Hid (BM P f 0 [] [] 0 1) := hBM0
  have HV0 : Hid (∀ b off n' c', Value.slice none 0 0 = .slice (some ⟨b, off, none⟩) n' c' → b ≠ w.heap.size) := by
    intro b off n' c' e
    cases e
  clear hBM0
  go_loopw [5, 13] (fun v c wr => ∃ (t h d : Nat) (T H : List Int) (uH : Value), c = .int .i64 t ∧ t ≤ n ∧ Hid (∀ b off n' c', v = .slice (some ⟨b, off, none⟩) n' c' → b ≠ w.heap.size) ∧ Sl wr v T ∧ Sl wr uH H ∧ SB wr w.heap.size uH ((h : Int) - 1) d ∧ Hid (BM P f t T H h d) ∧ Below w.heap.size w wr) (fun _ c _ => (n - intOf c).toNat)
  case atStart =>
    first
      | exact ⟨0, 0, 1, [], [], .slice none 0 0, rfl, by omega, HV0, Sl.nil _, Sl.nil _, hS1, HBM0, hB1⟩
      | exact ⟨0, 0, 1, [], [], .slice none 0 0, rfl, by omega, HV0, Sl.nil _, Sl.nil _, hS0.whole _ _ _, HBM0, bsetRow (balloc w _) (Nat.le_refl _) _⟩
  case round =>
    obtain ⟨t, h, d, T, H, uH, rfl, ht, HVA, hT, hH, hSB, HBM, hB⟩ := hrel
    by_cases hlt : t < n
    · have hti : (t : Int) < n := by omega
      have hBM := HBM.out
      have hTt := hBM.len
      have hdd := hBM.miss
      have hhl : h ≤ t ∧ H.length ≤ 60 := by
        rcases hBM.help with ⟨e1, e2, _⟩ | ⟨e1, e2, e3, _⟩
        · rw [e1, e2]; simp
        · omega
      have hbT := hBM.bT
      have hbH := hBM.bH
      clear hBM
      have R1 := C1 wr T _ t hB hT hbT hlt hTt
      obtain ⟨va, vc, rfl, _⟩ := id hT
      obtain ⟨ha, hc, rfl, _⟩ := id hH
      go_wp2_with fail
      refine R1.mono ?_
      rintro e w1 ⟨m, rfl, hmP, HM, hw⟩
      replace hw := hw.symm
      subst hw
      by_cases hm0 : m = 0
      · subst hm0
        have HB' : Hid (BM P f (t + 1) T H h d) := HBM.out.go (by
          have h1 := HM.out
          rw [show f t - dot T f t - ((0 : Nat) : Int) = f t - dot T f t by omega] at h1; exact h1)
        go_wp2
        go_roundw
        case rel => exact ⟨t + 1, h, d, T, H, _, by go_num, by omega, HVA, hT, hH, hSB, HB', hB⟩
        case measure => simp [intOf]; omega
      · have hmd : ((m : Int) == 0) = false := by simp; omega
        obtain ⟨N, HN⟩ : ∃ N : Nat, Hid (N = max T.length (t + 1 - h + H.length)) := ⟨_, rfl⟩
        have hN9 : N ≤ 200 := by rw [HN.out]; omega
        have R2 := mend_any P t h m d T H _ _ wr hs hT hH hbT hbH (by omega) hhl.2 (by omega) hhl.1 ⟨by omega, hmP⟩ ⟨by omega, by omega⟩ N HN
        obtain ⟨k, Hk⟩ : ∃ k : Nat, Hid (T.length = k) := ⟨_, rfl⟩
        have hk : k ≤ 60 := by rw [← Hk.out]; omega
        have hT' := hT
        have HVA' := HVA
        rw [Hk.out] at R2 hT' HVA' ⊢
        go_wp2_with (first
          | (refine wpList_load_row rfl 84 _ rfl w.heap.size rfl 84 _ (0, 0) _ hSB und66.choose_spec rfl inf66 ?_))
        refine R2.mono ?_
        rintro e w2 ⟨g, o, rfl, hg, hO2, hod, hb2⟩
        have HOD : Hid ((P : Int) ∣ o * d - m) := hod
        clear hod
        have hLen : (mendL P T H (t + 1 - h) o).length = N := by rw [mendL_len, HN.out]
        have hS2 : Sl w2 (.slice (some ⟨g, 0, none⟩) N N) (mendL P T H (t + 1 - h) o) := by
          have h1 := hO2.sl N
          have e1 : (List.range N).map (mendF P T H (t + 1 - h) o) = mendL P T H (t + 1 - h) o := by unfold mendL; rw [← HN.out]
          rw [e1] at h1; exact h1
        have hB2 := hB.trans (hb2.mono hB.size)
        have hSB2 := hSB.below hb2
        have HVG : Hid (∀ b off n' c', Value.slice (some ⟨g, 0, none⟩) N N = .slice (some ⟨b, off, none⟩) n' c' → b ≠ w.heap.size) := by
          intro b off n' c' e
          have hlt0 := hSB.lt
          simp only [Value.slice.injEq, Option.some.injEq, Addr.mk.injEq] at e
          omega
        by_cases hgt : k < N
        · have hd1 : decide ((k : Int) < (N : Int)) = true := by simp; omega
          have HB' : Hid (BM P f (t + 1) (mendL P T H (t + 1 - h) o) T (t + 1) m) := HBM.out.grow (by omega) HM.out ⟨by omega, by omega⟩ HOD.out (by rw [hLen, Hk.out]; exact hgt)
          have hSB3 := hSB2.whole (.slice va k vc) t m
          have hB3 : Below w.heap.size w (w2.setRow w.heap.size #[.slice va k vc, .int .i64 (t : Int), .int .i64 (m : Int)]) := bsetRow hB2 (Nat.le_refl _) _
          clear hLen
          go_wp2_with (first
            | (refine wpList_store_row rfl 84 _ _ rfl w.heap.size #[.slice va k vc, .int .i64 (t : Int), .int .i64 (m : Int)] rfl rfl 84 _ hSB2 inf66 rfl (one3 _ _ _ rfl) ?_))
          go_roundw
          case rel =>
            have hsT : Sl (w2.setRow w.heap.size #[.slice va k vc, .int .i64 (t : Int), .int .i64 (m : Int)]) (.slice (some ⟨g, 0, none⟩) N N) (mendL P T H (t + 1 - h) o) := slSetRow hS2 HVG.out _
            have hsH : Sl (w2.setRow w.heap.size #[.slice va k vc, .int .i64 (t : Int), .int .i64 (m : Int)]) (.slice va k vc) T := slSetRow (hT'.below hb2) HVA'.out _
            exact ⟨t + 1, t + 1, m, _, T, _, by go_num, by omega, HVG, hsT, hsH, by rw [show ((t + 1 : Nat) : Int) - 1 = (t : Int) by omega]; exact hSB3, HB', hB3⟩
          case measure => simp [intOf]; omega
        · have hd1 : decide ((k : Int) < (N : Int)) = false := by simp; omega
          have HB' : Hid (BM P f (t + 1) (mendL P T H (t + 1 - h) o) H h d) := HBM.out.keep (by omega) HM.out ⟨by omega, by omega⟩ HOD.out (by rw [hLen, Hk.out]; omega)
          clear hLen
          go_wp2
          go_roundw
          case rel => exact ⟨t + 1, h, d, _, H, _, by go_num, by omega, HVG, hS2, hH.below hb2, hSB2, HB', hB2⟩
          case measure => simp [intOf]; omega
    · obtain rfl : t = n := by omega
      obtain ⟨va, vc, rfl, _⟩ := id hT
      go_wp2
      go_ret
      have hBM := HBM.out
      rw [Hf.out] at hBM
      refine ⟨_, T, rfl, hT, ⟨hBM.bT, ?_, ?_, ?_⟩, hB⟩
      · rw [Hn.out]; exact hBM.len
      · rw [Hn.out]; exact hBM.makes
      · rw [Hn.out]; exact hBM.least

set_option maxHeartbeats 2000000 in
theorem Least_ok (P : Nat) (S : List Int) (u : Value) (w : World) (hs : smB (P : Int) = true) (hu : Sl w u S) (hbS : belB P S = true) (hS : S.length ≤ 60) :
    Calls Tryd.prog 9 #[.int .i64 (P : Int), u] w fun e w' => ∃ (v : Value) (T R : List Int), e = .returned (.tuple #[.int .i64 (T.length : Int), v, .int .i64 0]) ∧ Sl w' v R ∧ LeastTaps P S T ∧ (2 * T.length ≤ S.length → R = T) ∧ (S.length < 2 * T.length → R = []) ∧ Below w.heap.size w w' := by
  have C1 := fun A => isPrime_any (P : Int) A
  rw [hs] at C1
  have C2 := allBelow_any S u P w hu (by unfold maxLen; omega)
  rw [hbS] at C2
  have C3 := shortest_any P S u w hs hu hbS hS
  obtain ⟨ua, uc, rfl, _⟩ := id hu
  have hd : decide ((60 : Int) < (S.length : Int)) = false := by simp; omega
  obtain ⟨n, Hn⟩ : ∃ n : Nat, Hid (S.length = n) := ⟨_, rfl⟩
  have hn : n ≤ 60 := by rw [← Hn.out]; exact hS
  rw [Hn.out] at C2 C3 hd ⊢
  go_enter Tryd.func9, Tryd.ntmps9
  go_wp2_with (first
    | (go_at_call 15; refine (C1 _).mono ?_; rintro e w1 ⟨rfl, hw⟩; replace hw := hw.symm; subst hw)
    | (go_at_call 25; refine C2.mono ?_; rintro e w1 ⟨rfl, hw⟩; replace hw := hw.symm; subst hw))
  refine C3.mono ?_
  rintro e w2 ⟨v, T, rfl, hT, hL, hb2⟩
  have HL : Hid (LeastTaps P S T) := hL
  obtain ⟨k, Hk⟩ : ∃ k : Nat, Hid (T.length = k) := ⟨_, rfl⟩
  have hk : k ≤ n := by rw [← Hk.out, ← Hn.out]; exact hL.2.1
  clear hL
  obtain ⟨va, vc, rfl, _⟩ := id hT
  rw [Hk.out]
  by_cases hc : n < 2 * k
  · have hdc : decide ((n : Int) < 2 * (k : Int)) = true := by simp; omega
    go_wp2
    exact bodyPost_ret (v := .tuple #[.int .i64 (k : Int), .slice none 0 0, .int .i64 0]) (by simp [results, Tryd.results9, go_sem]) rfl ⟨_, T, [], by rw [Hk.out], Sl.nil _, HL.out, fun h => by rw [Hk.out] at h; omega, fun _ => rfl, hb2⟩
  · have hdc : decide ((n : Int) < 2 * (k : Int)) = false := by simp; omega
    have hT' := hT
    rw [Hk.out] at hT'
    go_wp2
    exact bodyPost_ret (v := .tuple #[.int .i64 (k : Int), .slice va k vc, .int .i64 0]) (by simp [results, Tryd.results9, go_sem]) rfl ⟨_, T, T, by rw [Hk.out], hT', HL.out, fun _ => rfl, fun h => by rw [Hk.out] at h; omega, hb2⟩

end Go.Proofs.YtcjkcgfohmhbcabDoor.Rc

/- The walks of Run and of RowOf. -/
namespace Go.Proofs.YtcjkcgfohmhbcabDoor.Rc
open Go.RowKit

theorem win0 {p : Int} {taps seed : List Int} (hsl : seed.length = taps.length) : winN p taps seed 0 = numL p seed := by
  unfold winN numL
  rw [hsl]
  exact numP_congr (fun j hj => by rw [Nat.zero_add, rowN_seed (by omega)])

set_option maxHeartbeats 1000000 in
theorem Run_ok (p : Int) (n : Nat) (l m : List Int) (v u : Value) (w : World) (hl : Sl w v l) (hll : l.length ≤ maxLen) (hm : Sl w u m) (hml : m.length ≤ maxLen) (hz : runF p l m = 0) (hn : n ≤ 5000) :
    Calls Tryd.prog 8 #[.int .i64 p, v, u, .int .i64 n] w fun e w' => ∃ r, e = .returned (.tuple #[r, .int .i64 0]) ∧ w'.ownsRow w.heap.size 3 1 r n ((rowL p l m n).map (Value.int .i64)) ∧ Below w.heap.size w w' := by
  obtain ⟨h1, h2, h3⟩ := runF_ok hz
  obtain ⟨t1, t2, t3, t4⟩ := tapsF_ok h1
  have hpb := smB_bd t1
  have C := begin_ok p l m v u w hl hll hm hml hz
  obtain ⟨P, rfl⟩ := Int.eq_ofNat_of_zero_le (show 0 ≤ p by omega)
  obtain ⟨a, cap, rfl, _⟩ := id hl
  obtain ⟨x, Hx⟩ : ∃ x : Int, Hid (x = numL P m) := ⟨_, rfl⟩
  rw [← Hx.out] at C
  have R : ∀ A, Sl A (.slice a l.length cap) l → Calls Tryd.prog 24 #[.agg #[.int .i64 P, .slice a l.length cap], .int .i64 x, .int .i64 n] A fun e B => ∃ r, e = .returned r ∧ B.ownsRow A.heap.size 3 1 r n ((rowL P l m n).map (Value.int .i64)) ∧ Below A.heap.size A B := by
    intro A hA
    have h := run_any P n l m (.slice a l.length cap) A (by omega) (by omega) t2 t3 t4 h2 h3 hA hn
    rw [win0 h2, ← Hx.out] at h; exact h
  have hd : decide ((n : Int) < 0) = false := by simp
  have hd2 : decide ((5000 : Int) < (n : Int)) = false := by simp <;> omega
  go_enter Tryd.func8, Tryd.ntmps8
  go_wp2_with (first
    | (go_at_call 19; refine C.mono ?_; rintro e w1 ⟨rfl, hb1⟩
       have hN := RB.made w1 0 (.slice none 0 0)
       obtain ⟨w2, Hw2⟩ : ∃ w2, Hid (w2 = (w1.alloc (.cells #[.int .i64 0, .slice none 0 0] 51)).setRow w1.heap.size #[.int .i64 (P : Int), .slice a l.length cap]) := ⟨_, rfl⟩
       have hN2 : RB w2 w1.heap.size P (.slice a l.length cap) := by rw [Hw2.out]; exact hN.whole _ _
       have hB2 : Below w.heap.size w w2 := by rw [Hw2.out]; exact bsetRow (hb1.alloc hb1.size _) hb1.size _
       have R2 := R w2 (hl.below hB2))
    | (refine wpList_store_row rfl 51 _ _ rfl w1.heap.size #[.int .i64 P, .slice a l.length cap] rfl rfl 51 _ hN inf47 rfl (one2 _ _ rfl) ?_; rw [← Hw2.out])
    | (refine wpList_load_row rfl 51 _ rfl w1.heap.size rfl 51 _ (0, 0) _ hN2 und47.choose_spec rfl inf47 ?_)
    | (go_at_call 24; refine R2.mono ?_; rintro e w3 ⟨r, rfl, hown, hb3⟩))
  go_ret2
  exact ⟨r, rfl, ownsRow_base hown hB2.size, hB2.trans (hb3.mono hB2.size)⟩

end Go.Proofs.YtcjkcgfohmhbcabDoor.Rc

/- The walk of Period, and the law RecurPeriods: when any row comes again. -/
namespace Go.Proofs.YtcjkcgfohmhbcabDoor.Rc
open Go.RowKit

set_option maxHeartbeats 2000000 in
theorem Period_ok (p : Int) (l m : List Int) (v u : Value) (w : World) (hl : Sl w v l) (hll : l.length ≤ maxLen) (hm : Sl w u m) (hml : m.length ≤ maxLen) (hz : runF p l m = 0) (hQ : p.toNat ^ l.length ≤ 20000) :
    Calls Tryd.prog 6 #[.int .i64 p, v, u] w fun e w' => ∃ x y : Nat, e = .returned (.tuple #[.int .i64 x, .int .i64 y, .int .i64 0]) ∧ PerIs (winN p l m) x y ∧ Below w.heap.size w w' := by
  obtain ⟨h1, h2, h3⟩ := runF_ok hz
  obtain ⟨t1, t2, t3, t4⟩ := tapsF_ok h1
  have hpb := smB_bd t1
  have C := begin_ok p l m v u w hl hll hm hml hz
  obtain ⟨P, rfl⟩ := Int.eq_ofNat_of_zero_le (show 0 ≤ p by omega)
  rw [Int.toNat_natCast] at hQ
  obtain ⟨a, cap, rfl, _⟩ := id hl
  obtain ⟨x, Hx⟩ : ∃ x : Int, Hid (x = numL P m) := ⟨_, rfl⟩
  rw [← Hx.out] at C
  obtain ⟨q, Hq⟩ : ∃ q : Nat, Hid (q = P ^ l.length) := ⟨_, rfl⟩
  have CS : ∀ A, Calls Tryd.prog 20 #[.agg #[.int .i64 P, .slice a l.length cap]] A fun e B => e = .returned (.int .i64 (q : Int)) ∧ Below A.heap.size A B := by
    intro A
    have h := states_any P l.length a cap A (by omega) (by omega) t3
    rw [show (P : Int) ^ l.length = (q : Int) by rw [Hq.out, Int.natCast_pow]] at h; exact h
  rw [← Hq.out] at hQ
  have R : ∀ A, Sl A (.slice a l.length cap) l → Calls Tryd.prog 18 #[.agg #[.int .i64 P, .slice a l.length cap], .int .i64 x] A fun e B => ∃ x y : Nat, e = .returned (.tuple #[.int .i64 x, .int .i64 y]) ∧ PerIs (winN P l m) x y ∧ Below A.heap.size A B := by
    intro A hA
    have h := period_any P q l m (.slice a l.length cap) A (by omega) (by omega) t2 t3 t4 h2 h3 hA Hq.out hQ
    rw [win0 h2, ← Hx.out] at h; exact h
  have hd : decide ((20000 : Int) < (q : Int)) = false := by simp; omega
  go_enter Tryd.func6, Tryd.ntmps6
  go_wp2_with (first
    | (go_at_call 19; refine C.mono ?_; rintro e w1 ⟨rfl, hb1⟩
       have hN := RB.made w1 0 (.slice none 0 0)
       obtain ⟨w2, Hw2⟩ : ∃ w2, Hid (w2 = (w1.alloc (.cells #[.int .i64 0, .slice none 0 0] 51)).setRow w1.heap.size #[.int .i64 (P : Int), .slice a l.length cap]) := ⟨_, rfl⟩
       have hN2 : RB w2 w1.heap.size P (.slice a l.length cap) := by rw [Hw2.out]; exact hN.whole _ _
       have hB2 : Below w.heap.size w w2 := by rw [Hw2.out]; exact bsetRow (hb1.alloc hb1.size _) hb1.size _)
    | (refine wpList_store_row rfl 51 _ _ rfl w1.heap.size #[.int .i64 P, .slice a l.length cap] rfl rfl 51 _ hN inf47 rfl (one2 _ _ rfl) ?_; rw [← Hw2.out])
    | (go_at_call 20; refine (CS _).mono ?_; rintro e w3 ⟨rfl, hb3⟩
       have hN3 := hN2.below hb3
       have hB3 := hB2.trans (hb3.mono hB2.size)
       have R3 := R w3 (hl.below hB3))
    | (go_at_call 18; refine R3.mono ?_; rintro e w4 ⟨x1, y1, rfl, hper, hb4⟩)
    | (refine wpList_load_row rfl 51 _ rfl w1.heap.size rfl 51 _ (0, 0) _ hN2 und47.choose_spec rfl inf47 ?_)
    | (refine wpList_load_row rfl 51 _ rfl w1.heap.size rfl 51 _ (0, 0) _ hN3 und47.choose_spec rfl inf47 ?_))
  exact bodyPost_ret (v := .tuple #[.int .i64 x1, .int .i64 y1, .int .i64 0]) (by simp [results, Tryd.results6, go_sem]) rfl ⟨x1, y1, rfl, hper, hB3.trans (hb4.mono hB3.size)⟩

end Go.Proofs.YtcjkcgfohmhbcabDoor.Rc

/- The walks of Full and FullOf, and the law RecurFull: the first taps of the longest period. -/
namespace Go.Proofs.YtcjkcgfohmhbcabDoor.Rc
open Go.RowKit

/-- What Full tells ahead of looking. -/
def fullZ (p k : Int) : Int := if smB p = false ∨ k < 1 then 1 else if 8 < k ∨ 2000 < p.toNat ^ k.toNat then 3 else 0

set_option maxHeartbeats 2000000 in
theorem Full_bad (p k : Int) (w : World) (z : Int) (hz : fullZ p k = z) (hz0 : z ≠ 0) :
    Calls Tryd.prog 5 #[.int .i64 p, .int .i64 k] w fun e w' => e = .returned (.tuple #[.slice none 0 0, .int .i64 z]) ∧ w' = w := by
  by_cases h1 : smB p = false
  · have e : z = 1 := by rw [← hz]; unfold fullZ; rw [if_pos (.inl h1)]
    subst e
    go_enter Tryd.func5, Tryd.ntmps5
    go_wp2_with (first | (go_at_call 15; refine (isPrime_any p _).mono ?_; rw [h1]; rintro e w' ⟨rfl, hw⟩; replace hw := hw.symm; subst hw))
    go_ret2
    exact ⟨rfl, rfl⟩
  · have h1' : smB p = true := by simpa using h1
    by_cases h2 : k < 1
    · have e : z = 1 := by rw [← hz]; unfold fullZ; rw [if_pos (.inr h2)]
      subst e
      have hd : decide (k < 1) = true := by simpa using h2
      go_enter Tryd.func5, Tryd.ntmps5
      go_wp2_with (first | (go_at_call 15; refine (isPrime_any p _).mono ?_; rw [h1']; rintro e w' ⟨rfl, hw⟩; replace hw := hw.symm; subst hw))
      go_ret2
      exact ⟨rfl, rfl⟩
    · have hd : decide (k < 1) = false := by simpa using h2
      have h3 : 8 < k ∨ 2000 < p.toNat ^ k.toNat := by
        by_cases h3 : 8 < k ∨ 2000 < p.toNat ^ k.toNat
        · exact h3
        · exact absurd (hz.symm.trans (by unfold fullZ; rw [if_neg (by simp [h1', h2]), if_neg h3])) hz0
      have e : z = 3 := by rw [← hz]; unfold fullZ; rw [if_neg (by simp [h1', h2]), if_pos h3]
      subst e
      by_cases h8 : 8 < k
      · have hd8 : decide ((8 : Int) < k) = true := by simpa using h8
        clear h3
        go_enter Tryd.func5, Tryd.ntmps5
        go_wp2_with (first | (go_at_call 15; refine (isPrime_any p _).mono ?_; rw [h1']; rintro e w' ⟨rfl, hw⟩; replace hw := hw.symm; subst hw))
        go_ret2
        exact ⟨rfl, rfl⟩
      · have hd8 : decide ((8 : Int) < k) = false := by simpa using h8
        have hpb := smB_bd h1'
        obtain ⟨P, rfl⟩ := Int.eq_ofNat_of_zero_le (show 0 ≤ p by omega)
        obtain ⟨K, rfl⟩ := Int.eq_ofNat_of_zero_le (show 0 ≤ k by omega)
        rw [Int.toNat_natCast, Int.toNat_natCast] at h3
        obtain ⟨q, Hq⟩ : ∃ q : Nat, Hid (q = P ^ K) := ⟨_, rfl⟩
        have C := power_any P K w (by omega) (by omega) (by omega)
        rw [show (P : Int) ^ K = (q : Int) by rw [Hq.out, Int.natCast_pow]] at C
        rw [← Hq.out] at h3
        have hdq : decide ((2000 : Int) < (q : Int)) = true := by simp; omega
        clear h3 hz hpb
        go_enter Tryd.func5, Tryd.ntmps5
        go_wp2_with (first
          | (go_at_call 15; refine (isPrime_any _ _).mono ?_; rw [h1']; rintro e w' ⟨rfl, hw⟩; replace hw := hw.symm; subst hw)
          | (go_at_call 16; refine C.mono ?_; rintro e w' ⟨rfl, hw⟩; replace hw := hw.symm; subst hw))
        go_ret2
        exact ⟨rfl, rfl⟩

set_option maxHeartbeats 4000000 in
theorem Full_ok (P k Q : Nat) (w : World) (hs : smB (P : Int) = true) (hk1 : 1 ≤ k) (hk : k ≤ 8) (HQ : Hid (Q = P ^ k)) (hQ : Q ≤ 2000) :
    Calls Tryd.prog 5 #[.int .i64 (P : Int), .int .i64 (k : Int)] w fun e w' => ∃ (u : Value) (s : List Int) (z : Int), e = .returned (.tuple #[u, .int .i64 z]) ∧ Sl w' u s ∧ FullIs P k Q s z ∧ Below w.heap.size w w' := by
  have hpb := smB_bd hs
  have hp : 2 ≤ P := by omega
  have hp' : P ≤ 7 := by omega
  have hQ1 : 1 ≤ Q := by rw [HQ.out]; exact Nat.pow_pos (by omega)
  have C1 : ∀ A, Calls Tryd.prog 16 #[.int .i64 (P : Int), .int .i64 (k : Int)] A fun e B => e = .returned (.int .i64 (Q : Int)) ∧ B = A := by
    intro A
    have C := power_any P k A hp hp' hk
    rw [show (P : Int) ^ k = (Q : Int) by rw [HQ.out, Int.natCast_pow]] at C; exact C
  obtain ⟨f0, Hf0⟩ : ∃ f : Int, Hid (f = (P : Int) ^ (k - 1)) := ⟨_, rfl⟩
  obtain ⟨km, Hkm⟩ : ∃ x : Int, Hid (x = (k : Int) - 1) := ⟨_, rfl⟩
  have hkm : (k : Int) - 1 = km := Hkm.out.symm
  have hkmb : 0 ≤ km ∧ km ≤ 8 := by omega
  have C2 : ∀ A, Calls Tryd.prog 16 #[.int .i64 (P : Int), .int .i64 km] A fun e B => e = .returned (.int .i64 f0) ∧ B = A := by
    intro A
    have C := power_any P (k - 1) A hp hp' (by omega)
    rw [← Hf0.out, show ((k - 1 : Nat) : Int) = km by omega] at C; exact C
  have C3 : ∀ A n, n < Q → Calls Tryd.prog 17 #[.int .i64 (n : Int), .int .i64 (P : Int), .int .i64 (k : Int)] A fun e B => ∃ g : Nat, e = .returned (.slice (some ⟨g, 0, none⟩) k k) ∧ A.heap.size ≤ g ∧ Own B g k (dgF n P) ∧ Below A.heap.size A B :=
    fun A n hn => digits_any n P k A (by omega) hp (by omega) hk1 (by omega)
  have C4 : ∀ A n g, Sl A (.slice (some ⟨g, 0, none⟩) k k) (dgL n P k) → Calls Tryd.prog 18 #[.agg #[.int .i64 (P : Int), .slice (some ⟨g, 0, none⟩) k k], .int .i64 f0] A fun e B => ∃ x y : Nat, e = .returned (.tuple #[.int .i64 x, .int .i64 y]) ∧ PerIs (winN P (dgL n P k) (seedL k)) x y ∧ Below A.heap.size A B := by
    intro A n g hA
    have h := period_any P Q (dgL n P k) (seedL k) _ A hp hp' (by rw [dgL_len]; exact hk1) (by rw [dgL_len]; exact hk) (dgL_bel hp) (by rw [seedL_len, dgL_len]) (seedL_bel hp) hA (by rw [dgL_len]; exact HQ.out) (by omega)
    rw [win_seed _ _ hk1 (dgL_len n P k), ← Hf0.out] at h; exact h
  have hd : decide ((k : Int) < 1) = false := by simp; omega
  have hd8 : decide ((8 : Int) < (k : Int)) = false := by simp; omega
  have hdq : decide ((2000 : Int) < (Q : Int)) = false := by simp; omega
  clear hpb
  go_enter Tryd.func5, Tryd.ntmps5
  go_wp2_with (first
    | (go_at_call 15; refine (isPrime_any _ _).mono ?_; rw [hs]; rintro e w' ⟨rfl, hw⟩; replace hw := hw.symm; subst hw)
    | (go_at_call_of 16 (Value.int .i64 km); refine (C2 _).mono ?_; rintro e w' ⟨rfl, hw⟩; replace hw := hw.symm; subst hw)
    | (go_at_call 16; refine (C1 _).mono ?_; rintro e w' ⟨rfl, hw⟩; replace hw := hw.symm; subst hw))
  go_loopw [35] (fun i wr => ∃ n : Nat, i = .int .i64 n ∧ n ≤ Q ∧ Hid (∀ m, m < n → ¬ fullAt P k Q m) ∧ Below w.heap.size w wr) (fun i _ => (Q - intOf i).toNat)
  case atStart => exact ⟨0, rfl, by omega, (fun m h => by omega : ∀ m, m < 0 → _), Below.refl _ _⟩
  case round =>
    obtain ⟨n, rfl, hn, HN, hB⟩ := hrel
    by_cases hlt : n < Q
    · have hni : (n : Int) < Q := by omega
      go_wp2_with (first
        | (go_at_call 17; refine (C3 _ n hlt).mono ?_; rintro e w1 ⟨g, rfl, hg, hO1, hb1⟩
           have hN1 := RB.made w1 0 (.slice none 0 0)
           obtain ⟨w2, Hw2⟩ : ∃ w2, Hid (w2 = (w1.alloc (.cells #[.int .i64 0, .slice none 0 0] 51)).setRow w1.heap.size #[.int .i64 (P : Int), .slice (some ⟨g, 0, none⟩) k k]) := ⟨_, rfl⟩
           have hN2 : RB w2 w1.heap.size P (.slice (some ⟨g, 0, none⟩) k k) := by rw [Hw2.out]; exact hN1.whole _ _
           have hb2 : Below w1.heap.size w1 w2 := by rw [Hw2.out]; exact bsetRow (balloc w1 _) (Nat.le_refl _) _
           have hB1 := hB.trans (hb1.mono hB.size)
           have hB2 := hB1.trans (hb2.mono hB1.size)
           have hS2 : Sl w2 (.slice (some ⟨g, 0, none⟩) k k) (dgL n P k) := (hO1.sl k).below hb2
           have R2 := C4 w2 n g hS2)
        | (refine wpList_store_row rfl 51 _ _ rfl w1.heap.size #[.int .i64 P, .slice (some ⟨g, 0, none⟩) k k] rfl rfl 51 _ hN1 inf47 rfl (one2 _ _ rfl) ?_; rw [← Hw2.out])
        | (refine wpList_load_row rfl 51 _ rfl w1.heap.size rfl 51 _ (0, 0) _ hN2 und47.choose_spec rfl inf47 ?_))
      refine R2.mono ?_
      rintro e w3 ⟨x, y, rfl, hper, hb3⟩
      have HP : Hid (PerIs (winN P (dgL n P k) (seedL k)) x y) := hper
      clear hper
      have hN3 := hN2.below hb3
      have hc3 := hN3.cells.2
      have hB3 := hB2.trans (hb3.mono hB2.size)
      have hS3 := hS2.below hb3
      by_cases hx : x = 0
      · subst hx
        by_cases hy : y = Q - 1
        · have hyd : ((y : Int) == (Q : Int) - 1) = true := by simp; omega
          have HF : Hid (fullAt P k Q n) := by show PerIs _ 0 (Q - 1); rw [← hy]; exact HP.out
          clear hy
          go_wp2
          go_ret2
          exact ⟨_, _, 0, rfl, hS3, .inl ⟨n, hlt, HF.out, HN.out, rfl, rfl⟩, hB3⟩
        · have hyd : ((y : Int) == (Q : Int) - 1) = false := by simp; omega
          have HF : Hid (¬ fullAt P k Q n) := fun h => hy (HP.out.one h).2
          clear hy
          go_wp2
          go_roundw
          case rel =>
            refine ⟨n + 1, by go_num, by omega, (fun m hm => ?_ : ∀ m, m < n + 1 → _), hB3⟩
            by_cases e : m = n
            · subst e; exact HF.out
            · exact HN.out m (by omega)
          case measure => simp [intOf]; omega
      · have hxd : ((x : Int) == 0) = false := by simp; omega
        have HF : Hid (¬ fullAt P k Q n) := fun h => hx (HP.out.one h).1
        clear hx
        go_wp2
        go_roundw
        case rel =>
          refine ⟨n + 1, by go_num, by omega, (fun m hm => ?_ : ∀ m, m < n + 1 → _), hB3⟩
          by_cases e : m = n
          · subst e; exact HF.out
          · exact HN.out m (by omega)
        case measure => simp [intOf]; omega
    · go_wp2
      go_ret2
      obtain rfl : n = Q := by omega
      exact ⟨_, [], 4, rfl, Sl.nil _, .inr ⟨HN.out, rfl, rfl⟩, hB⟩

end Go.Proofs.YtcjkcgfohmhbcabDoor.Rc

namespace Go.Proofs.YtcjkcgfohmhbcabDoor
open Go.RowKit

theorem fullZ_good {p k : Int} (h : Rc.fullZ p k = 0) : Rc.smB p = true ∧ 1 ≤ k ∧ k ≤ 8 ∧ p.toNat ^ k.toNat ≤ 2000 := by
  unfold Rc.fullZ at h
  by_cases h1 : Rc.smB p = false ∨ k < 1
  · rw [if_pos h1] at h; omega
  · rw [if_neg h1] at h
    by_cases h2 : 8 < k ∨ 2000 < p.toNat ^ k.toNat
    · rw [if_pos h2] at h; omega
    · have e1 : ¬ Rc.smB p = false := fun e => h1 (.inl e)
      have e2 : ¬ k < 1 := fun e => h1 (.inr e)
      have e3 : ¬ 8 < k := fun e => h2 (.inl e)
      have e4 : ¬ 2000 < p.toNat ^ k.toNat := fun e => h2 (.inr e)
      exact ⟨by simpa using e1, by omega, by omega, by omega⟩
theorem fullZ_nat (p k : Int) : 0 ≤ Rc.fullZ p k := by
  unfold Rc.fullZ
  repeat' split
  all_goals decide
theorem Full_face : FFull := by
  intro p k w
  obtain ⟨z, Hz⟩ : ∃ z, Rc.fullZ p k = z := ⟨_, rfl⟩
  by_cases h0 : z = 0
  · subst h0
    obtain ⟨h1, h2, h3, h4⟩ := fullZ_good Hz
    have hb := Rc.smB_bd h1
    obtain ⟨P, rfl⟩ : ∃ P : Nat, p = P := ⟨p.toNat, by omega⟩
    obtain ⟨K, rfl⟩ : ∃ K : Nat, k = K := ⟨k.toNat, by omega⟩
    rw [Int.toNat_natCast, Int.toNat_natCast] at h4
    refine (Rc.Full_ok P K (P ^ K) w h1 (by omega) (by omega) rfl h4).mono ?_
    rintro e w' ⟨u, s, z, he, hs, hF, hb'⟩
    have hP2 : 2 ≤ P := by omega
    rcases hF with ⟨n, h5, h6, _, rfl, rfl⟩ | ⟨_, rfl, rfl⟩
    · refine ⟨u, _, 0, he, hs, fun _ => ⟨P, K, rfl, rfl, hP2, by omega, by omega, by omega, h4, ?_, Rc.dgL_len n P K, Rc.dgL_bel hP2, h6⟩, hb'⟩
      exact Rc.runF_mk (Rc.tapsF_mk h1 (by rw [Rc.dgL_len]; omega) (by rw [Rc.dgL_len]; omega) (Rc.dgL_bel hP2)) (by rw [Rc.seedL_len, Rc.dgL_len]) (Rc.seedL_bel hP2)
    · exact ⟨u, _, 4, he, hs, fun h => absurd h (by decide), hb'⟩
  · refine (Rc.Full_bad p k w z Hz h0).mono ?_
    rintro e w' ⟨rfl, rfl⟩
    have hz := fullZ_nat p k
    rw [Hz] at hz
    exact ⟨.slice none 0 0, [], z.toNat, by rw [Int.toNat_of_nonneg hz], Sl.nil w', fun h => by omega, Below.refl _ _⟩
theorem Period_face : FPeriod := fun p l m v u w h1 h2 h3 h4 h5 h6 => Rc.Period_ok p l m v u w h1 h2 h3 h4 h5 h6
theorem Run_face : FRun := fun p n l m v u w h1 h2 h3 h4 h5 h6 => Rc.Run_ok p n l m v u w h1 h2 h3 h4 h5 h6
theorem Least_face : FLeast := fun P S u w _ _ hs hu hb hS => (Rc.Least_ok P S u w hs hu hb hS).mono fun _ _ ⟨v, T, R, h1, h2, h3, h4, _, h6⟩ => ⟨v, T, R, h1, h2, h3, h4, h6⟩
end Go.Proofs.YtcjkcgfohmhbcabDoor
