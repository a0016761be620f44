/- The walks of the document's JoinOf and MeetOf. -/
import Derived.Test.YtgpkhfpejopacaaDoorPA1
import Derived.Deep.QuietTactic
import Derived.BigQuiet
namespace Go.Proofs.YtgpkhfpejopacaaDoor
open Go.RowKit

/-- The first block that has both. -/
def jnO (B : List (List Nat)) (p q : Nat) : Option Nat := (List.range B.length).find? fun i => (B.getD i []).contains p && (B.getD i []).contains q
/-- The first point of a block that another one has. -/
def mtO (B : List (List Nat)) (b c : Nat) : Option Nat := (B.getD b []).find? fun x => (B.getD c []).contains x
def jnT (r : Option Nat) (e : Ending) : Prop := match r with | some i => e = .returned (.tuple #[.int .i64 (i : Int), .int .i64 0]) | none => e = .returned (.tuple #[.int .i64 0, .int .i64 4])
theorem find_at {P : Nat → Bool} {n i : Nat} (hi : i < n) (h : P i = true) (hno : ∀ j, j < i → P j = false) : (List.range n).find? P = some i := by
  rw [List.find?_range_eq_some]
  exact ⟨h, List.mem_range.2 hi, fun j hj => by simp [hno j hj]⟩
theorem find_none {P : Nat → Bool} {n : Nat} (hno : ∀ j, j < n → P j = false) : (List.range n).find? P = none := by
  rw [List.find?_range_eq_none]
  exact fun j hj => by simp [hno j hj]
theorem findl_at {P : Nat → Bool} : ∀ {l : List Nat} {i : Nat}, i < l.length → P (l.getD i 0) = true → (∀ j, j < i → P (l.getD j 0) = false) → l.find? P = some (l.getD i 0)
  | [], i, h, _, _ => absurd h (by simp)
  | a :: l, 0, _, h, _ => by
    have h : P a = true := by simpa using h
    simp [h]
  | a :: l, i + 1, hi, h, hno => by
    have h0 := hno 0 (by omega)
    simp only [List.getD_cons_zero] at h0
    rw [List.find?_cons_of_neg (by simp [h0]), List.getD_cons_succ]
    exact findl_at (by simpa using hi) (by simpa using h) fun j hj => by simpa using hno (j + 1) (by omega)
theorem findl_none {P : Nat → Bool} {l : List Nat} (hno : ∀ j, j < l.length → P (l.getD j 0) = false) : l.find? P = none := by
  rw [List.find?_eq_none]
  intro x hx
  obtain ⟨i, hi, rfl⟩ := List.mem_iff_getElem.1 hx
  have := hno i hi
  rw [List.getD_eq_getElem?_getD, List.getElem?_eq_getElem hi] at this
  simpa using this
theorem getD_some {B : List (List Nat)} {i : Nat} {b : List Nat} (h : B[i]? = some b) : B.getD i [] = b := by rw [List.getD_eq_getElem?_getD, h]; rfl
set_option maxHeartbeats 4000000 in
theorem JoinOf_r0 (n : Nat) (p q : Int) (v : Int) (a : Option Addr) (m cap : Nat) (w : World) (hn : v = (n : Int)) (h : p < 0) : Calls Tryd.prog 20 #[.agg #[.int .i64 v, .slice a m cap], .int .i64 p, .int .i64 q] w fun e w' => e = .returned (.tuple #[.int .i64 0, .int .i64 1]) ∧ Below w.heap.size w w' := by
  subst hn
  have d1 : decide (p < 0) = true := by simpa using h
  have hb : Below w.heap.size w (w.alloc (.cells #[.int .i64 (n : Int), .slice a m cap] 29)) := balloc _ _
  go_enter Tryd.func20, Tryd.ntmps20
  go_wp2
  exact bodyPost_ret (v := .tuple #[.int .i64 0, .int .i64 1]) (by simp [results, Tryd.results20, go_sem]) rfl ⟨rfl, hb⟩
set_option maxHeartbeats 4000000 in
theorem JoinOf_r1 (n : Nat) (p q : Int) (v : Int) (a : Option Addr) (m cap : Nat) (w : World) (hn : v = (n : Int)) (h : ¬ p < 0 ∧ (n : Int) ≤ p) : Calls Tryd.prog 20 #[.agg #[.int .i64 v, .slice a m cap], .int .i64 p, .int .i64 q] w fun e w' => e = .returned (.tuple #[.int .i64 0, .int .i64 1]) ∧ Below w.heap.size w w' := by
  subst hn
  obtain ⟨h1, h2⟩ := h
  have d1 : decide (p < 0) = false := by simpa using h1
  have d2 : decide ((n : Int) ≤ p) = true := by simpa using h2
  have hb : Below w.heap.size w (w.alloc (.cells #[.int .i64 (n : Int), .slice a m cap] 29)) := balloc _ _
  go_enter Tryd.func20, Tryd.ntmps20
  go_wp2
  exact bodyPost_ret (v := .tuple #[.int .i64 0, .int .i64 1]) (by simp [results, Tryd.results20, go_sem]) rfl ⟨rfl, hb⟩
set_option maxHeartbeats 4000000 in
theorem JoinOf_r2 (n : Nat) (p q : Int) (v : Int) (a : Option Addr) (m cap : Nat) (w : World) (hn : v = (n : Int)) (h : ¬ p < 0 ∧ ¬ (n : Int) ≤ p ∧ q < 0) : Calls Tryd.prog 20 #[.agg #[.int .i64 v, .slice a m cap], .int .i64 p, .int .i64 q] w fun e w' => e = .returned (.tuple #[.int .i64 0, .int .i64 1]) ∧ Below w.heap.size w w' := by
  subst hn
  obtain ⟨h1, h2, h3⟩ := h
  have d1 : decide (p < 0) = false := by simpa using h1
  have d2 : decide ((n : Int) ≤ p) = false := by simpa using h2
  have d3 : decide (q < 0) = true := by simpa using h3
  have hb : Below w.heap.size w (w.alloc (.cells #[.int .i64 (n : Int), .slice a m cap] 29)) := balloc _ _
  go_enter Tryd.func20, Tryd.ntmps20
  go_wp2
  exact bodyPost_ret (v := .tuple #[.int .i64 0, .int .i64 1]) (by simp [results, Tryd.results20, go_sem]) rfl ⟨rfl, hb⟩
set_option maxHeartbeats 4000000 in
theorem JoinOf_r3 (n : Nat) (p q : Int) (v : Int) (a : Option Addr) (m cap : Nat) (w : World) (hn : v = (n : Int)) (h : ¬ p < 0 ∧ ¬ (n : Int) ≤ p ∧ ¬ q < 0 ∧ (n : Int) ≤ q) : Calls Tryd.prog 20 #[.agg #[.int .i64 v, .slice a m cap], .int .i64 p, .int .i64 q] w fun e w' => e = .returned (.tuple #[.int .i64 0, .int .i64 1]) ∧ Below w.heap.size w w' := by
  subst hn
  obtain ⟨h1, h2, h3, h4⟩ := h
  have d1 : decide (p < 0) = false := by simpa using h1
  have d2 : decide ((n : Int) ≤ p) = false := by simpa using h2
  have d3 : decide (q < 0) = false := by simpa using h3
  have d4 : decide ((n : Int) ≤ q) = true := by simpa using h4
  have hb : Below w.heap.size w (w.alloc (.cells #[.int .i64 (n : Int), .slice a m cap] 29)) := balloc _ _
  go_enter Tryd.func20, Tryd.ntmps20
  go_wp2
  exact bodyPost_ret (v := .tuple #[.int .i64 0, .int .i64 1]) (by simp [results, Tryd.results20, go_sem]) rfl ⟨rfl, hb⟩
theorem JoinOf_far (n : Nat) (p q : Int) (v : Int) (a : Option Addr) (m cap : Nat) (w : World) (hn : v = (n : Int)) (h : p < 0 ∨ (n : Int) ≤ p ∨ q < 0 ∨ (n : Int) ≤ q) : Calls Tryd.prog 20 #[.agg #[.int .i64 v, .slice a m cap], .int .i64 p, .int .i64 q] w fun e w' => e = .returned (.tuple #[.int .i64 0, .int .i64 1]) ∧ Below w.heap.size w w' := by
  by_cases h1 : p < 0
  · exact JoinOf_r0 n p q v a m cap w hn h1
  · by_cases h2 : (n : Int) ≤ p
    · exact JoinOf_r1 n p q v a m cap w hn ⟨h1, h2⟩
    · by_cases h3 : q < 0
      · exact JoinOf_r2 n p q v a m cap w hn ⟨h1, h2, h3⟩
      · exact JoinOf_r3 n p q v a m cap w hn ⟨h1, h2, h3, by omega⟩
set_option maxHeartbeats 4000000 in
theorem JoinOf_same (n p : Nat) (v : Int) (a : Option Addr) (m cap : Nat) (w : World) (hn : v = (n : Int)) (hp : p < n) : Calls Tryd.prog 20 #[.agg #[.int .i64 v, .slice a m cap], .int .i64 (p : Int), .int .i64 (p : Int)] w fun e w' => e = .returned (.tuple #[.int .i64 0, .int .i64 6]) ∧ Below w.heap.size w w' := by
  subst hn
  have d1 : decide ((p : Int) < 0) = false := by simp
  have d2 : decide ((n : Int) ≤ (p : Int)) = false := by simp; omega
  have d2' : decide (n ≤ p) = false := by simp; omega
  have d2'' : ¬ n ≤ p := by omega
  have d3 : ((p : Int) == (p : Int)) = true := by simp
  have hb : Below w.heap.size w (w.alloc (.cells #[.int .i64 (n : Int), .slice a m cap] 29)) := balloc _ _
  go_enter Tryd.func20, Tryd.ntmps20
  go_wp2
  exact bodyPost_ret (v := .tuple #[.int .i64 0, .int .i64 6]) (by simp [results, Tryd.results20, go_sem]) rfl ⟨rfl, hb⟩
set_option maxRecDepth 100000 in
set_option maxHeartbeats 8000000 in
theorem JoinOf_main (v p q : Nat) (B : List (List Nat)) (u : Value) (w : World) (G : GoodD v B) (hu : Rw w u (toZ B)) (hp : p < v) (hq : q < v) (hpq : p ≠ q) :
    Calls Tryd.prog 20 #[.agg #[.int .i64 (v : Int), u], .int .i64 (p : Int), .int .i64 (q : Int)] w fun e w' => jnT (jnO B p q) e ∧ Below w.heap.size w w' := by
  obtain ⟨a, cap, rfl, hD⟩ := drow_of hu
  have h200 := G.few
  have HD : Hid (DRow w a B) := hD
  have HAT : Hid (∀ i, i < B.length → ∃ b, B[i]? = some b) := fun i hi => ⟨_, List.getElem?_eq_getElem hi⟩
  have HY : Hid (∀ (i : Nat) (b : List Nat), i < B.length → B[i]? = some b → (b.contains p && b.contains q) = true → (∀ (j : Nat) (c : List Nat), j < i → B[j]? = some c → (c.contains p && c.contains q) = false) → jnO B p q = some i) := fun i b hi hb h hno => find_at hi (by rw [getD_some hb]; exact h) fun j hj => by
    have e := List.getElem?_eq_getElem (show j < B.length by omega)
    rw [getD_some e]
    exact hno j _ hj e
  have HN : Hid ((∀ (j : Nat) (c : List Nat), j < B.length → B[j]? = some c → (c.contains p && c.contains q) = false) → jnO B p q = none) := fun h => find_none fun j hj => by
    have e := List.getElem?_eq_getElem hj
    rw [getD_some e]
    exact h j _ hj e
  have HL : Hid (∀ (W : World) (b : List Nat) (bv : Value) (x : Nat), b.length ≤ 40 → Sl W bv (b.map Int.ofNat) → Calls Tryd.prog 27 #[bv, .int .i64 ((x : Nat) : Int)] W fun e w' => e = .returned (.bool (b.contains x)) ∧ w' = W) := fun W b bv x hb hbv => Lies_any b x _ bv W hbv (by omega) rfl
  have HBL : Hid (∀ b ∈ B, b.length ≤ 40) := fun b hb => G.len hb
  have HC : Hid (∀ W, Below (w.alloc (.cells #[.int .i64 (v : Int), .slice a B.length cap] 29)).heap.size (w.alloc (.cells #[.int .i64 (v : Int), .slice a B.length cap] 29)) W → W.cell? ⟨w.heap.size, 0, none⟩ = some (.int .i64 (v : Int)) ∧ W.cell? ⟨w.heap.size, 1, none⟩ = some (.slice a B.length cap)) := des_box (v : Int) (.slice a B.length cap) w
  obtain ⟨w0, Hw0⟩ : ∃ w0, Hid (w0 = w.alloc (.cells #[.int .i64 (v : Int), .slice a B.length cap] 29)) := ⟨_, rfl⟩
  rw [← Hw0.out] at HC
  have HB0 : Hid (Below w.heap.size w w0) := by rw [Hw0.out]; exact balloc _ _
  obtain ⟨z, Hz⟩ : ∃ z, Hid (jnO B p q = z) := ⟨_, rfl⟩
  rw [Hz.out] at HY HN ⊢
  obtain ⟨x0, x1⟩ := HC.out _ (Below.refl _ _)
  rw [Hw0.out] at x0 x1
  generalize hBn : B.length = n at *
  have d1 : decide ((p : Int) < 0) = false := by simp
  have d2 : decide ((v : Int) ≤ (p : Int)) = false := by simp; omega
  have d2' : decide (v ≤ p) = false := by simp; omega
  have d2'' : ¬ v ≤ p := by omega
  have d3 : decide ((q : Int) < 0) = false := by simp
  have d4 : decide ((v : Int) ≤ (q : Int)) = false := by simp; omega
  have d4' : decide (v ≤ q) = false := by simp; omega
  have d4'' : ¬ v ≤ q := by omega
  have d5 : ((p : Int) == (q : Int)) = false := by simp; omega
  have d5' : ¬ (p : Int) = (q : Int) := by omega
  clear hD hu
  go_enter Tryd.func20, Tryd.ntmps20
  go_wp2
  go_loopw [8] (fun iv wr => ∃ i : Nat, iv = .int .i64 (i : Int) ∧ i ≤ n ∧ Hid (∀ (j : Nat) (c : List Nat), j < i → B[j]? = some c → (c.contains p && c.contains q) = false) ∧ Below w0.heap.size w0 wr) (fun iv _ => (n - intOf iv).toNat)
  case atStart => exact ⟨0, rfl, by omega, (show ∀ (j : Nat) (c : List Nat), j < 0 → _ from fun j c h => by omega), by rw [Hw0.out]; exact Below.refl _ _⟩
  case round =>
    clear x0 x1
    obtain ⟨i, rfl, hi, HI, hB⟩ := hrel
    obtain ⟨x0, x1⟩ := HC.out _ hB
    have hBw := Below.next HB0.out hB
    by_cases hlt : i < n
    · have hdi : decide ((i : Int) < (n : Int)) = true := by simp; omega
      have hii : (i : Int) < (n : Int) := by omega
      obtain ⟨b, hb⟩ := HAT.out i hlt
      obtain ⟨bb, off, ua, uc, rfl, hrow⟩ := HD.out i b hb
      obtain ⟨hr0, hr1⟩ := hrow _ hBw
      have hbl := HBL.out b (List.mem_of_getElem? hb)
      have C1 := HL.out wr b _ p hbl hr1
      have C2 := HL.out wr b _ q hbl hr1
      have hy := fun h => HY.out i b hlt hb h HI.out
      have HI2 : Hid ((b.contains p && b.contains q) = false → ∀ (j : Nat) (c : List Nat), j < i + 1 → B[j]? = some c → (c.contains p && c.contains q) = false) := fun h j c hj hc => by
        by_cases e : j = i
        · subst e
          rw [hb] at hc
          cases hc
          exact h
        · exact HI.out j c (by omega) hc
      obtain ⟨tp, Htp⟩ : ∃ t, Hid (b.contains p = t) := ⟨_, rfl⟩
      obtain ⟨tq, Htq⟩ : ∃ t, Hid (b.contains q = t) := ⟨_, rfl⟩
      rw [Htp.out] at C1 hy HI2
      rw [Htq.out] at C2 hy HI2
      generalize b.length = bl at *
      clear hb hr1 hrow HI
      cases tp
      · cases tq
        · have HI3 : Hid (∀ (j : Nat) (c : List Nat), j < i + 1 → B[j]? = some c → (c.contains p && c.contains q) = false) := HI2.out rfl
          clear hy HI2
          go_wp2_with (first
            | (go_at_call 27; refine C1.mono ?_; rintro e w1 ⟨rfl, hw⟩; replace hw := hw.symm; subst hw; clear C1)
            | (go_at_call 27; refine C2.mono ?_; rintro e w1 ⟨rfl, hw⟩; replace hw := hw.symm; subst hw; clear C2))
          go_roundw
          case rel => exact ⟨i + 1, by go_num, by omega, HI3, hB⟩
          case measure => simp [intOf]; omega
        · have HI3 : Hid (∀ (j : Nat) (c : List Nat), j < i + 1 → B[j]? = some c → (c.contains p && c.contains q) = false) := HI2.out rfl
          clear hy HI2
          go_wp2_with (first
            | (go_at_call 27; refine C1.mono ?_; rintro e w1 ⟨rfl, hw⟩; replace hw := hw.symm; subst hw; clear C1)
            | (go_at_call 27; refine C2.mono ?_; rintro e w1 ⟨rfl, hw⟩; replace hw := hw.symm; subst hw; clear C2))
          go_roundw
          case rel => exact ⟨i + 1, by go_num, by omega, HI3, hB⟩
          case measure => simp [intOf]; omega
      · cases tq
        · have HI3 : Hid (∀ (j : Nat) (c : List Nat), j < i + 1 → B[j]? = some c → (c.contains p && c.contains q) = false) := HI2.out rfl
          clear hy HI2
          go_wp2_with (first
            | (go_at_call 27; refine C1.mono ?_; rintro e w1 ⟨rfl, hw⟩; replace hw := hw.symm; subst hw; clear C1)
            | (go_at_call 27; refine C2.mono ?_; rintro e w1 ⟨rfl, hw⟩; replace hw := hw.symm; subst hw; clear C2))
          go_roundw
          case rel => exact ⟨i + 1, by go_num, by omega, HI3, hB⟩
          case measure => simp [intOf]; omega
        · obtain rfl := hy rfl
          clear hy HI2
          go_wp2_with (first
            | (go_at_call 27; refine C1.mono ?_; rintro e w1 ⟨rfl, hw⟩; replace hw := hw.symm; subst hw; clear C1)
            | (go_at_call 27; refine C2.mono ?_; rintro e w1 ⟨rfl, hw⟩; replace hw := hw.symm; subst hw; clear C2))
          exact bodyPost_ret (v := .tuple #[.int .i64 (i : Int), .int .i64 0]) (by simp [results, Tryd.results20, go_sem]) rfl ⟨rfl, hBw⟩
    · have hdi : decide ((i : Int) < (n : Int)) = false := by simp; omega
      obtain rfl := HN.out fun j c hj hc => HI.out j c (by omega) hc
      go_wp2
      exact bodyPost_ret (v := .tuple #[.int .i64 0, .int .i64 4]) (by simp [results, Tryd.results20, go_sem]) rfl ⟨rfl, hBw⟩
set_option maxHeartbeats 4000000 in
theorem MeetOf_r0 (n : Nat) (p q : Int) (v : Int) (a : Option Addr) (m cap : Nat) (w : World) (hn : n = m) (h : p < 0) : Calls Tryd.prog 21 #[.agg #[.int .i64 v, .slice a m cap], .int .i64 p, .int .i64 q] w fun e w' => e = .returned (.tuple #[.int .i64 0, .int .i64 1]) ∧ Below w.heap.size w w' := by
  subst hn
  have d1 : decide (p < 0) = true := by simpa using h
  have hb : Below w.heap.size w (w.alloc (.cells #[.int .i64 v, .slice a n cap] 29)) := balloc _ _
  go_enter Tryd.func21, Tryd.ntmps21
  go_wp2
  exact bodyPost_ret (v := .tuple #[.int .i64 0, .int .i64 1]) (by simp [results, Tryd.results21, go_sem]) rfl ⟨rfl, hb⟩
set_option maxHeartbeats 4000000 in
theorem MeetOf_r1 (n : Nat) (p q : Int) (v : Int) (a : Option Addr) (m cap : Nat) (w : World) (hn : n = m) (h : ¬ p < 0 ∧ (n : Int) ≤ p) : Calls Tryd.prog 21 #[.agg #[.int .i64 v, .slice a m cap], .int .i64 p, .int .i64 q] w fun e w' => e = .returned (.tuple #[.int .i64 0, .int .i64 1]) ∧ Below w.heap.size w w' := by
  subst hn
  obtain ⟨h1, h2⟩ := h
  have d1 : decide (p < 0) = false := by simpa using h1
  have d2 : decide ((n : Int) ≤ p) = true := by simpa using h2
  have hb : Below w.heap.size w (w.alloc (.cells #[.int .i64 v, .slice a n cap] 29)) := balloc _ _
  go_enter Tryd.func21, Tryd.ntmps21
  go_wp2
  exact bodyPost_ret (v := .tuple #[.int .i64 0, .int .i64 1]) (by simp [results, Tryd.results21, go_sem]) rfl ⟨rfl, hb⟩
set_option maxHeartbeats 4000000 in
theorem MeetOf_r2 (n : Nat) (p q : Int) (v : Int) (a : Option Addr) (m cap : Nat) (w : World) (hn : n = m) (h : ¬ p < 0 ∧ ¬ (n : Int) ≤ p ∧ q < 0) : Calls Tryd.prog 21 #[.agg #[.int .i64 v, .slice a m cap], .int .i64 p, .int .i64 q] w fun e w' => e = .returned (.tuple #[.int .i64 0, .int .i64 1]) ∧ Below w.heap.size w w' := by
  subst hn
  obtain ⟨h1, h2, h3⟩ := h
  have d1 : decide (p < 0) = false := by simpa using h1
  have d2 : decide ((n : Int) ≤ p) = false := by simpa using h2
  have d3 : decide (q < 0) = true := by simpa using h3
  have hb : Below w.heap.size w (w.alloc (.cells #[.int .i64 v, .slice a n cap] 29)) := balloc _ _
  go_enter Tryd.func21, Tryd.ntmps21
  go_wp2
  exact bodyPost_ret (v := .tuple #[.int .i64 0, .int .i64 1]) (by simp [results, Tryd.results21, go_sem]) rfl ⟨rfl, hb⟩
set_option maxHeartbeats 4000000 in
theorem MeetOf_r3 (n : Nat) (p q : Int) (v : Int) (a : Option Addr) (m cap : Nat) (w : World) (hn : n = m) (h : ¬ p < 0 ∧ ¬ (n : Int) ≤ p ∧ ¬ q < 0 ∧ (n : Int) ≤ q) : Calls Tryd.prog 21 #[.agg #[.int .i64 v, .slice a m cap], .int .i64 p, .int .i64 q] w fun e w' => e = .returned (.tuple #[.int .i64 0, .int .i64 1]) ∧ Below w.heap.size w w' := by
  subst hn
  obtain ⟨h1, h2, h3, h4⟩ := h
  have d1 : decide (p < 0) = false := by simpa using h1
  have d2 : decide ((n : Int) ≤ p) = false := by simpa using h2
  have d3 : decide (q < 0) = false := by simpa using h3
  have d4 : decide ((n : Int) ≤ q) = true := by simpa using h4
  have hb : Below w.heap.size w (w.alloc (.cells #[.int .i64 v, .slice a n cap] 29)) := balloc _ _
  go_enter Tryd.func21, Tryd.ntmps21
  go_wp2
  exact bodyPost_ret (v := .tuple #[.int .i64 0, .int .i64 1]) (by simp [results, Tryd.results21, go_sem]) rfl ⟨rfl, hb⟩
theorem MeetOf_far (n : Nat) (p q : Int) (v : Int) (a : Option Addr) (m cap : Nat) (w : World) (hn : n = m) (h : p < 0 ∨ (n : Int) ≤ p ∨ q < 0 ∨ (n : Int) ≤ q) : Calls Tryd.prog 21 #[.agg #[.int .i64 v, .slice a m cap], .int .i64 p, .int .i64 q] w fun e w' => e = .returned (.tuple #[.int .i64 0, .int .i64 1]) ∧ Below w.heap.size w w' := by
  by_cases h1 : p < 0
  · exact MeetOf_r0 n p q v a m cap w hn h1
  · by_cases h2 : (n : Int) ≤ p
    · exact MeetOf_r1 n p q v a m cap w hn ⟨h1, h2⟩
    · by_cases h3 : q < 0
      · exact MeetOf_r2 n p q v a m cap w hn ⟨h1, h2, h3⟩
      · exact MeetOf_r3 n p q v a m cap w hn ⟨h1, h2, h3, by omega⟩
set_option maxHeartbeats 4000000 in
theorem MeetOf_same (n p : Nat) (v : Int) (a : Option Addr) (m cap : Nat) (w : World) (hn : n = m) (hp : p < n) : Calls Tryd.prog 21 #[.agg #[.int .i64 v, .slice a m cap], .int .i64 (p : Int), .int .i64 (p : Int)] w fun e w' => e = .returned (.tuple #[.int .i64 0, .int .i64 6]) ∧ Below w.heap.size w w' := by
  subst hn
  have d1 : decide ((p : Int) < 0) = false := by simp
  have d2 : decide ((n : Int) ≤ (p : Int)) = false := by simp; omega
  have d2' : decide (n ≤ p) = false := by simp; omega
  have d2'' : ¬ n ≤ p := by omega
  have d3 : ((p : Int) == (p : Int)) = true := by simp
  have hb : Below w.heap.size w (w.alloc (.cells #[.int .i64 v, .slice a n cap] 29)) := balloc _ _
  go_enter Tryd.func21, Tryd.ntmps21
  go_wp2
  exact bodyPost_ret (v := .tuple #[.int .i64 0, .int .i64 6]) (by simp [results, Tryd.results21, go_sem]) rfl ⟨rfl, hb⟩
set_option maxRecDepth 100000 in
set_option maxHeartbeats 8000000 in
theorem MeetOf_main (v p q : Nat) (B : List (List Nat)) (u : Value) (w : World) (G : GoodD v B) (hu : Rw w u (toZ B)) (hp : p < B.length) (hq : q < B.length) (hpq : p ≠ q) :
    Calls Tryd.prog 21 #[.agg #[.int .i64 (v : Int), u], .int .i64 (p : Int), .int .i64 (q : Int)] w fun e w' => jnT (mtO B p q) e ∧ Below w.heap.size w w' := by
  obtain ⟨a, cap, rfl, hD⟩ := drow_of hu
  have h200 := G.few
  obtain ⟨b, hb⟩ : ∃ b, B[p]? = some b := ⟨_, List.getElem?_eq_getElem hp⟩
  obtain ⟨c, hc⟩ : ∃ c, B[q]? = some c := ⟨_, List.getElem?_eq_getElem hq⟩
  obtain ⟨bb, off, ua, uc, rfl, hrow⟩ := hD p b hb
  obtain ⟨bb2, off2, va, vc, e2, hrow2⟩ := hD q c hc
  obtain ⟨rfl, rfl⟩ : bb = bb2 ∧ off = off2 := by
    simp only [Option.some.injEq, Addr.mk.injEq] at e2
    exact ⟨e2.1, e2.2.1⟩
  have HR1 : Hid (∀ W, Below w.heap.size w W → W.cell? ⟨bb, off + p, none⟩ = some (.slice ua b.length uc) ∧ Sl W (.slice ua b.length uc) (b.map Int.ofNat)) := hrow
  have HR2 : Hid (∀ W, Below w.heap.size w W → W.cell? ⟨bb, off + q, none⟩ = some (.slice va c.length vc) ∧ Sl W (.slice va c.length vc) (c.map Int.ofNat)) := hrow2
  have hbl : b.length ≤ 40 := G.len (List.mem_of_getElem? hb)
  have hcl : c.length ≤ 40 := G.len (List.mem_of_getElem? hc)
  have HY : Hid (∀ i, i < b.length → c.contains (b.getD i 0) = true → (∀ j, j < i → c.contains (b.getD j 0) = false) → mtO B p q = some (b.getD i 0)) := fun i hi h hno => by
    unfold mtO
    rw [getD_some hb, getD_some hc]
    exact findl_at hi h hno
  have HN : Hid ((∀ j, j < b.length → c.contains (b.getD j 0) = false) → mtO B p q = none) := fun h => by
    unfold mtO
    rw [getD_some hb, getD_some hc]
    exact findl_none h
  have HEL : Hid (∀ (W : World) (i : Nat), i < b.length → Sl W (.slice ua b.length uc) (b.map Int.ofNat) → ∃ g o, ua = some ⟨g, o, none⟩ ∧ W.cell? ⟨g, o + i, none⟩ = some (.int .i64 ((b.getD i 0 : Nat) : Int))) := fun W i hi hs => by
    obtain ⟨a', c', e, h⟩ := hs
    rw [List.length_map] at h e
    simp only [Value.slice.injEq] at e
    obtain ⟨g, o, e1, h1⟩ := h i hi
    rw [ofNat_at b hi] at h1
    exact ⟨g, o, e.1.trans e1, h1⟩
  have HL : Hid (∀ (W : World) (x : Nat), Sl W (.slice va c.length vc) (c.map Int.ofNat) → Calls Tryd.prog 27 #[.slice va c.length vc, .int .i64 ((x : Nat) : Int)] W fun e w' => e = .returned (.bool (c.contains x)) ∧ w' = W) := fun W x hbv => Lies_any c x _ _ W hbv (by omega) rfl
  have HC : Hid (∀ W, Below (w.alloc (.cells #[.int .i64 (v : Int), .slice (some ⟨bb, off, none⟩) B.length cap] 29)).heap.size (w.alloc (.cells #[.int .i64 (v : Int), .slice (some ⟨bb, off, none⟩) B.length cap] 29)) W → W.cell? ⟨w.heap.size, 0, none⟩ = some (.int .i64 (v : Int)) ∧ W.cell? ⟨w.heap.size, 1, none⟩ = some (.slice (some ⟨bb, off, none⟩) B.length cap)) := des_box (v : Int) _ w
  obtain ⟨w0, Hw0⟩ : ∃ w0, Hid (w0 = w.alloc (.cells #[.int .i64 (v : Int), .slice (some ⟨bb, off, none⟩) B.length cap] 29)) := ⟨_, rfl⟩
  rw [← Hw0.out] at HC
  have HB0 : Hid (Below w.heap.size w w0) := by rw [Hw0.out]; exact balloc _ _
  obtain ⟨z, Hz⟩ : ∃ z, Hid (mtO B p q = z) := ⟨_, rfl⟩
  rw [Hz.out] at HY HN ⊢
  obtain ⟨x0, x1⟩ := HC.out _ (Below.refl _ _)
  rw [Hw0.out] at x0 x1
  generalize hBn : B.length = n at *
  generalize hbn : b.length = bn at *
  generalize hcn : c.length = cn at *
  have d1 : decide ((p : Int) < 0) = false := by simp
  have d2 : decide ((n : Int) ≤ (p : Int)) = false := by simp; omega
  have d2' : decide (n ≤ p) = false := by simp; omega
  have d2'' : ¬ n ≤ p := by omega
  have d3 : decide ((q : Int) < 0) = false := by simp
  have d4 : decide ((n : Int) ≤ (q : Int)) = false := by simp; omega
  have d4' : decide (n ≤ q) = false := by simp; omega
  have d4'' : ¬ n ≤ q := by omega
  have d5 : ((p : Int) == (q : Int)) = false := by simp; omega
  have d5' : ¬ (p : Int) = (q : Int) := by omega
  have d6 : (p : Int) < (n : Int) := by omega
  have d7 : (q : Int) < (n : Int) := by omega
  clear hD hu hrow hrow2 hb hc e2 G
  go_enter Tryd.func21, Tryd.ntmps21
  go_wp2
  go_loopw [8] (fun iv wr => ∃ i : Nat, iv = .int .i64 (i : Int) ∧ i ≤ bn ∧ Hid (∀ j, j < i → c.contains (b.getD j 0) = false) ∧ Below w0.heap.size w0 wr) (fun iv _ => (bn - intOf iv).toNat)
  case atStart => exact ⟨0, rfl, by omega, (show ∀ j, j < 0 → _ from fun j h => by omega), by rw [Hw0.out]; exact Below.refl _ _⟩
  case round =>
    clear x0 x1
    obtain ⟨i, rfl, hi, HI, hB⟩ := hrel
    obtain ⟨x0, x1⟩ := HC.out _ hB
    have hBw := Below.next HB0.out hB
    obtain ⟨r1, s1⟩ := HR1.out _ hBw
    obtain ⟨r2, s2⟩ := HR2.out _ hBw
    by_cases hlt : i < bn
    · have hdi : decide ((i : Int) < (bn : Int)) = true := by simp; omega
      have hii : (i : Int) < (bn : Int) := by omega
      obtain ⟨g, o, rfl, hel⟩ := HEL.out wr i hlt s1
      have hy := fun h => HY.out i hlt h HI.out
      have CQ := fun nn => HL.out (wr.drewN nn) (b.getD i 0) (s2.below (bdrewN (Below.refl _ wr) nn))
      have HI2 : Hid (c.contains (b.getD i 0) = false → ∀ j, j < i + 1 → c.contains (b.getD j 0) = false) := fun h j hj => by
        by_cases e : j = i
        · subst e; exact h
        · exact HI.out j (by omega)
      obtain ⟨t, Ht⟩ : ∃ t, Hid (c.contains (b.getD i 0) = t) := ⟨_, rfl⟩
      rw [Ht.out] at CQ hy HI2
      obtain ⟨x, Hx⟩ : ∃ x, Hid (b.getD i 0 = x) := ⟨_, rfl⟩
      rw [Hx.out] at CQ hy hel
      clear s1 s2 HI
      cases t
      · have HI3 : Hid (∀ j, j < i + 1 → c.contains (b.getD j 0) = false) := HI2.out rfl
        clear hy HI2
        go_wp2
        go_quiet (first | (refine Calls.quiet_of_same (CQ _)) | fail)
        go_wp2
        go_roundw
        case rel => exact ⟨i + 1, by go_num, by omega, HI3, bdrewN hB _⟩
        case measure => simp [intOf]; omega
      · obtain rfl := hy rfl
        clear hy HI2
        go_wp2
        go_quiet (first | (refine Calls.quiet_of_same (CQ _)) | fail)
        go_wp2
        exact bodyPost_ret (v := .tuple #[.int .i64 (x : Int), .int .i64 0]) (by simp [results, Tryd.results21, go_sem]) rfl ⟨rfl, bdrewN hBw _⟩
    · have hdi : decide ((i : Int) < (bn : Int)) = false := by simp; omega
      obtain rfl := HN.out fun j hj => HI.out j (by omega)
      clear s1 s2
      go_wp2
      exact bodyPost_ret (v := .tuple #[.int .i64 0, .int .i64 4]) (by simp [results, Tryd.results21, go_sem]) rfl ⟨rfl, hBw⟩

end Go.Proofs.YtgpkhfpejopacaaDoor
