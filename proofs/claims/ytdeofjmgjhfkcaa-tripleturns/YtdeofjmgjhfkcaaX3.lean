/- The law TripleTurns, whatever is handed in. -/
import Derived.Test.YtdeofjmgjhfkcaaK2
import Derived.Test.YtdeofjmgjhfkcaaL3
import Derived.Test.YtdeofjmgjhfkcaaU3
import Derived.Test.YtdeofjmgjhfkcaaC2
import Derived.Test.YtdeofjmgjhfkcaaQ2
import Derived.Test.YtdeofjmgjhfkcaaV2
import Derived.Test.YtdeofjmgjhfkcaaX2
import Derived.Test.YtdeofjmgjhfkcaaW4
/- The law TriplePasses. -/
/- The law TripleKirkman. -/
namespace Go.Proofs.Ytdeofjmgjhfkcaa
open Go.RowKit

theorem TfT.same {p e e' : Int} {ls : List (List Int)} (h : TfT p ls e) (h' : TfT p ls e') : e = e' := TfT.one (fun v B e1 e2 G => by rw [e1, e2]; exact good_dF G) h h'
theorem good_short {v : Nat} {B : List (List Nat)} (G : GoodD v B) : (toZ B).length ≤ maxLen ∧ ∀ l ∈ toZ B, l.length ≤ maxLen := by
  refine ⟨by have := G.few; simp [toZ]; unfold maxLen; omega, fun l hl => ?_⟩
  obtain ⟨b, hb, rfl⟩ := List.mem_map.1 hl
  have := G.len hb
  rw [List.length_map]; unfold maxLen; omega
theorem Make_good (n : Nat) (w : World) (h1 : 1 ≤ n) (h3 : n ≤ 33) (h : n % 6 = 1 ∨ n % 6 = 3) :
    Calls Try.prog 9 #[.int .i64 (n : Int)] w fun e w' => ∃ x Z, e = .returned (.tuple #[.agg #[.int .i64 (n : Int), x], .int .i64 0]) ∧ (Sys n Z ∧ GoodD n Z) ∧ Rw w' x (toZ Z) ∧ Below w.heap.size w w' := by
  have key : ∀ {Z}, Srtd (mkL n) Z → Sys n Z ∧ GoodD n Z := fun hS => sys_good h1 h3 (mkL_sys h3 h) hS (mkL_s3 n)
  by_cases h6 : n % 6 = 1
  · refine (Make_sk n w h1 h3 h6).mono ?_
    rintro e w' ⟨x, Z, rfl, hS, hR, hb⟩
    exact ⟨x, Z, rfl, key (by unfold mkL; rw [if_pos h6]; exact hS), hR, hb⟩
  · refine (Make_bo n w h1 h3 (by omega)).mono ?_
    rintro e w' ⟨x, Z, rfl, hS, hR, hb⟩
    exact ⟨x, Z, rfl, key (by unfold mkL; rw [if_neg h6]; exact hS), hR, hb⟩
theorem TCheck_sys (v : Nat) (B : List (List Nat)) (u : Value) (w : World) (s : Sys v B) (G : GoodD v B) (hu : Rw w u (toZ B)) :
    Calls Try.prog 13 #[.agg #[.int .i64 (v : Int), u]] w fun e w' => e = .returned (.int .i64 0) ∧ Below w.heap.size w w' := by
  obtain ⟨g1, g2⟩ := good_short G
  refine (TCheck_any v (toZ B) u w hu g1 g2).mono ?_
  rintro e w' ⟨f, rfl, hT, hb⟩
  rw [hT.same (.inr ⟨v, B, rfl, rfl, G, .inl ⟨s, rfl⟩⟩)]
  exact ⟨rfl, hb⟩
set_option maxRecDepth 100000 in
set_option maxHeartbeats 4000000 in
theorem Fact_any (w : World) : Calls Try.prog 23 #[] w fun e w' => e = .returned (.bool true) ∧ Below w.heap.size w w' := by
  have C1 : Hid (∀ W, Calls Try.prog 9 #[.int .i64 7] W fun e w' => ∃ x Z, e = .returned (.tuple #[.agg #[.int .i64 7, x], .int .i64 0]) ∧ (Sys 7 Z ∧ GoodD 7 Z) ∧ Rw w' x (toZ Z) ∧ Below W.heap.size W w') := fun W => Make_good 7 W (by omega) (by omega) (by omega)
  have HDB : Hid (∀ (p : Int) (y : Value) (W0 W : World), Below (W0.alloc (.cells #[.int .i64 p, y] 24)).heap.size (W0.alloc (.cells #[.int .i64 p, y] 24)) W → W.cell? ⟨W0.heap.size, 0, none⟩ = some (.int .i64 p) ∧ W.cell? ⟨W0.heap.size, 1, none⟩ = some y) := fun p y W0 W h => des_box p y W0 W h
  go_enter Try.func23, Try.ntmps23
  go_wp2_with (first
    | (go_at_call 9; refine (C1.out _).mono ?_; rintro e w1 ⟨x, Z, rfl, ⟨hs, hG⟩, hR, hB⟩; clear C1; obtain ⟨xa, xc, rfl⟩ := rw_form hR; have hl : Z.length = 7 := (by have := sys_len hs; omega); have bb := balloc w1 (.cells #[.int .i64 7, .slice xa Z.length xc] 24); have C2 : Hid (Calls Try.prog 13 #[.agg #[.int .i64 7, .slice xa Z.length xc]] (w1.alloc (.cells #[.int .i64 7, .slice xa Z.length xc] 24)) fun e w' => e = .returned (.int .i64 0) ∧ Below (w1.alloc (.cells #[.int .i64 7, .slice xa Z.length xc] 24)).heap.size (w1.alloc (.cells #[.int .i64 7, .slice xa Z.length xc] 24)) w') := TCheck_sys 7 Z _ _ hs hG (hR.below bb); have HB : Hid (Below w.heap.size w (w1.alloc (.cells #[.int .i64 7, .slice xa Z.length xc] 24))) := Below.next hB bb; rw [hl] at C2 HB ⊢; clear hs hG hR hB bb hl)
    | (go_at_call 13; refine C2.out.mono ?_; rintro e w2 ⟨rfl, hb⟩; clear C2; obtain ⟨k0, k1⟩ := HDB.out _ _ _ _ hb; have HB2 : Hid (Below w.heap.size w w2) := Below.next HB.out hb; clear hb))
  go_ret
  exact ⟨rfl, HB2.out⟩
/-- The answer of Check is one. -/
theorem TCheck_one (p : Int) (ls : List (List Int)) : ∃ f : Int, TfT p ls f ∧ (f = 0 → ∃ v B, p = ((v : Nat) : Int) ∧ ls = toZ B ∧ GoodD v B ∧ Sys v B) := by
  by_cases hz : dF p ls = 0
  · obtain ⟨v, B, e1, e2, G⟩ := dF_ok hz
    by_cases hs : Sys v B
    · exact ⟨0, .inr ⟨v, B, e1, e2, G, .inl ⟨hs, rfl⟩⟩, fun _ => ⟨v, B, e1, e2, G, hs⟩⟩
    · exact ⟨4, .inr ⟨v, B, e1, e2, G, .inr ⟨hs, rfl⟩⟩, fun h => by omega⟩
  · exact ⟨dF p ls, .inl ⟨hz, rfl⟩, fun h => by omega⟩
/-- The walks of the law, one a case. -/
theorem kirk_cases : True := trivial
set_option maxRecDepth 100000 in
set_option maxHeartbeats 4000000 in
theorem Kirk_low_ok (v : Int) (hv : v < 1) (q : Nat) (hq : 1 ≤ q ∧ q ≤ 40) (hq6 : q % 6 = 1 ∨ q % 6 = 3) (n : Nat) (u : Value) (w : World) (hu : ∃ a c, u = .slice a n c)
    (C2 : ∀ W, Below w.heap.size w W → Calls Try.prog 13 #[.agg #[.int .i64 (q : Int), u]] W fun e w' => e = .returned (.int .i64 0) ∧ Below W.heap.size W w') :
    Calls Try.prog 7 #[.int .i64 v, .agg #[.int .i64 (q : Int), u]] w fun e w' => e = .returned (.bool true) ∧ Below w.heap.size w w' := by
  have HM : Hid (∀ W, Calls Try.prog 9 #[.int .i64 v] W fun e w' => e = .returned (.tuple #[.agg #[.int .i64 0, .slice none 0 0], .int .i64 1]) ∧ Below W.heap.size W w') := fun W => Make_far v W (.inl hv)
  have HC : Hid (∀ W, Below (w.alloc (.cells #[.int .i64 (q : Int), u] 24)).heap.size (w.alloc (.cells #[.int .i64 (q : Int), u] 24)) W → W.cell? ⟨w.heap.size, 0, none⟩ = some (.int .i64 (q : Int)) ∧ W.cell? ⟨w.heap.size, 1, none⟩ = some u) := des_box (q : Int) u w
  have HB0 : Hid (Below w.heap.size w (w.alloc (.cells #[.int .i64 (q : Int), u] 24))) := balloc _ _
  have HZ0 : Hid ((w.alloc (.cells #[.int .i64 (q : Int), u] 24)).heap.size = w.heap.size + 1) := by show _ = _; simp
  obtain ⟨w0, Hw0⟩ : ∃ w0, Hid (w0 = w.alloc (.cells #[.int .i64 (q : Int), u] 24)) := ⟨_, rfl⟩
  rw [← Hw0.out] at HC HB0 HZ0
  have HF : Hid (∀ W, Calls Try.prog 23 #[] W fun e w' => e = .returned (.bool true) ∧ Below W.heap.size W w') := Fact_any
  have HDB : Hid (∀ (p : Int) (y : Value) (W0 W : World), Below (W0.alloc (.cells #[.int .i64 p, y] 24)).heap.size (W0.alloc (.cells #[.int .i64 p, y] 24)) W → W.cell? ⟨W0.heap.size, 0, none⟩ = some (.int .i64 p) ∧ W.cell? ⟨W0.heap.size, 1, none⟩ = some y) := fun p y W0 W h => des_box p y W0 W h
  obtain ⟨ua, uc, rfl⟩ := hu
  have HC2 : Hid (∀ W, Below w.heap.size w W → Calls Try.prog 13 #[.agg #[.int .i64 (q : Int), .slice ua n uc]] W fun e w' => e = .returned (.int .i64 0) ∧ Below W.heap.size W w') := C2
  clear C2
  have d1 : decide (v ≥ 1) = false := by simp; omega
  have d1' : decide (1 ≤ v) = false := by simp; omega
  have d2 : ¬ 1 ≤ v := by omega
  obtain ⟨hq1, hq2⟩ := hq
  have hqm : (q : Int).tmod 6 = ((q % 6 : Nat) : Int) := by rw [Int.tmod_eq_emod_of_nonneg (by omega)]; rfl
  generalize q % 6 = q6 at *
  rcases hq6 with rfl | rfl
  · go_enter Try.func7, Try.ntmps7
    go_wp2_with (first
      | (go_at_call 23; rw [← Hw0.out]; refine (HF.out _).mono ?_; rintro e w1 ⟨rfl, hb⟩; clear HF; have HB1 : Hid (Below w.heap.size w w1) := Below.next HB0.out hb; have HK1 : Hid (Below w0.heap.size w0 w1) := hb; clear hb)
      | (go_at_call 9; refine (HM.out _).mono ?_; rintro e w2 ⟨rfl, hb⟩; clear HM; have bb := balloc w2 (.cells #[.int .i64 0, .slice none 0 0] 24); have HB2 : Hid (Below w.heap.size w (w2.alloc (.cells #[.int .i64 0, .slice none 0 0] 24))) := Below.next HB1.out (Below.next hb bb); have HK2 : Hid (Below w0.heap.size w0 (w2.alloc (.cells #[.int .i64 0, .slice none 0 0] 24))) := Below.next HK1.out (Below.next hb bb); obtain ⟨y0, y1⟩ := HC.out _ HK2.out; clear hb bb)
      | (go_at_call 13; refine (HC2.out _ HB2.out).mono ?_; rintro e w4 ⟨rfl, hb⟩; clear HC2; have HB4 : Hid (Below w.heap.size w w4) := Below.next HB2.out hb; obtain ⟨z0, z1⟩ := HC.out _ (Below.next HK2.out hb); clear hb))
    go_ret
    exact ⟨rfl, HB4.out⟩
  · go_enter Try.func7, Try.ntmps7
    go_wp2_with (first
      | (go_at_call 23; rw [← Hw0.out]; refine (HF.out _).mono ?_; rintro e w1 ⟨rfl, hb⟩; clear HF; have HB1 : Hid (Below w.heap.size w w1) := Below.next HB0.out hb; have HK1 : Hid (Below w0.heap.size w0 w1) := hb; clear hb)
      | (go_at_call 9; refine (HM.out _).mono ?_; rintro e w2 ⟨rfl, hb⟩; clear HM; have bb := balloc w2 (.cells #[.int .i64 0, .slice none 0 0] 24); have HB2 : Hid (Below w.heap.size w (w2.alloc (.cells #[.int .i64 0, .slice none 0 0] 24))) := Below.next HB1.out (Below.next hb bb); have HK2 : Hid (Below w0.heap.size w0 (w2.alloc (.cells #[.int .i64 0, .slice none 0 0] 24))) := Below.next HK1.out (Below.next hb bb); obtain ⟨y0, y1⟩ := HC.out _ HK2.out; clear hb bb)
      | (go_at_call 13; refine (HC2.out _ HB2.out).mono ?_; rintro e w4 ⟨rfl, hb⟩; clear HC2; have HB4 : Hid (Below w.heap.size w w4) := Below.next HB2.out hb; obtain ⟨z0, z1⟩ := HC.out _ (Below.next HK2.out hb); clear hb))
    go_ret
    exact ⟨rfl, HB4.out⟩
set_option maxRecDepth 100000 in
set_option maxHeartbeats 4000000 in
theorem Kirk_low_no (v : Int) (hv : v < 1) (q f : Int) (hf : f ≠ 0) (n : Nat) (u : Value) (w : World) (hu : ∃ a c, u = .slice a n c)
    (C2 : ∀ W, Below w.heap.size w W → Calls Try.prog 13 #[.agg #[.int .i64 q, u]] W fun e w' => e = .returned (.int .i64 f) ∧ Below W.heap.size W w') :
    Calls Try.prog 7 #[.int .i64 v, .agg #[.int .i64 q, u]] w fun e w' => e = .returned (.bool true) ∧ Below w.heap.size w w' := by
  have HM : Hid (∀ W, Calls Try.prog 9 #[.int .i64 v] W fun e w' => e = .returned (.tuple #[.agg #[.int .i64 0, .slice none 0 0], .int .i64 1]) ∧ Below W.heap.size W w') := fun W => Make_far v W (.inl hv)
  have HC : Hid (∀ W, Below (w.alloc (.cells #[.int .i64 q, u] 24)).heap.size (w.alloc (.cells #[.int .i64 q, u] 24)) W → W.cell? ⟨w.heap.size, 0, none⟩ = some (.int .i64 q) ∧ W.cell? ⟨w.heap.size, 1, none⟩ = some u) := des_box q u w
  have HB0 : Hid (Below w.heap.size w (w.alloc (.cells #[.int .i64 q, u] 24))) := balloc _ _
  have HZ0 : Hid ((w.alloc (.cells #[.int .i64 q, u] 24)).heap.size = w.heap.size + 1) := by show _ = _; simp
  obtain ⟨w0, Hw0⟩ : ∃ w0, Hid (w0 = w.alloc (.cells #[.int .i64 q, u] 24)) := ⟨_, rfl⟩
  rw [← Hw0.out] at HC HB0 HZ0
  have HF : Hid (∀ W, Calls Try.prog 23 #[] W fun e w' => e = .returned (.bool true) ∧ Below W.heap.size W w') := Fact_any
  have HDB : Hid (∀ (p : Int) (y : Value) (W0 W : World), Below (W0.alloc (.cells #[.int .i64 p, y] 24)).heap.size (W0.alloc (.cells #[.int .i64 p, y] 24)) W → W.cell? ⟨W0.heap.size, 0, none⟩ = some (.int .i64 p) ∧ W.cell? ⟨W0.heap.size, 1, none⟩ = some y) := fun p y W0 W h => des_box p y W0 W h
  obtain ⟨ua, uc, rfl⟩ := hu
  have HC2 : Hid (∀ W, Below w.heap.size w W → Calls Try.prog 13 #[.agg #[.int .i64 q, .slice ua n uc]] W fun e w' => e = .returned (.int .i64 f) ∧ Below W.heap.size W w') := C2
  clear C2
  have d1 : decide (v ≥ 1) = false := by simp; omega
  have d1' : decide (1 ≤ v) = false := by simp; omega
  have d2 : ¬ 1 ≤ v := by omega
  have g1 : (f != 0) = true := by simp; omega
  have g2 : ¬ f = 0 := hf
  go_enter Try.func7, Try.ntmps7
  go_wp2_with (first
    | (go_at_call 23; rw [← Hw0.out]; refine (HF.out _).mono ?_; rintro e w1 ⟨rfl, hb⟩; clear HF; have HB1 : Hid (Below w.heap.size w w1) := Below.next HB0.out hb; have HK1 : Hid (Below w0.heap.size w0 w1) := hb; clear hb)
    | (go_at_call 9; refine (HM.out _).mono ?_; rintro e w2 ⟨rfl, hb⟩; clear HM; have bb := balloc w2 (.cells #[.int .i64 0, .slice none 0 0] 24); have HB2 : Hid (Below w.heap.size w (w2.alloc (.cells #[.int .i64 0, .slice none 0 0] 24))) := Below.next HB1.out (Below.next hb bb); have HK2 : Hid (Below w0.heap.size w0 (w2.alloc (.cells #[.int .i64 0, .slice none 0 0] 24))) := Below.next HK1.out (Below.next hb bb); obtain ⟨y0, y1⟩ := HC.out _ HK2.out; clear hb bb)
    | (go_at_call 13; refine (HC2.out _ HB2.out).mono ?_; rintro e w4 ⟨rfl, hb⟩; clear HC2; have HB4 : Hid (Below w.heap.size w w4) := Below.next HB2.out hb; obtain ⟨z0, z1⟩ := HC.out _ (Below.next HK2.out hb); clear hb))
  go_ret
  exact ⟨rfl, HB4.out⟩
set_option maxRecDepth 100000 in
set_option maxHeartbeats 4000000 in
theorem Kirk_high_ok (v : Int) (hv : 33 < v) (q : Nat) (hq : 1 ≤ q ∧ q ≤ 40) (hq6 : q % 6 = 1 ∨ q % 6 = 3) (n : Nat) (u : Value) (w : World) (hu : ∃ a c, u = .slice a n c)
    (C2 : ∀ W, Below w.heap.size w W → Calls Try.prog 13 #[.agg #[.int .i64 (q : Int), u]] W fun e w' => e = .returned (.int .i64 0) ∧ Below W.heap.size W w') :
    Calls Try.prog 7 #[.int .i64 v, .agg #[.int .i64 (q : Int), u]] w fun e w' => e = .returned (.bool true) ∧ Below w.heap.size w w' := by
  have HM : Hid (∀ W, Calls Try.prog 9 #[.int .i64 v] W fun e w' => e = .returned (.tuple #[.agg #[.int .i64 0, .slice none 0 0], .int .i64 1]) ∧ Below W.heap.size W w') := fun W => Make_far v W (.inr hv)
  have HC : Hid (∀ W, Below (w.alloc (.cells #[.int .i64 (q : Int), u] 24)).heap.size (w.alloc (.cells #[.int .i64 (q : Int), u] 24)) W → W.cell? ⟨w.heap.size, 0, none⟩ = some (.int .i64 (q : Int)) ∧ W.cell? ⟨w.heap.size, 1, none⟩ = some u) := des_box (q : Int) u w
  have HB0 : Hid (Below w.heap.size w (w.alloc (.cells #[.int .i64 (q : Int), u] 24))) := balloc _ _
  have HZ0 : Hid ((w.alloc (.cells #[.int .i64 (q : Int), u] 24)).heap.size = w.heap.size + 1) := by show _ = _; simp
  obtain ⟨w0, Hw0⟩ : ∃ w0, Hid (w0 = w.alloc (.cells #[.int .i64 (q : Int), u] 24)) := ⟨_, rfl⟩
  rw [← Hw0.out] at HC HB0 HZ0
  have HF : Hid (∀ W, Calls Try.prog 23 #[] W fun e w' => e = .returned (.bool true) ∧ Below W.heap.size W w') := Fact_any
  have HDB : Hid (∀ (p : Int) (y : Value) (W0 W : World), Below (W0.alloc (.cells #[.int .i64 p, y] 24)).heap.size (W0.alloc (.cells #[.int .i64 p, y] 24)) W → W.cell? ⟨W0.heap.size, 0, none⟩ = some (.int .i64 p) ∧ W.cell? ⟨W0.heap.size, 1, none⟩ = some y) := fun p y W0 W h => des_box p y W0 W h
  obtain ⟨ua, uc, rfl⟩ := hu
  have HC2 : Hid (∀ W, Below w.heap.size w W → Calls Try.prog 13 #[.agg #[.int .i64 (q : Int), .slice ua n uc]] W fun e w' => e = .returned (.int .i64 0) ∧ Below W.heap.size W w') := C2
  clear C2
  have d1 : decide (v ≥ 1) = true := by simp; omega
  have d1' : decide (1 ≤ v) = true := by simp; omega
  have d2 : 1 ≤ v := by omega
  have d3 : decide (v ≤ 33) = false := by simp; omega
  have d4 : ¬ v ≤ 33 := by omega
  obtain ⟨hq1, hq2⟩ := hq
  have hqm : (q : Int).tmod 6 = ((q % 6 : Nat) : Int) := by rw [Int.tmod_eq_emod_of_nonneg (by omega)]; rfl
  generalize q % 6 = q6 at *
  rcases hq6 with rfl | rfl
  · go_enter Try.func7, Try.ntmps7
    go_wp2_with (first
      | (go_at_call 23; rw [← Hw0.out]; refine (HF.out _).mono ?_; rintro e w1 ⟨rfl, hb⟩; clear HF; have HB1 : Hid (Below w.heap.size w w1) := Below.next HB0.out hb; have HK1 : Hid (Below w0.heap.size w0 w1) := hb; clear hb)
      | (go_at_call 9; refine (HM.out _).mono ?_; rintro e w2 ⟨rfl, hb⟩; clear HM; have bb := balloc w2 (.cells #[.int .i64 0, .slice none 0 0] 24); have HB2 : Hid (Below w.heap.size w (w2.alloc (.cells #[.int .i64 0, .slice none 0 0] 24))) := Below.next HB1.out (Below.next hb bb); have HK2 : Hid (Below w0.heap.size w0 (w2.alloc (.cells #[.int .i64 0, .slice none 0 0] 24))) := Below.next HK1.out (Below.next hb bb); obtain ⟨y0, y1⟩ := HC.out _ HK2.out; clear hb bb)
      | (go_at_call 13; refine (HC2.out _ HB2.out).mono ?_; rintro e w4 ⟨rfl, hb⟩; clear HC2; have HB4 : Hid (Below w.heap.size w w4) := Below.next HB2.out hb; obtain ⟨z0, z1⟩ := HC.out _ (Below.next HK2.out hb); clear hb))
    go_ret
    exact ⟨rfl, HB4.out⟩
  · go_enter Try.func7, Try.ntmps7
    go_wp2_with (first
      | (go_at_call 23; rw [← Hw0.out]; refine (HF.out _).mono ?_; rintro e w1 ⟨rfl, hb⟩; clear HF; have HB1 : Hid (Below w.heap.size w w1) := Below.next HB0.out hb; have HK1 : Hid (Below w0.heap.size w0 w1) := hb; clear hb)
      | (go_at_call 9; refine (HM.out _).mono ?_; rintro e w2 ⟨rfl, hb⟩; clear HM; have bb := balloc w2 (.cells #[.int .i64 0, .slice none 0 0] 24); have HB2 : Hid (Below w.heap.size w (w2.alloc (.cells #[.int .i64 0, .slice none 0 0] 24))) := Below.next HB1.out (Below.next hb bb); have HK2 : Hid (Below w0.heap.size w0 (w2.alloc (.cells #[.int .i64 0, .slice none 0 0] 24))) := Below.next HK1.out (Below.next hb bb); obtain ⟨y0, y1⟩ := HC.out _ HK2.out; clear hb bb)
      | (go_at_call 13; refine (HC2.out _ HB2.out).mono ?_; rintro e w4 ⟨rfl, hb⟩; clear HC2; have HB4 : Hid (Below w.heap.size w w4) := Below.next HB2.out hb; obtain ⟨z0, z1⟩ := HC.out _ (Below.next HK2.out hb); clear hb))
    go_ret
    exact ⟨rfl, HB4.out⟩
set_option maxRecDepth 100000 in
set_option maxHeartbeats 4000000 in
theorem Kirk_high_no (v : Int) (hv : 33 < v) (q f : Int) (hf : f ≠ 0) (n : Nat) (u : Value) (w : World) (hu : ∃ a c, u = .slice a n c)
    (C2 : ∀ W, Below w.heap.size w W → Calls Try.prog 13 #[.agg #[.int .i64 q, u]] W fun e w' => e = .returned (.int .i64 f) ∧ Below W.heap.size W w') :
    Calls Try.prog 7 #[.int .i64 v, .agg #[.int .i64 q, u]] w fun e w' => e = .returned (.bool true) ∧ Below w.heap.size w w' := by
  have HM : Hid (∀ W, Calls Try.prog 9 #[.int .i64 v] W fun e w' => e = .returned (.tuple #[.agg #[.int .i64 0, .slice none 0 0], .int .i64 1]) ∧ Below W.heap.size W w') := fun W => Make_far v W (.inr hv)
  have HC : Hid (∀ W, Below (w.alloc (.cells #[.int .i64 q, u] 24)).heap.size (w.alloc (.cells #[.int .i64 q, u] 24)) W → W.cell? ⟨w.heap.size, 0, none⟩ = some (.int .i64 q) ∧ W.cell? ⟨w.heap.size, 1, none⟩ = some u) := des_box q u w
  have HB0 : Hid (Below w.heap.size w (w.alloc (.cells #[.int .i64 q, u] 24))) := balloc _ _
  have HZ0 : Hid ((w.alloc (.cells #[.int .i64 q, u] 24)).heap.size = w.heap.size + 1) := by show _ = _; simp
  obtain ⟨w0, Hw0⟩ : ∃ w0, Hid (w0 = w.alloc (.cells #[.int .i64 q, u] 24)) := ⟨_, rfl⟩
  rw [← Hw0.out] at HC HB0 HZ0
  have HF : Hid (∀ W, Calls Try.prog 23 #[] W fun e w' => e = .returned (.bool true) ∧ Below W.heap.size W w') := Fact_any
  have HDB : Hid (∀ (p : Int) (y : Value) (W0 W : World), Below (W0.alloc (.cells #[.int .i64 p, y] 24)).heap.size (W0.alloc (.cells #[.int .i64 p, y] 24)) W → W.cell? ⟨W0.heap.size, 0, none⟩ = some (.int .i64 p) ∧ W.cell? ⟨W0.heap.size, 1, none⟩ = some y) := fun p y W0 W h => des_box p y W0 W h
  obtain ⟨ua, uc, rfl⟩ := hu
  have HC2 : Hid (∀ W, Below w.heap.size w W → Calls Try.prog 13 #[.agg #[.int .i64 q, .slice ua n uc]] W fun e w' => e = .returned (.int .i64 f) ∧ Below W.heap.size W w') := C2
  clear C2
  have d1 : decide (v ≥ 1) = true := by simp; omega
  have d1' : decide (1 ≤ v) = true := by simp; omega
  have d2 : 1 ≤ v := by omega
  have d3 : decide (v ≤ 33) = false := by simp; omega
  have d4 : ¬ v ≤ 33 := by omega
  have g1 : (f != 0) = true := by simp; omega
  have g2 : ¬ f = 0 := hf
  go_enter Try.func7, Try.ntmps7
  go_wp2_with (first
    | (go_at_call 23; rw [← Hw0.out]; refine (HF.out _).mono ?_; rintro e w1 ⟨rfl, hb⟩; clear HF; have HB1 : Hid (Below w.heap.size w w1) := Below.next HB0.out hb; have HK1 : Hid (Below w0.heap.size w0 w1) := hb; clear hb)
    | (go_at_call 9; refine (HM.out _).mono ?_; rintro e w2 ⟨rfl, hb⟩; clear HM; have bb := balloc w2 (.cells #[.int .i64 0, .slice none 0 0] 24); have HB2 : Hid (Below w.heap.size w (w2.alloc (.cells #[.int .i64 0, .slice none 0 0] 24))) := Below.next HB1.out (Below.next hb bb); have HK2 : Hid (Below w0.heap.size w0 (w2.alloc (.cells #[.int .i64 0, .slice none 0 0] 24))) := Below.next HK1.out (Below.next hb bb); obtain ⟨y0, y1⟩ := HC.out _ HK2.out; clear hb bb)
    | (go_at_call 13; refine (HC2.out _ HB2.out).mono ?_; rintro e w4 ⟨rfl, hb⟩; clear HC2; have HB4 : Hid (Below w.heap.size w w4) := Below.next HB2.out hb; obtain ⟨z0, z1⟩ := HC.out _ (Below.next HK2.out hb); clear hb))
  go_ret
  exact ⟨rfl, HB4.out⟩
set_option maxRecDepth 100000 in
set_option maxHeartbeats 4000000 in
theorem Kirk_none_ok (v n6 : Nat) (hv : 1 ≤ v ∧ v ≤ 33) (h6 : v % 6 = n6) (hn : n6 ≠ 1 ∧ n6 ≠ 3) (q : Nat) (hq : 1 ≤ q ∧ q ≤ 40) (hq6 : q % 6 = 1 ∨ q % 6 = 3) (n : Nat) (u : Value) (w : World) (hu : ∃ a c, u = .slice a n c)
    (C2 : ∀ W, Below w.heap.size w W → Calls Try.prog 13 #[.agg #[.int .i64 (q : Int), u]] W fun e w' => e = .returned (.int .i64 0) ∧ Below W.heap.size W w') :
    Calls Try.prog 7 #[.int .i64 (v : Int), .agg #[.int .i64 (q : Int), u]] w fun e w' => e = .returned (.bool true) ∧ Below w.heap.size w w' := by
  have HM : Hid (∀ W, Calls Try.prog 9 #[.int .i64 (v : Int)] W fun e w' => e = .returned (.tuple #[.agg #[.int .i64 0, .slice none 0 0], .int .i64 4]) ∧ Below W.heap.size W w') := fun W => Make_none v W hv.1 hv.2 (by omega) (by omega)
  have HC : Hid (∀ W, Below (w.alloc (.cells #[.int .i64 (q : Int), u] 24)).heap.size (w.alloc (.cells #[.int .i64 (q : Int), u] 24)) W → W.cell? ⟨w.heap.size, 0, none⟩ = some (.int .i64 (q : Int)) ∧ W.cell? ⟨w.heap.size, 1, none⟩ = some u) := des_box (q : Int) u w
  have HB0 : Hid (Below w.heap.size w (w.alloc (.cells #[.int .i64 (q : Int), u] 24))) := balloc _ _
  have HZ0 : Hid ((w.alloc (.cells #[.int .i64 (q : Int), u] 24)).heap.size = w.heap.size + 1) := by show _ = _; simp
  obtain ⟨w0, Hw0⟩ : ∃ w0, Hid (w0 = w.alloc (.cells #[.int .i64 (q : Int), u] 24)) := ⟨_, rfl⟩
  rw [← Hw0.out] at HC HB0 HZ0
  have HF : Hid (∀ W, Calls Try.prog 23 #[] W fun e w' => e = .returned (.bool true) ∧ Below W.heap.size W w') := Fact_any
  have HDB : Hid (∀ (p : Int) (y : Value) (W0 W : World), Below (W0.alloc (.cells #[.int .i64 p, y] 24)).heap.size (W0.alloc (.cells #[.int .i64 p, y] 24)) W → W.cell? ⟨W0.heap.size, 0, none⟩ = some (.int .i64 p) ∧ W.cell? ⟨W0.heap.size, 1, none⟩ = some y) := fun p y W0 W h => des_box p y W0 W h
  obtain ⟨ua, uc, rfl⟩ := hu
  have HC2 : Hid (∀ W, Below w.heap.size w W → Calls Try.prog 13 #[.agg #[.int .i64 (q : Int), .slice ua n uc]] W fun e w' => e = .returned (.int .i64 0) ∧ Below W.heap.size W w') := C2
  clear C2
  obtain ⟨hv1, hv2⟩ := hv
  have d1 : decide ((v : Int) ≥ 1) = true := by simp; omega
  have d1' : decide (1 ≤ (v : Int)) = true := by simp; omega
  have d2 : 1 ≤ (v : Int) := by omega
  have d3 : decide ((v : Int) ≤ 33) = true := by simp; omega
  have d4 : (v : Int) ≤ 33 := by omega
  have hm : (v : Int).tmod 6 = (n6 : Int) := by rw [Int.tmod_eq_emod_of_nonneg (by omega)]; omega
  have hn6 : n6 < 6 := by omega
  have e1 : ((n6 : Int) == 1) = false := by simp; omega
  have e2 : ((n6 : Int) == 3) = false := by simp; omega
  have e3 : ¬ (n6 : Int) = 1 := by omega
  have e4 : ¬ (n6 : Int) = 3 := by omega
  clear h6 hn
  obtain ⟨hq1, hq2⟩ := hq
  have hqm : (q : Int).tmod 6 = ((q % 6 : Nat) : Int) := by rw [Int.tmod_eq_emod_of_nonneg (by omega)]; rfl
  generalize q % 6 = q6 at *
  rcases hq6 with rfl | rfl
  · go_enter Try.func7, Try.ntmps7
    go_wp2_with (first
      | (go_at_call 23; rw [← Hw0.out]; refine (HF.out _).mono ?_; rintro e w1 ⟨rfl, hb⟩; clear HF; have HB1 : Hid (Below w.heap.size w w1) := Below.next HB0.out hb; have HK1 : Hid (Below w0.heap.size w0 w1) := hb; clear hb)
      | (go_at_call 9; refine (HM.out _).mono ?_; rintro e w2 ⟨rfl, hb⟩; clear HM; have bb := balloc w2 (.cells #[.int .i64 0, .slice none 0 0] 24); have HB2 : Hid (Below w.heap.size w (w2.alloc (.cells #[.int .i64 0, .slice none 0 0] 24))) := Below.next HB1.out (Below.next hb bb); have HK2 : Hid (Below w0.heap.size w0 (w2.alloc (.cells #[.int .i64 0, .slice none 0 0] 24))) := Below.next HK1.out (Below.next hb bb); obtain ⟨y0, y1⟩ := HC.out _ HK2.out; clear hb bb)
      | (go_at_call 13; refine (HC2.out _ HB2.out).mono ?_; rintro e w4 ⟨rfl, hb⟩; clear HC2; have HB4 : Hid (Below w.heap.size w w4) := Below.next HB2.out hb; obtain ⟨z0, z1⟩ := HC.out _ (Below.next HK2.out hb); clear hb))
    go_ret
    exact ⟨rfl, HB4.out⟩
  · go_enter Try.func7, Try.ntmps7
    go_wp2_with (first
      | (go_at_call 23; rw [← Hw0.out]; refine (HF.out _).mono ?_; rintro e w1 ⟨rfl, hb⟩; clear HF; have HB1 : Hid (Below w.heap.size w w1) := Below.next HB0.out hb; have HK1 : Hid (Below w0.heap.size w0 w1) := hb; clear hb)
      | (go_at_call 9; refine (HM.out _).mono ?_; rintro e w2 ⟨rfl, hb⟩; clear HM; have bb := balloc w2 (.cells #[.int .i64 0, .slice none 0 0] 24); have HB2 : Hid (Below w.heap.size w (w2.alloc (.cells #[.int .i64 0, .slice none 0 0] 24))) := Below.next HB1.out (Below.next hb bb); have HK2 : Hid (Below w0.heap.size w0 (w2.alloc (.cells #[.int .i64 0, .slice none 0 0] 24))) := Below.next HK1.out (Below.next hb bb); obtain ⟨y0, y1⟩ := HC.out _ HK2.out; clear hb bb)
      | (go_at_call 13; refine (HC2.out _ HB2.out).mono ?_; rintro e w4 ⟨rfl, hb⟩; clear HC2; have HB4 : Hid (Below w.heap.size w w4) := Below.next HB2.out hb; obtain ⟨z0, z1⟩ := HC.out _ (Below.next HK2.out hb); clear hb))
    go_ret
    exact ⟨rfl, HB4.out⟩
set_option maxRecDepth 100000 in
set_option maxHeartbeats 4000000 in
theorem Kirk_none_no (v n6 : Nat) (hv : 1 ≤ v ∧ v ≤ 33) (h6 : v % 6 = n6) (hn : n6 ≠ 1 ∧ n6 ≠ 3) (q f : Int) (hf : f ≠ 0) (n : Nat) (u : Value) (w : World) (hu : ∃ a c, u = .slice a n c)
    (C2 : ∀ W, Below w.heap.size w W → Calls Try.prog 13 #[.agg #[.int .i64 q, u]] W fun e w' => e = .returned (.int .i64 f) ∧ Below W.heap.size W w') :
    Calls Try.prog 7 #[.int .i64 (v : Int), .agg #[.int .i64 q, u]] w fun e w' => e = .returned (.bool true) ∧ Below w.heap.size w w' := by
  have HM : Hid (∀ W, Calls Try.prog 9 #[.int .i64 (v : Int)] W fun e w' => e = .returned (.tuple #[.agg #[.int .i64 0, .slice none 0 0], .int .i64 4]) ∧ Below W.heap.size W w') := fun W => Make_none v W hv.1 hv.2 (by omega) (by omega)
  have HC : Hid (∀ W, Below (w.alloc (.cells #[.int .i64 q, u] 24)).heap.size (w.alloc (.cells #[.int .i64 q, u] 24)) W → W.cell? ⟨w.heap.size, 0, none⟩ = some (.int .i64 q) ∧ W.cell? ⟨w.heap.size, 1, none⟩ = some u) := des_box q u w
  have HB0 : Hid (Below w.heap.size w (w.alloc (.cells #[.int .i64 q, u] 24))) := balloc _ _
  have HZ0 : Hid ((w.alloc (.cells #[.int .i64 q, u] 24)).heap.size = w.heap.size + 1) := by show _ = _; simp
  obtain ⟨w0, Hw0⟩ : ∃ w0, Hid (w0 = w.alloc (.cells #[.int .i64 q, u] 24)) := ⟨_, rfl⟩
  rw [← Hw0.out] at HC HB0 HZ0
  have HF : Hid (∀ W, Calls Try.prog 23 #[] W fun e w' => e = .returned (.bool true) ∧ Below W.heap.size W w') := Fact_any
  have HDB : Hid (∀ (p : Int) (y : Value) (W0 W : World), Below (W0.alloc (.cells #[.int .i64 p, y] 24)).heap.size (W0.alloc (.cells #[.int .i64 p, y] 24)) W → W.cell? ⟨W0.heap.size, 0, none⟩ = some (.int .i64 p) ∧ W.cell? ⟨W0.heap.size, 1, none⟩ = some y) := fun p y W0 W h => des_box p y W0 W h
  obtain ⟨ua, uc, rfl⟩ := hu
  have HC2 : Hid (∀ W, Below w.heap.size w W → Calls Try.prog 13 #[.agg #[.int .i64 q, .slice ua n uc]] W fun e w' => e = .returned (.int .i64 f) ∧ Below W.heap.size W w') := C2
  clear C2
  obtain ⟨hv1, hv2⟩ := hv
  have d1 : decide ((v : Int) ≥ 1) = true := by simp; omega
  have d1' : decide (1 ≤ (v : Int)) = true := by simp; omega
  have d2 : 1 ≤ (v : Int) := by omega
  have d3 : decide ((v : Int) ≤ 33) = true := by simp; omega
  have d4 : (v : Int) ≤ 33 := by omega
  have hm : (v : Int).tmod 6 = (n6 : Int) := by rw [Int.tmod_eq_emod_of_nonneg (by omega)]; omega
  have hn6 : n6 < 6 := by omega
  have e1 : ((n6 : Int) == 1) = false := by simp; omega
  have e2 : ((n6 : Int) == 3) = false := by simp; omega
  have e3 : ¬ (n6 : Int) = 1 := by omega
  have e4 : ¬ (n6 : Int) = 3 := by omega
  clear h6 hn
  have g1 : (f != 0) = true := by simp; omega
  have g2 : ¬ f = 0 := hf
  go_enter Try.func7, Try.ntmps7
  go_wp2_with (first
    | (go_at_call 23; rw [← Hw0.out]; refine (HF.out _).mono ?_; rintro e w1 ⟨rfl, hb⟩; clear HF; have HB1 : Hid (Below w.heap.size w w1) := Below.next HB0.out hb; have HK1 : Hid (Below w0.heap.size w0 w1) := hb; clear hb)
    | (go_at_call 9; refine (HM.out _).mono ?_; rintro e w2 ⟨rfl, hb⟩; clear HM; have bb := balloc w2 (.cells #[.int .i64 0, .slice none 0 0] 24); have HB2 : Hid (Below w.heap.size w (w2.alloc (.cells #[.int .i64 0, .slice none 0 0] 24))) := Below.next HB1.out (Below.next hb bb); have HK2 : Hid (Below w0.heap.size w0 (w2.alloc (.cells #[.int .i64 0, .slice none 0 0] 24))) := Below.next HK1.out (Below.next hb bb); obtain ⟨y0, y1⟩ := HC.out _ HK2.out; clear hb bb)
    | (go_at_call 13; refine (HC2.out _ HB2.out).mono ?_; rintro e w4 ⟨rfl, hb⟩; clear HC2; have HB4 : Hid (Below w.heap.size w w4) := Below.next HB2.out hb; obtain ⟨z0, z1⟩ := HC.out _ (Below.next HK2.out hb); clear hb))
  go_ret
  exact ⟨rfl, HB4.out⟩

end Go.Proofs.Ytdeofjmgjhfkcaa

/- The walk of Passes. -/
namespace Go.Proofs.Ytdeofjmgjhfkcaa
open Go.RowKit

set_option maxRecDepth 100000 in
set_option maxHeartbeats 4000000 in
theorem Passes_bad (p f : Int) (hf : f ≠ 0) (n : Nat) (u : Value) (w : World) (hu : ∃ a c, u = .slice a n c)
    (C : Hid (∀ W, Below w.heap.size w W → Calls Try.prog 13 #[.agg #[.int .i64 p, u]] W fun e w' => e = .returned (.int .i64 f) ∧ Below W.heap.size W w')) :
    Calls Try.prog 18 #[.agg #[.int .i64 p, u]] w fun e w' => e = .returned (.tuple #[.int .i64 0, .int .i64 f]) ∧ Below w.heap.size w w' := by
  obtain ⟨x0, x1⟩ := des_box p u w _ (Below.refl _ _)
  have HB0 : Hid (Below w.heap.size w (w.alloc (.cells #[.int .i64 p, u] 24))) := balloc _ _
  obtain ⟨ua, uc, rfl⟩ := hu
  have g1 : (f != 0) = true := by simp; omega
  have g2 : ¬ f = 0 := hf
  go_enter Try.func18, Try.ntmps18
  go_wp2_with (go_at_call 13; refine (C.out _ HB0.out).mono ?_; rintro e w1 ⟨rfl, hb⟩; clear C; have HB1 : Hid (Below w.heap.size w w1) := Below.next HB0.out hb; clear hb)
  exact bodyPost_ret (v := .tuple #[.int .i64 0, .int .i64 f]) (by simp [results, Try.results18, go_sem]) rfl ⟨rfl, HB1.out⟩
theorem rows_nd {v : Nat} {B : List (List Nat)} (s : Sys v B) : ∀ b ∈ B, b.length = 3 ∧ (∀ x ∈ b, x < v) ∧ b.Nodup := fun b hb => ⟨s.sz b hb, fun x hx => (s.bl b hb).lt x hx, (s.bl b hb).1⟩
set_option maxRecDepth 100000 in
set_option maxHeartbeats 4000000 in
theorem Passes_good (v : Nat) (B : List (List Nat)) (u : Value) (w : World) (s : Sys v B) (G : GoodD v B) (hu : Rw w u (toZ B))
    (C : Hid (∀ W, Below w.heap.size w W → Calls Try.prog 13 #[.agg #[.int .i64 (v : Int), u]] W fun e w' => e = .returned (.int .i64 0) ∧ Below W.heap.size W w')) :
    Calls Try.prog 18 #[.agg #[.int .i64 (v : Int), u]] w fun e w' => e = .returned (.tuple #[.int .i64 ((mO (thB B) v v / 24 : Nat) : Int), .int .i64 0]) ∧ Below w.heap.size w w' := by
  have HC : Hid (∀ W, Below (w.alloc (.cells #[.int .i64 (v : Int), u] 24)).heap.size (w.alloc (.cells #[.int .i64 (v : Int), u] 24)) W → W.cell? ⟨w.heap.size, 0, none⟩ = some (.int .i64 (v : Int)) ∧ W.cell? ⟨w.heap.size, 1, none⟩ = some u) := des_box v u w
  have HB0 : Hid (Below w.heap.size w (w.alloc (.cells #[.int .i64 (v : Int), u] 24))) := balloc _ _
  obtain ⟨w0, Hw0⟩ : ∃ w0, Hid (w0 = w.alloc (.cells #[.int .i64 (v : Int), u] 24)) := ⟨_, rfl⟩
  rw [← Hw0.out] at HC HB0
  have HTH : Hid (∀ W, Below w.heap.size w W → Calls Try.prog 38 #[.agg #[.int .i64 (v : Int), u]] W fun e w' => ∃ g h, e = .returned (.slice (some ⟨g, 0, none⟩) v v) ∧ Tb w' g v v h (thB B) ∧ Below W.heap.size W w') := fun W b => thirds_any v B u W G.le G.few (rows_nd s) (hu.below b)
  have HPA : Hid (∀ (W : World) (g : Nat) (h : Nat → Nat), Tb W g v v h (thB B) → Calls Try.prog 37 #[.int .i64 (v : Int), .slice (some ⟨g, 0, none⟩) v v] W fun e w' => e = .returned (.int .i64 ((mO (thB B) v v / 24 : Nat) : Int)) ∧ Below W.heap.size W w') := fun W g h t => passes_any v g h (thB B) W G.le t fun x y hx hy hn => th_lt s (thB_th s) hx hy hn
  obtain ⟨ua, uc, eu, _⟩ := hu
  have el : (toZ B).length = B.length := by simp [toZ]
  rw [el] at eu
  subst eu
  obtain ⟨x0, x1⟩ := HC.out w0 (Below.refl _ _)
  rw [Hw0.out] at x0 x1
  generalize mO (thB B) v v / 24 = Z at *
  generalize B.length = n at *
  go_enter Try.func18, Try.ntmps18
  go_wp2_with (go_at_call 13; rw [← Hw0.out]; refine (C.out _ HB0.out).mono ?_; rintro e w1 ⟨rfl, hb⟩; clear C; have HB1 : Hid (Below w.heap.size w w1) := Below.next HB0.out hb; have HS : Hid (∀ W', Below w1.heap.size w1 W' → (W'.cell? ⟨w.heap.size, 0, none⟩ = some (.int .i64 (v : Int)) ∧ W'.cell? ⟨w.heap.size, 1, none⟩ = some (.slice ua n uc))) := fun W' h => HC.out _ (Below.next hb h); clear hb)
  refine wp_region_noPanic ?_
  refine wp_region_held_drew (S := fun w' => w'.cell? ⟨w.heap.size, 0, none⟩ = some (.int .i64 (v : Int)) ∧ w'.cell? ⟨w.heap.size, 1, none⟩ = some (.slice ua n uc)) (by kernel_rfl) (HS.out _ (Below.refl _ w1).drew) (fun hSx => ?_)
  refine wpAnyH_take (i := 0) (v := .pointer (some ⟨w.heap.size, 0, none⟩)) rfl (by kernel_rfl) (by kernel_rfl) (by kernel_rfl) (fun _ _ _ h => h) (Or.inl ⟨by rfl, fun w' hSw => by (try dsimp only at hSw); obtain ⟨hs0, hs1⟩ := hSw; go_simp⟩) hSx ?_
  try simp only [Act.put, List.setIfInBounds_toArray]
  refine wpAnyH_take (i := 1) (v := .int .i64 (v : Int)) rfl (by kernel_rfl) (by kernel_rfl) (by kernel_rfl) (fun _ _ _ h => h) (Or.inl ⟨by rfl, fun w' hSw => by (try dsimp only at hSw); obtain ⟨hs0, hs1⟩ := hSw; go_simp⟩) hSx ?_
  try simp only [Act.put]
  refine wpAnyH_take (i := 2) (v := .agg #[.int .i64 (v : Int), .slice ua n uc]) rfl (by kernel_rfl) (by kernel_rfl) (by kernel_rfl) (fun _ _ _ h => h) (Or.inl ⟨by rfl, fun w' hSw => by (try dsimp only at hSw); obtain ⟨hs0, hs1⟩ := hSw; go_simp⟩) hSx ?_
  try simp only [Act.put]
  refine wpAnyH_ready (rs := [3]) (by kernel_rfl) (by simp) ?_
  refine AllReadyH.cons rfl (fun J hJ => ?_) AllReadyH.nil
  go_simp
  refine (HTH.out w1.drew (Below.next HB1.out (Below.refl _ w1).drew)).mono ?_
  rintro e w2 ⟨g, h, rfl, hT, hb2⟩
  have hb12 : Below w1.heap.size w1 w2 := Below.next (Below.refl _ w1).drew hb2
  go_wp2_with fail
  refine hJ.out _ _ (HS.out _ hb12) (fun hSx => ?_)
  clear hJ J
  try simp only [Act.put, List.setIfInBounds_toArray, List.set_cons_zero, List.set_cons_succ]
  refine wpAnyH_ready (rs := [4]) (by kernel_rfl) (by simp) ?_
  refine AllReadyH.cons rfl (fun J hJ => ?_) AllReadyH.nil
  go_simp
  refine (HPA.out w2 g h hT).mono ?_
  rintro e w3 ⟨rfl, hb3⟩
  have hb13 : Below w1.heap.size w1 w3 := Below.next hb12 hb3
  go_wp2_with fail
  refine hJ.out _ _ (HS.out _ hb13) (fun hSx => ?_)
  clear hJ J
  try simp only [Act.put, List.setIfInBounds_toArray, List.set_cons_zero, List.set_cons_succ]
  refine wpAnyH_ready (rs := [5]) (by kernel_rfl) (by simp) ?_
  refine AllReadyH.cons rfl (fun J hJ => ?_) AllReadyH.nil
  go_simp
  refine hJ.out _ _ (HS.out _ hb13) (fun hSx => ?_)
  clear hJ J
  try simp only [Act.put, List.setIfInBounds_toArray, List.set_cons_zero, List.set_cons_succ]
  refine wpAnyH_ready (rs := [6]) (by kernel_rfl) (by simp) ?_
  refine AllReadyH.cons rfl (fun J hJ => ?_) AllReadyH.nil
  go_simp
  refine hJ.out _ _ (HS.out _ hb13) (fun hSx => ?_)
  clear hJ J
  try simp only [Act.put, List.setIfInBounds_toArray, List.set_cons_zero, List.set_cons_succ]
  refine wpAnyH_done (by kernel_rfl) ?_ _
  refine NoPanic.normal ?_
  go_wp2
  exact bodyPost_ret (v := .tuple #[.int .i64 (Z : Int), .int .i64 0]) (by simp [results, Try.results18, go_sem]) rfl ⟨rfl, Below.next HB1.out hb13⟩

end Go.Proofs.Ytdeofjmgjhfkcaa

/- The law TripleDoubled, whatever is handed in. -/
/- The law TripleDoubled. -/
namespace Go.Proofs.Ytdeofjmgjhfkcaa
open Go.RowKit

def cn3 (Z : List (List Nat)) (b : List Nat) (j : Nat) : Nat := (Z.take j).countP fun c => mt b c == 3
theorem cn3_succ {Z : List (List Nat)} {b c : List Nat} {j : Nat} (h : Z[j]? = some c) : cn3 Z b (j + 1) = cn3 Z b j + if mt b c = 3 then 1 else 0 := by
  unfold cn3
  rw [List.take_add_one, h, List.countP_append]
  simp [List.countP_cons]
theorem cn3_le (Z : List (List Nat)) (b : List Nat) (j : Nat) : cn3 Z b j ≤ j := by
  unfold cn3
  have := List.countP_le_length (p := fun c : List Nat => mt b c == 3) (l := Z.take j)
  rw [List.length_take] at this
  omega
set_option maxRecDepth 100000 in
set_option maxHeartbeats 16000000 in
theorem Doub_NN (f : Int) (hf : f ≠ 0) (g : Int) (hg : g ≠ 0) (p : Int) (q : Int) (n k : Nat) (u t : Value) (w : World) (hu : ∃ a c, u = .slice a n c) (ht : ∃ a c, t = .slice a k c)
    (HD : Hid (∀ W, Below w.heap.size w W → Calls Try.prog 14 #[.agg #[.int .i64 p, u]] W fun e w' => e = .returned (.tuple #[.agg #[.int .i64 0, .slice none 0 0], .int .i64 f]) ∧ Below W.heap.size W w'))
    (HP : Hid (∀ W, Below w.heap.size w W → Calls Try.prog 15 #[.agg #[.int .i64 p, u], .agg #[.int .i64 q, t]] W fun e w' => e = .returned (.tuple #[.agg #[.int .i64 0, .slice none 0 0], .int .i64 g]) ∧ Below W.heap.size W w'))
    : Calls Try.prog 8 #[.agg #[.int .i64 p, u], .agg #[.int .i64 q, t]] w fun e w' => e = .returned (.bool true) ∧ Below w.heap.size w w' := by
  have HC : Hid (∀ W, Below ((w.alloc (.cells #[.int .i64 p, u] 24)).alloc (.cells #[.int .i64 q, t] 24)).heap.size ((w.alloc (.cells #[.int .i64 p, u] 24)).alloc (.cells #[.int .i64 q, t] 24)) W → (W.cell? ⟨w.heap.size, 0, none⟩ = some (.int .i64 p) ∧ W.cell? ⟨w.heap.size, 1, none⟩ = some u) ∧ (W.cell? ⟨w.heap.size + 1, 0, none⟩ = some (.int .i64 q) ∧ W.cell? ⟨w.heap.size + 1, 1, none⟩ = some t)) := fun W h => by
    have e2 := des_box q t (w.alloc (.cells #[.int .i64 p, u] 24)) W h
    rw [World.size_alloc] at e2
    exact ⟨des_box p u w W (Below.next (balloc _ _) h), e2⟩
  have HB0 : Hid (Below w.heap.size w ((w.alloc (.cells #[.int .i64 p, u] 24)).alloc (.cells #[.int .i64 q, t] 24))) := Below.next (balloc _ _) (balloc _ _)
  obtain ⟨w0, Hw0⟩ : ∃ w0, Hid (w0 = (w.alloc (.cells #[.int .i64 p, u] 24)).alloc (.cells #[.int .i64 q, t] 24)) := ⟨_, rfl⟩
  rw [← Hw0.out] at HC HB0
  have HF : Hid (∀ W, Calls Try.prog 23 #[] W fun e w' => e = .returned (.bool true) ∧ Below W.heap.size W w') := Fact_any
  have HDB : Hid (∀ (p : Int) (y : Value) (W0 W : World), Below (W0.alloc (.cells #[.int .i64 p, y] 24)).heap.size (W0.alloc (.cells #[.int .i64 p, y] 24)) W → W.cell? ⟨W0.heap.size, 0, none⟩ = some (.int .i64 p) ∧ W.cell? ⟨W0.heap.size, 1, none⟩ = some y) := fun p y W0 W h => des_box p y W0 W h
  obtain ⟨ua, uc, rfl⟩ := hu
  obtain ⟨ta, tc, rfl⟩ := ht
  have f1 : (f == 0) = false := by simp; omega
  have f2 : ¬ f = 0 := hf
  have g1 : (g != 0) = true := by simp; omega
  have g2 : ¬ g = 0 := hg
  go_enter Try.func8, Try.ntmps8
  go_wp2_with (first
    | (go_at_call 23; rw [← Hw0.out]; refine (HF.out _).mono ?_; rintro e w1 ⟨rfl, hb⟩; clear HF; have HB1 : Hid (Below w.heap.size w w1) := Below.next HB0.out hb; have HK1 : Hid (Below w0.heap.size w0 w1) := hb; obtain ⟨⟨k0, k1⟩, k2, k3⟩ := HC.out _ hb; clear hb)
    | (go_at_call 14; refine (HD.out _ HB1.out).mono ?_; rintro e w2 ⟨rfl, hb⟩; clear HD; have bb := balloc w2 (.cells #[.int .i64 0, .slice none 0 0] 24); have HB2 : Hid (Below w.heap.size w (w2.alloc (.cells #[.int .i64 0, .slice none 0 0] 24))) := Below.next HB1.out (Below.next hb bb); have HK2 : Hid (Below w0.heap.size w0 (w2.alloc (.cells #[.int .i64 0, .slice none 0 0] 24))) := Below.next HK1.out (Below.next hb bb); obtain ⟨⟨l0, l1⟩, l2, l3⟩ := HC.out _ HK2.out; clear hb bb)
    | (go_at_call 15; refine (HP.out _ HB2.out).mono ?_; rintro e w5 ⟨rfl, hb⟩; clear HP; have bb := balloc w5 (.cells #[.int .i64 0, .slice none 0 0] 24); have HB5 : Hid (Below w.heap.size w (w5.alloc (.cells #[.int .i64 0, .slice none 0 0] 24))) := Below.next HB2.out (Below.next hb bb); clear hb bb))
  go_ret
  exact ⟨rfl, HB5.out⟩
set_option maxRecDepth 100000 in
set_option maxHeartbeats 16000000 in
theorem Doub_NG (f : Int) (hf : f ≠ 0) (v : Nat) (m vm : Nat) (hvm : v * m = vm) (h33 : vm ≤ 33) (n k : Nat) (u t : Value) (w : World) (hu : ∃ a c, u = .slice a n c) (ht : ∃ a c, t = .slice a k c)
    (HD : Hid (∀ W, Below w.heap.size w W → Calls Try.prog 14 #[.agg #[.int .i64 (v : Int), u]] W fun e w' => e = .returned (.tuple #[.agg #[.int .i64 0, .slice none 0 0], .int .i64 f]) ∧ Below W.heap.size W w'))
    (HP : Hid (∀ W, Below w.heap.size w W → Calls Try.prog 15 #[.agg #[.int .i64 (v : Int), u], .agg #[.int .i64 (m : Int), t]] W fun e w' => ∃ x Z, e = .returned (.tuple #[.agg #[.int .i64 (vm : Int), x], .int .i64 0]) ∧ (Sys vm Z ∧ GoodD vm Z) ∧ Rw w' x (toZ Z) ∧ Below W.heap.size W w'))
    : Calls Try.prog 8 #[.agg #[.int .i64 (v : Int), u], .agg #[.int .i64 (m : Int), t]] w fun e w' => e = .returned (.bool true) ∧ Below w.heap.size w w' := by
  have HC : Hid (∀ W, Below ((w.alloc (.cells #[.int .i64 (v : Int), u] 24)).alloc (.cells #[.int .i64 (m : Int), t] 24)).heap.size ((w.alloc (.cells #[.int .i64 (v : Int), u] 24)).alloc (.cells #[.int .i64 (m : Int), t] 24)) W → (W.cell? ⟨w.heap.size, 0, none⟩ = some (.int .i64 (v : Int)) ∧ W.cell? ⟨w.heap.size, 1, none⟩ = some u) ∧ (W.cell? ⟨w.heap.size + 1, 0, none⟩ = some (.int .i64 (m : Int)) ∧ W.cell? ⟨w.heap.size + 1, 1, none⟩ = some t)) := fun W h => by
    have e2 := des_box (m : Int) t (w.alloc (.cells #[.int .i64 (v : Int), u] 24)) W h
    rw [World.size_alloc] at e2
    exact ⟨des_box (v : Int) u w W (Below.next (balloc _ _) h), e2⟩
  have HB0 : Hid (Below w.heap.size w ((w.alloc (.cells #[.int .i64 (v : Int), u] 24)).alloc (.cells #[.int .i64 (m : Int), t] 24))) := Below.next (balloc _ _) (balloc _ _)
  obtain ⟨w0, Hw0⟩ : ∃ w0, Hid (w0 = (w.alloc (.cells #[.int .i64 (v : Int), u] 24)).alloc (.cells #[.int .i64 (m : Int), t] 24)) := ⟨_, rfl⟩
  rw [← Hw0.out] at HC HB0
  have HF : Hid (∀ W, Calls Try.prog 23 #[] W fun e w' => e = .returned (.bool true) ∧ Below W.heap.size W w') := Fact_any
  have HDB : Hid (∀ (p : Int) (y : Value) (W0 W : World), Below (W0.alloc (.cells #[.int .i64 p, y] 24)).heap.size (W0.alloc (.cells #[.int .i64 p, y] 24)) W → W.cell? ⟨W0.heap.size, 0, none⟩ = some (.int .i64 p) ∧ W.cell? ⟨W0.heap.size, 1, none⟩ = some y) := fun p y W0 W h => des_box p y W0 W h
  obtain ⟨ua, uc, rfl⟩ := hu
  obtain ⟨ta, tc, rfl⟩ := ht
  have f1 : (f == 0) = false := by simp; omega
  have f2 : ¬ f = 0 := hf
  have hmu : (v : Int) * (m : Int) = (vm : Int) := by rw [← hvm]; simp
  clear hvm
  go_enter Try.func8, Try.ntmps8
  go_wp2_with (first
    | (go_at_call 23; rw [← Hw0.out]; refine (HF.out _).mono ?_; rintro e w1 ⟨rfl, hb⟩; clear HF; have HB1 : Hid (Below w.heap.size w w1) := Below.next HB0.out hb; have HK1 : Hid (Below w0.heap.size w0 w1) := hb; obtain ⟨⟨k0, k1⟩, k2, k3⟩ := HC.out _ hb; clear hb)
    | (go_at_call 14; refine (HD.out _ HB1.out).mono ?_; rintro e w2 ⟨rfl, hb⟩; clear HD; have bb := balloc w2 (.cells #[.int .i64 0, .slice none 0 0] 24); have HB2 : Hid (Below w.heap.size w (w2.alloc (.cells #[.int .i64 0, .slice none 0 0] 24))) := Below.next HB1.out (Below.next hb bb); have HK2 : Hid (Below w0.heap.size w0 (w2.alloc (.cells #[.int .i64 0, .slice none 0 0] 24))) := Below.next HK1.out (Below.next hb bb); obtain ⟨⟨l0, l1⟩, l2, l3⟩ := HC.out _ HK2.out; clear hb bb)
    | (go_at_call 15; refine (HP.out _ HB2.out).mono ?_; rintro e w5 ⟨y, Y, rfl, ⟨sY, gY⟩, hR, hb⟩; clear HP; obtain ⟨ya, yc, rfl⟩ := rw_form hR; have bb := balloc w5 (.cells #[.int .i64 (vm : Int), .slice ya Y.length yc] 24); have HB5 : Hid (Below w.heap.size w (w5.alloc (.cells #[.int .i64 (vm : Int), .slice ya Y.length yc] 24))) := Below.next HB2.out (Below.next hb bb); have HK5 : Hid (Below w0.heap.size w0 (w5.alloc (.cells #[.int .i64 (vm : Int), .slice ya Y.length yc] 24))) := Below.next HK2.out (Below.next hb bb); have HTC : Hid (Calls Try.prog 13 #[.agg #[.int .i64 (vm : Int), .slice ya Y.length yc]] (w5.alloc (.cells #[.int .i64 (vm : Int), .slice ya Y.length yc] 24)) fun e w' => e = .returned (.int .i64 0) ∧ Below (w5.alloc (.cells #[.int .i64 (vm : Int), .slice ya Y.length yc] 24)).heap.size (w5.alloc (.cells #[.int .i64 (vm : Int), .slice ya Y.length yc] 24)) w') := TCheck_sys vm Y _ _ sY gY (hR.below bb); have HM5 : Hid (∀ W, Below (w5.alloc (.cells #[.int .i64 (vm : Int), .slice ya Y.length yc] 24)).heap.size (w5.alloc (.cells #[.int .i64 (vm : Int), .slice ya Y.length yc] 24)) W → W.cell? ⟨w5.heap.size, 0, none⟩ = some (.int .i64 (vm : Int)) ∧ W.cell? ⟨w5.heap.size, 1, none⟩ = some (.slice ya Y.length yc)) := fun W h => HDB.out _ _ _ W h; generalize Y.length = yl at *; clear hb bb hR sY gY)
    | (go_at_call 13; refine HTC.out.mono ?_; rintro e w6 ⟨rfl, hb⟩; clear HTC; have HB6 : Hid (Below w.heap.size w w6) := Below.next HB5.out hb; obtain ⟨⟨q0, q1⟩, q2, q3⟩ := HC.out _ (Below.next HK5.out hb); obtain ⟨r0, r1⟩ := HM5.out _ hb; clear hb))
  go_ret
  exact ⟨rfl, HB6.out⟩
set_option maxRecDepth 100000 in
set_option maxHeartbeats 16000000 in
theorem Doub_GN (g : Int) (hg : g ≠ 0) (v : Nat) (q : Int) (hv16 : v ≤ 16) (B : List (List Nat)) (G : GoodD v B) (k : Nat) (u t : Value) (w : World) (ht : ∃ a c, t = .slice a k c)
    (hRu : Rw w u (toZ B)) (HD : Hid (∀ W, Below w.heap.size w W → Calls Try.prog 14 #[.agg #[.int .i64 (v : Int), u]] W fun e w' => ∃ x Z, e = .returned (.tuple #[.agg #[.int .i64 (2 * (v : Int) + 1), x], .int .i64 0]) ∧ (Sys (2 * v + 1) Z ∧ GoodD (2 * v + 1) Z ∧ ∀ b ∈ B, b ∈ Z) ∧ Rw w' x (toZ Z) ∧ Below W.heap.size W w'))
    (HP : Hid (∀ W, Below w.heap.size w W → Calls Try.prog 15 #[.agg #[.int .i64 (v : Int), u], .agg #[.int .i64 q, t]] W fun e w' => e = .returned (.tuple #[.agg #[.int .i64 0, .slice none 0 0], .int .i64 g]) ∧ Below W.heap.size W w'))
    : Calls Try.prog 8 #[.agg #[.int .i64 (v : Int), u], .agg #[.int .i64 q, t]] w fun e w' => e = .returned (.bool true) ∧ Below w.heap.size w w' := by
  have HC : Hid (∀ W, Below ((w.alloc (.cells #[.int .i64 (v : Int), u] 24)).alloc (.cells #[.int .i64 q, t] 24)).heap.size ((w.alloc (.cells #[.int .i64 (v : Int), u] 24)).alloc (.cells #[.int .i64 q, t] 24)) W → (W.cell? ⟨w.heap.size, 0, none⟩ = some (.int .i64 (v : Int)) ∧ W.cell? ⟨w.heap.size, 1, none⟩ = some u) ∧ (W.cell? ⟨w.heap.size + 1, 0, none⟩ = some (.int .i64 q) ∧ W.cell? ⟨w.heap.size + 1, 1, none⟩ = some t)) := fun W h => by
    have e2 := des_box q t (w.alloc (.cells #[.int .i64 (v : Int), u] 24)) W h
    rw [World.size_alloc] at e2
    exact ⟨des_box (v : Int) u w W (Below.next (balloc _ _) h), e2⟩
  have HB0 : Hid (Below w.heap.size w ((w.alloc (.cells #[.int .i64 (v : Int), u] 24)).alloc (.cells #[.int .i64 q, t] 24))) := Below.next (balloc _ _) (balloc _ _)
  obtain ⟨w0, Hw0⟩ : ∃ w0, Hid (w0 = (w.alloc (.cells #[.int .i64 (v : Int), u] 24)).alloc (.cells #[.int .i64 q, t] 24)) := ⟨_, rfl⟩
  rw [← Hw0.out] at HC HB0
  have HF : Hid (∀ W, Calls Try.prog 23 #[] W fun e w' => e = .returned (.bool true) ∧ Below W.heap.size W w') := Fact_any
  have HDB : Hid (∀ (p : Int) (y : Value) (W0 W : World), Below (W0.alloc (.cells #[.int .i64 p, y] 24)).heap.size (W0.alloc (.cells #[.int .i64 p, y] 24)) W → W.cell? ⟨W0.heap.size, 0, none⟩ = some (.int .i64 p) ∧ W.cell? ⟨W0.heap.size, 1, none⟩ = some y) := fun p y W0 W h => des_box p y W0 W h
  obtain ⟨ua, uc, rfl, hDA⟩ := drow_of hRu
  have HDA : Hid (DRow w ua B) := hDA
  have hB200 := G.few
  have HAT : Hid (∀ i, i < B.length → ∃ b, B[i]? = some b ∧ b ∈ B ∧ b.length ≤ 40) := fun i hi => ⟨_, List.getElem?_eq_getElem hi, List.getElem_mem hi, G.len (List.getElem_mem hi)⟩
  generalize hBn : B.length = n at *
  clear hRu hDA G
  obtain ⟨ta, tc, rfl⟩ := ht
  have g1 : (g != 0) = true := by simp; omega
  have g2 : ¬ g = 0 := hg
  have hw1 : IntKind.i64.wrap (2 * (v : Int)) = 2 * (v : Int) := by simp [IntKind.wrap, IntKind.bits, IntKind.signed]; omega
  have hw2 : IntKind.i64.wrap (2 * (v : Int) + 1) = 2 * (v : Int) + 1 := by simp [IntKind.wrap, IntKind.bits, IntKind.signed]; omega
  go_enter Try.func8, Try.ntmps8
  go_wp2_with (first
    | (go_at_call 23; rw [← Hw0.out]; refine (HF.out _).mono ?_; rintro e w1 ⟨rfl, hb⟩; clear HF; have HB1 : Hid (Below w.heap.size w w1) := Below.next HB0.out hb; have HK1 : Hid (Below w0.heap.size w0 w1) := hb; obtain ⟨⟨k0, k1⟩, k2, k3⟩ := HC.out _ hb; clear hb)
    | (go_at_call 14; refine (HD.out _ HB1.out).mono ?_; rintro e w2 ⟨x, Z, rfl, ⟨sZ, gZ, inZ⟩, hR, hb⟩; clear HD; obtain ⟨xa, xc, rfl⟩ := rw_form hR; have bb := balloc w2 (.cells #[.int .i64 (2 * (v : Int) + 1), .slice xa Z.length xc] 24); have HB2 : Hid (Below w.heap.size w (w2.alloc (.cells #[.int .i64 (2 * (v : Int) + 1), .slice xa Z.length xc] 24))) := Below.next HB1.out (Below.next hb bb); have HK2 : Hid (Below w0.heap.size w0 (w2.alloc (.cells #[.int .i64 (2 * (v : Int) + 1), .slice xa Z.length xc] 24))) := Below.next HK1.out (Below.next hb bb); have HR2 : Hid (Rw (w2.alloc (.cells #[.int .i64 (2 * (v : Int) + 1), .slice xa Z.length xc] 24)) (.slice xa Z.length xc) (toZ Z)) := hR.below bb; have HT2 : Hid (Calls Try.prog 13 #[.agg #[.int .i64 (2 * (v : Int) + 1), .slice xa Z.length xc]] (w2.alloc (.cells #[.int .i64 (2 * (v : Int) + 1), .slice xa Z.length xc] 24)) fun e w' => e = .returned (.int .i64 0) ∧ Below (w2.alloc (.cells #[.int .i64 (2 * (v : Int) + 1), .slice xa Z.length xc] 24)).heap.size (w2.alloc (.cells #[.int .i64 (2 * (v : Int) + 1), .slice xa Z.length xc] 24)) w') := TCheck_sys (2 * v + 1) Z _ _ sZ gZ HR2.out; have HM2 : Hid (∀ W, Below (w2.alloc (.cells #[.int .i64 (2 * (v : Int) + 1), .slice xa Z.length xc] 24)).heap.size (w2.alloc (.cells #[.int .i64 (2 * (v : Int) + 1), .slice xa Z.length xc] 24)) W → W.cell? ⟨w2.heap.size, 0, none⟩ = some (.int .i64 (2 * (v : Int) + 1)) ∧ W.cell? ⟨w2.heap.size, 1, none⟩ = some (.slice xa Z.length xc)) := fun W h => HDB.out _ _ _ W h; have HZ : Hid (Sys (2 * v + 1) Z ∧ GoodD (2 * v + 1) Z ∧ ∀ b ∈ B, b ∈ Z) := ⟨sZ, gZ, inZ⟩; clear hb bb hR sZ gZ inZ)
    | (go_at_call 13; refine HT2.out.mono ?_; rintro e w3 ⟨rfl, hb⟩; clear HT2; have HB3 : Hid (Below w.heap.size w w3) := Below.next HB2.out hb; have HK3 : Hid (Below w0.heap.size w0 w3) := Below.next HK2.out hb; obtain ⟨⟨l0, l1⟩, l2, l3⟩ := HC.out _ HK3.out; obtain ⟨r0, r1⟩ := HM2.out _ hb; have HM3 : Hid (∀ W, Below w3.heap.size w3 W → (W.cell? ⟨w.heap.size, 0, none⟩ = some (.int .i64 (v : Int)) ∧ W.cell? ⟨w.heap.size, 1, none⟩ = some (.slice ua n uc)) ∧ W.cell? ⟨w2.heap.size, 1, none⟩ = some (.slice xa Z.length xc)) := fun W h => ⟨(HC.out _ (Below.next HK3.out h)).1, (HM2.out _ (Below.next hb h)).2⟩; have HR3 : Hid (Rw w3 (.slice xa Z.length xc) (toZ Z)) := HR2.out.below hb; clear hb HR2 HM2))
  obtain ⟨_, _, exz, hDZ⟩ := drow_of HR3.out
  cases exz
  have HDZ : Hid (DRow w3 xa Z) := hDZ
  obtain ⟨sZ, gZ, inZ⟩ := HZ.out
  have hZ200 := gZ.few
  have HZT : Hid (∀ i, i < Z.length → ∃ b, Z[i]? = some b ∧ b.length ≤ 40) := fun i hi => ⟨_, List.getElem?_eq_getElem hi, gZ.len (List.getElem_mem hi)⟩
  have HONE : Hid (∀ b, b ∈ B → cn3 Z b Z.length = 1) := fun b hb => by unfold cn3; rw [List.take_length]; exact old_once sZ (inZ b hb)
  have HCS : Hid (∀ (b c : List Nat) (j : Nat), Z[j]? = some c → cn3 Z b (j + 1) = cn3 Z b j + if mt b c = 3 then 1 else 0) := fun b c j h => cn3_succ h
  have HCL : Hid (∀ b j, cn3 Z b j ≤ j) := cn3_le Z
  have HW3 : Hid (Below w3.heap.size w3 w3) := Below.refl _ _
  generalize hZn : Z.length = zn at *
  clear sZ gZ inZ hDZ HZ HR3 k0 k1 k2 k3
  go_loopw [9] (fun iv wr => ∃ (i : Nat), iv = .int .i64 (i : Int) ∧ i ≤ n ∧ Below w3.heap.size w3 wr) (fun iv _ => (n - intOf iv).toNat)
  case atStart => exact ⟨0, rfl, by omega, HW3.out⟩
  case round =>
    clear l0 l1 l2 l3 r0 r1
    obtain ⟨i, rfl, hi, hB⟩ := hrel
    obtain ⟨⟨y0, y1⟩, y2⟩ := HM3.out _ hB
    by_cases hlt : i < n
    · have hdi : decide ((i : Int) < (n : Int)) = true := by simp; omega
      have hii : (i : Int) < (n : Int) := by omega
      obtain ⟨b, hbi, hbm, hb40⟩ := HAT.out i hlt
      obtain ⟨ab, ao, ra, rc, rfl, hrow⟩ := HDA.out i b hbi
      have HRB : Hid (∀ W, Below w3.heap.size w3 W → W.cell? ⟨ab, ao + i, none⟩ = some (.slice ra b.length rc) ∧ Sl W (.slice ra b.length rc) (b.map Int.ofNat)) := fun W h => hrow W (HB3.out.trans (h.mono HB3.out.size))
      have hone := HONE.out b hbm
      have HC0 : Hid (cn3 Z b 0 = 0) := rfl
      have HB9 : Hid (Below w3.heap.size w3 wr) := hB
      clear hrow hbi hbm hB
      go_wp2
      go_loopw [10, 11] (fun cv jv wr => ∃ (j c : Nat), jv = .int .i64 (j : Int) ∧ cv = .int .i64 (c : Int) ∧ j ≤ zn ∧ Hid (cn3 Z b j = c) ∧ Below w3.heap.size w3 wr) (fun _ jv _ => (zn - intOf jv).toNat)
      case atStart => exact ⟨0, 0, rfl, rfl, by omega, HC0, HB9.out⟩
      case round =>
        clear HC0 HB9 y0 y1 y2
        obtain ⟨j, c, rfl, rfl, hj, HJ, hB⟩ := hrel
        obtain ⟨⟨y0, y1⟩, y2⟩ := HM3.out _ hB
        have hcj : c ≤ j := by rw [← HJ.out]; exact HCL.out b j
        by_cases hlj : j < zn
        · have hdj : decide ((j : Int) < (zn : Int)) = true := by simp; omega
          have hji : (j : Int) < (zn : Int) := by omega
          obtain ⟨z, hzi, hz40⟩ := HZT.out j hlj
          obtain ⟨zb, zo, za, zc, rfl, hrz⟩ := HDZ.out j z hzi
          have hs := HCS.out b z j hzi
          rw [HJ.out] at hs
          obtain ⟨rb0, rb1⟩ := HRB.out wr hB
          obtain ⟨rz0, rz1⟩ := hrz wr hB
          have HCT : Hid (Calls Try.prog 25 #[.slice ra b.length rc, .slice za z.length zc] wr.drew fun e w' => e = .returned (.int .i64 ((mt b z : Nat) : Int)) ∧ w' = wr.drew) := Together_any b z _ _ wr.drew (rb1.below (Below.refl _ wr).drew) (rz1.below (Below.refl _ wr).drew) (by omega) (by omega)
          have HS : Hid (∀ W', Below wr.heap.size wr W' → (W'.cell? ⟨w.heap.size, 1, none⟩ = some (.slice (some ⟨ab, ao, none⟩) n uc) ∧ W'.cell? ⟨ab, ao + i, none⟩ = some (.slice ra b.length rc) ∧ W'.cell? ⟨w2.heap.size, 1, none⟩ = some (.slice (some ⟨zb, zo, none⟩) zn xc) ∧ W'.cell? ⟨zb, zo + j, none⟩ = some (.slice za z.length zc))) := fun W' h => ⟨(h.cell (World.block_lt_of_cell? _ _ y1)).trans y1, (h.cell (World.block_lt_of_cell? _ _ rb0)).trans rb0, (h.cell (World.block_lt_of_cell? _ _ y2)).trans y2, (h.cell (World.block_lt_of_cell? _ _ rz0)).trans rz0⟩
          have hmt : mt b z ≤ 40 := by
            have := List.countP_le_length (p := fun x => z.contains x) (l := b)
            unfold mt; omega
          generalize mt b z = mm at *
          generalize b.length = bl at *
          generalize z.length = zl at *
          clear hrz rb0 rb1 rz0 rz1 hzi HJ
          have hni : ¬ (n : Int) ≤ (i : Int) := by omega
          have hnj : ¬ (zn : Int) ≤ (j : Int) := by omega
          by_cases h3 : mm = 3
          · rw [if_pos h3] at hs
            have HS1 : Hid (cn3 Z b (j + 1) = c + 1) := hs
            have he : ((mm : Int) == 3) = true := by simp; omega
            have he2 : (mm : Int) = 3 := by omega
            clear hs
            go_wp2
            refine wp_region_noPanic ?_
            refine wp_region_held_drew (S := fun w' => w'.cell? ⟨w.heap.size, 1, none⟩ = some (.slice (some ⟨ab, ao, none⟩) n uc) ∧ w'.cell? ⟨ab, ao + i, none⟩ = some (.slice ra bl rc) ∧ w'.cell? ⟨w2.heap.size, 1, none⟩ = some (.slice (some ⟨zb, zo, none⟩) zn xc) ∧ w'.cell? ⟨zb, zo + j, none⟩ = some (.slice za zl zc)) (by kernel_rfl) (HS.out _ (Below.refl _ wr).drew) (fun hSx => ?_)
            refine wpAnyH_take (i := 0) (v := .pointer (some ⟨w.heap.size, 1, none⟩)) rfl (by kernel_rfl) (by kernel_rfl) (by kernel_rfl) (fun _ _ _ h => h) (Or.inl ⟨by rfl, fun w' hSw => by (try dsimp only at hSw); obtain ⟨hs0, hs1, hs2, hs3⟩ := hSw; go_simp⟩) hSx ?_
            try simp only [Act.put, List.setIfInBounds_toArray]
            refine wpAnyH_take (i := 1) (v := .slice (some ⟨ab, ao, none⟩) n uc) rfl (by kernel_rfl) (by kernel_rfl) (by kernel_rfl) (fun _ _ _ h => h) (Or.inl ⟨by rfl, fun w' hSw => by (try dsimp only at hSw); obtain ⟨hs0, hs1, hs2, hs3⟩ := hSw; go_simp⟩) hSx ?_
            try simp only [Act.put]
            refine wpAnyH_take (i := 2) (v := .int .i64 (i : Int)) rfl (by kernel_rfl) (by kernel_rfl) (by kernel_rfl) (fun _ _ _ h => h) (Or.inl ⟨by rfl, fun w' hSw => by (try dsimp only at hSw); obtain ⟨hs0, hs1, hs2, hs3⟩ := hSw; go_simp⟩) hSx ?_
            try simp only [Act.put]
            refine wpAnyH_take (i := 3) (v := .pointer (some ⟨ab, ao + i, none⟩)) rfl (by kernel_rfl) (by kernel_rfl) (by kernel_rfl) (fun _ _ _ h => h) (Or.inl ⟨by rfl, fun w' hSw => by (try dsimp only at hSw); obtain ⟨hs0, hs1, hs2, hs3⟩ := hSw; go_simp⟩) hSx ?_
            try simp only [Act.put]
            refine wpAnyH_take (i := 4) (v := .slice ra bl rc) rfl (by kernel_rfl) (by kernel_rfl) (by kernel_rfl) (fun _ _ _ h => h) (Or.inl ⟨by rfl, fun w' hSw => by (try dsimp only at hSw); obtain ⟨hs0, hs1, hs2, hs3⟩ := hSw; go_simp⟩) hSx ?_
            try simp only [Act.put]
            refine wpAnyH_take (i := 5) (v := .pointer (some ⟨w2.heap.size, 1, none⟩)) rfl (by kernel_rfl) (by kernel_rfl) (by kernel_rfl) (fun _ _ _ h => h) (Or.inl ⟨by rfl, fun w' hSw => by (try dsimp only at hSw); obtain ⟨hs0, hs1, hs2, hs3⟩ := hSw; go_simp⟩) hSx ?_
            try simp only [Act.put]
            refine wpAnyH_take (i := 6) (v := .slice (some ⟨zb, zo, none⟩) zn xc) rfl (by kernel_rfl) (by kernel_rfl) (by kernel_rfl) (fun _ _ _ h => h) (Or.inl ⟨by rfl, fun w' hSw => by (try dsimp only at hSw); obtain ⟨hs0, hs1, hs2, hs3⟩ := hSw; go_simp⟩) hSx ?_
            try simp only [Act.put]
            refine wpAnyH_take (i := 7) (v := .int .i64 (j : Int)) rfl (by kernel_rfl) (by kernel_rfl) (by kernel_rfl) (fun _ _ _ h => h) (Or.inl ⟨by rfl, fun w' hSw => by (try dsimp only at hSw); obtain ⟨hs0, hs1, hs2, hs3⟩ := hSw; go_simp⟩) hSx ?_
            try simp only [Act.put]
            refine wpAnyH_take (i := 8) (v := .pointer (some ⟨zb, zo + j, none⟩)) rfl (by kernel_rfl) (by kernel_rfl) (by kernel_rfl) (fun _ _ _ h => h) (Or.inl ⟨by rfl, fun w' hSw => by (try dsimp only at hSw); obtain ⟨hs0, hs1, hs2, hs3⟩ := hSw; go_simp⟩) hSx ?_
            try simp only [Act.put]
            refine wpAnyH_take (i := 9) (v := .slice za zl zc) rfl (by kernel_rfl) (by kernel_rfl) (by kernel_rfl) (fun _ _ _ h => h) (Or.inl ⟨by rfl, fun w' hSw => by (try dsimp only at hSw); obtain ⟨hs0, hs1, hs2, hs3⟩ := hSw; go_simp⟩) hSx ?_
            try simp only [Act.put]
            refine wpAnyH_ready (rs := [10]) (by kernel_rfl) (by simp) ?_
            refine AllReadyH.cons rfl (fun J hJ => ?_) AllReadyH.nil
            go_simp
            refine (HCT.out).mono ?_
            rintro e v1 ⟨rfl, hw⟩
            replace hw := hw.symm
            subst hw
            go_wp2_with fail
            refine hJ.out _ _ (HS.out _ (Below.refl _ wr).drew) (fun hSx => ?_)
            clear hJ J
            try simp only [Act.put, List.setIfInBounds_toArray, List.set_cons_zero, List.set_cons_succ]
            refine wpAnyH_take (i := 11) (v := .int .i64 (mm : Int)) rfl (by kernel_rfl) (by kernel_rfl) (by kernel_rfl) (fun _ _ _ h => h) (Or.inl ⟨by rfl, fun w' hSw => by (try dsimp only at hSw); obtain ⟨hs0, hs1, hs2, hs3⟩ := hSw; go_simp⟩) hSx ?_
            try simp only [Act.put, List.setIfInBounds_toArray]
            refine wpAnyH_done (by kernel_rfl) ?_ _
            refine NoPanic.normal ?_
            have hB2 : Below w3.heap.size w3 wr.drew := hB.trans ((Below.refl _ wr).drew)
            clear HS HCT hSx hB
            go_wp2
            go_roundw
            case rel => exact ⟨j + 1, c + 1, by go_num, by go_num, by omega, HS1, hB2⟩
            case measure => simp [intOf]; omega
          · rw [if_neg h3] at hs
            have HS1 : Hid (cn3 Z b (j + 1) = c) := hs
            have he : ((mm : Int) == 3) = false := by simp; omega
            have he2 : ¬ (mm : Int) = 3 := by omega
            clear hs
            go_wp2
            refine wp_region_noPanic ?_
            refine wp_region_held_drew (S := fun w' => w'.cell? ⟨w.heap.size, 1, none⟩ = some (.slice (some ⟨ab, ao, none⟩) n uc) ∧ w'.cell? ⟨ab, ao + i, none⟩ = some (.slice ra bl rc) ∧ w'.cell? ⟨w2.heap.size, 1, none⟩ = some (.slice (some ⟨zb, zo, none⟩) zn xc) ∧ w'.cell? ⟨zb, zo + j, none⟩ = some (.slice za zl zc)) (by kernel_rfl) (HS.out _ (Below.refl _ wr).drew) (fun hSx => ?_)
            refine wpAnyH_take (i := 0) (v := .pointer (some ⟨w.heap.size, 1, none⟩)) rfl (by kernel_rfl) (by kernel_rfl) (by kernel_rfl) (fun _ _ _ h => h) (Or.inl ⟨by rfl, fun w' hSw => by (try dsimp only at hSw); obtain ⟨hs0, hs1, hs2, hs3⟩ := hSw; go_simp⟩) hSx ?_
            try simp only [Act.put, List.setIfInBounds_toArray]
            refine wpAnyH_take (i := 1) (v := .slice (some ⟨ab, ao, none⟩) n uc) rfl (by kernel_rfl) (by kernel_rfl) (by kernel_rfl) (fun _ _ _ h => h) (Or.inl ⟨by rfl, fun w' hSw => by (try dsimp only at hSw); obtain ⟨hs0, hs1, hs2, hs3⟩ := hSw; go_simp⟩) hSx ?_
            try simp only [Act.put]
            refine wpAnyH_take (i := 2) (v := .int .i64 (i : Int)) rfl (by kernel_rfl) (by kernel_rfl) (by kernel_rfl) (fun _ _ _ h => h) (Or.inl ⟨by rfl, fun w' hSw => by (try dsimp only at hSw); obtain ⟨hs0, hs1, hs2, hs3⟩ := hSw; go_simp⟩) hSx ?_
            try simp only [Act.put]
            refine wpAnyH_take (i := 3) (v := .pointer (some ⟨ab, ao + i, none⟩)) rfl (by kernel_rfl) (by kernel_rfl) (by kernel_rfl) (fun _ _ _ h => h) (Or.inl ⟨by rfl, fun w' hSw => by (try dsimp only at hSw); obtain ⟨hs0, hs1, hs2, hs3⟩ := hSw; go_simp⟩) hSx ?_
            try simp only [Act.put]
            refine wpAnyH_take (i := 4) (v := .slice ra bl rc) rfl (by kernel_rfl) (by kernel_rfl) (by kernel_rfl) (fun _ _ _ h => h) (Or.inl ⟨by rfl, fun w' hSw => by (try dsimp only at hSw); obtain ⟨hs0, hs1, hs2, hs3⟩ := hSw; go_simp⟩) hSx ?_
            try simp only [Act.put]
            refine wpAnyH_take (i := 5) (v := .pointer (some ⟨w2.heap.size, 1, none⟩)) rfl (by kernel_rfl) (by kernel_rfl) (by kernel_rfl) (fun _ _ _ h => h) (Or.inl ⟨by rfl, fun w' hSw => by (try dsimp only at hSw); obtain ⟨hs0, hs1, hs2, hs3⟩ := hSw; go_simp⟩) hSx ?_
            try simp only [Act.put]
            refine wpAnyH_take (i := 6) (v := .slice (some ⟨zb, zo, none⟩) zn xc) rfl (by kernel_rfl) (by kernel_rfl) (by kernel_rfl) (fun _ _ _ h => h) (Or.inl ⟨by rfl, fun w' hSw => by (try dsimp only at hSw); obtain ⟨hs0, hs1, hs2, hs3⟩ := hSw; go_simp⟩) hSx ?_
            try simp only [Act.put]
            refine wpAnyH_take (i := 7) (v := .int .i64 (j : Int)) rfl (by kernel_rfl) (by kernel_rfl) (by kernel_rfl) (fun _ _ _ h => h) (Or.inl ⟨by rfl, fun w' hSw => by (try dsimp only at hSw); obtain ⟨hs0, hs1, hs2, hs3⟩ := hSw; go_simp⟩) hSx ?_
            try simp only [Act.put]
            refine wpAnyH_take (i := 8) (v := .pointer (some ⟨zb, zo + j, none⟩)) rfl (by kernel_rfl) (by kernel_rfl) (by kernel_rfl) (fun _ _ _ h => h) (Or.inl ⟨by rfl, fun w' hSw => by (try dsimp only at hSw); obtain ⟨hs0, hs1, hs2, hs3⟩ := hSw; go_simp⟩) hSx ?_
            try simp only [Act.put]
            refine wpAnyH_take (i := 9) (v := .slice za zl zc) rfl (by kernel_rfl) (by kernel_rfl) (by kernel_rfl) (fun _ _ _ h => h) (Or.inl ⟨by rfl, fun w' hSw => by (try dsimp only at hSw); obtain ⟨hs0, hs1, hs2, hs3⟩ := hSw; go_simp⟩) hSx ?_
            try simp only [Act.put]
            refine wpAnyH_ready (rs := [10]) (by kernel_rfl) (by simp) ?_
            refine AllReadyH.cons rfl (fun J hJ => ?_) AllReadyH.nil
            go_simp
            refine (HCT.out).mono ?_
            rintro e v1 ⟨rfl, hw⟩
            replace hw := hw.symm
            subst hw
            go_wp2_with fail
            refine hJ.out _ _ (HS.out _ (Below.refl _ wr).drew) (fun hSx => ?_)
            clear hJ J
            try simp only [Act.put, List.setIfInBounds_toArray, List.set_cons_zero, List.set_cons_succ]
            refine wpAnyH_take (i := 11) (v := .int .i64 (mm : Int)) rfl (by kernel_rfl) (by kernel_rfl) (by kernel_rfl) (fun _ _ _ h => h) (Or.inl ⟨by rfl, fun w' hSw => by (try dsimp only at hSw); obtain ⟨hs0, hs1, hs2, hs3⟩ := hSw; go_simp⟩) hSx ?_
            try simp only [Act.put, List.setIfInBounds_toArray]
            refine wpAnyH_done (by kernel_rfl) ?_ _
            refine NoPanic.normal ?_
            have hB2 : Below w3.heap.size w3 wr.drew := hB.trans ((Below.refl _ wr).drew)
            clear HS HCT hSx hB
            go_wp2
            go_roundw
            case rel => exact ⟨j + 1, c, by go_num, by go_num, by omega, HS1, hB2⟩
            case measure => simp [intOf]; omega
        · have hdj : decide ((j : Int) < (zn : Int)) = false := by simp; omega
          have hjn : zn = j := by omega
          subst hjn
          have hc1 : c = 1 := HJ.out.symm.trans hone
          subst hc1
          go_wp2
          go_roundw
          case rel => exact ⟨i + 1, by go_num, by omega, hB⟩
          case measure => simp [intOf]; omega
    · have hdi : decide ((i : Int) < (n : Int)) = false := by simp; omega
      have HB4 : Hid (Below w.heap.size w wr) := HB3.out.trans (hB.mono HB3.out.size)
      have HK4 : Hid (Below w0.heap.size w0 wr) := HK3.out.trans (hB.mono HK3.out.size)
      obtain ⟨⟨l0, l1⟩, l2, l3⟩ := HC.out _ HK4.out
      clear y0 y1 y2
      go_wp2_with (first
        | (go_at_call 15; refine (HP.out _ HB4.out).mono ?_; rintro e w5 ⟨rfl, hb⟩; clear HP; have bb := balloc w5 (.cells #[.int .i64 0, .slice none 0 0] 24); have HB5 : Hid (Below w.heap.size w (w5.alloc (.cells #[.int .i64 0, .slice none 0 0] 24))) := Below.next HB4.out (Below.next hb bb); clear hb bb))
      go_ret
      exact ⟨rfl, HB5.out⟩
set_option maxRecDepth 100000 in
set_option maxHeartbeats 16000000 in
theorem Doub_GG (v : Nat) (m vm : Nat) (hvm : v * m = vm) (h33 : vm ≤ 33) (hv16 : v ≤ 16) (B : List (List Nat)) (G : GoodD v B) (k : Nat) (u t : Value) (w : World) (ht : ∃ a c, t = .slice a k c)
    (hRu : Rw w u (toZ B)) (HD : Hid (∀ W, Below w.heap.size w W → Calls Try.prog 14 #[.agg #[.int .i64 (v : Int), u]] W fun e w' => ∃ x Z, e = .returned (.tuple #[.agg #[.int .i64 (2 * (v : Int) + 1), x], .int .i64 0]) ∧ (Sys (2 * v + 1) Z ∧ GoodD (2 * v + 1) Z ∧ ∀ b ∈ B, b ∈ Z) ∧ Rw w' x (toZ Z) ∧ Below W.heap.size W w'))
    (HP : Hid (∀ W, Below w.heap.size w W → Calls Try.prog 15 #[.agg #[.int .i64 (v : Int), u], .agg #[.int .i64 (m : Int), t]] W fun e w' => ∃ x Z, e = .returned (.tuple #[.agg #[.int .i64 (vm : Int), x], .int .i64 0]) ∧ (Sys vm Z ∧ GoodD vm Z) ∧ Rw w' x (toZ Z) ∧ Below W.heap.size W w'))
    : Calls Try.prog 8 #[.agg #[.int .i64 (v : Int), u], .agg #[.int .i64 (m : Int), t]] w fun e w' => e = .returned (.bool true) ∧ Below w.heap.size w w' := by
  have HC : Hid (∀ W, Below ((w.alloc (.cells #[.int .i64 (v : Int), u] 24)).alloc (.cells #[.int .i64 (m : Int), t] 24)).heap.size ((w.alloc (.cells #[.int .i64 (v : Int), u] 24)).alloc (.cells #[.int .i64 (m : Int), t] 24)) W → (W.cell? ⟨w.heap.size, 0, none⟩ = some (.int .i64 (v : Int)) ∧ W.cell? ⟨w.heap.size, 1, none⟩ = some u) ∧ (W.cell? ⟨w.heap.size + 1, 0, none⟩ = some (.int .i64 (m : Int)) ∧ W.cell? ⟨w.heap.size + 1, 1, none⟩ = some t)) := fun W h => by
    have e2 := des_box (m : Int) t (w.alloc (.cells #[.int .i64 (v : Int), u] 24)) W h
    rw [World.size_alloc] at e2
    exact ⟨des_box (v : Int) u w W (Below.next (balloc _ _) h), e2⟩
  have HB0 : Hid (Below w.heap.size w ((w.alloc (.cells #[.int .i64 (v : Int), u] 24)).alloc (.cells #[.int .i64 (m : Int), t] 24))) := Below.next (balloc _ _) (balloc _ _)
  obtain ⟨w0, Hw0⟩ : ∃ w0, Hid (w0 = (w.alloc (.cells #[.int .i64 (v : Int), u] 24)).alloc (.cells #[.int .i64 (m : Int), t] 24)) := ⟨_, rfl⟩
  rw [← Hw0.out] at HC HB0
  have HF : Hid (∀ W, Calls Try.prog 23 #[] W fun e w' => e = .returned (.bool true) ∧ Below W.heap.size W w') := Fact_any
  have HDB : Hid (∀ (p : Int) (y : Value) (W0 W : World), Below (W0.alloc (.cells #[.int .i64 p, y] 24)).heap.size (W0.alloc (.cells #[.int .i64 p, y] 24)) W → W.cell? ⟨W0.heap.size, 0, none⟩ = some (.int .i64 p) ∧ W.cell? ⟨W0.heap.size, 1, none⟩ = some y) := fun p y W0 W h => des_box p y W0 W h
  obtain ⟨ua, uc, rfl, hDA⟩ := drow_of hRu
  have HDA : Hid (DRow w ua B) := hDA
  have hB200 := G.few
  have HAT : Hid (∀ i, i < B.length → ∃ b, B[i]? = some b ∧ b ∈ B ∧ b.length ≤ 40) := fun i hi => ⟨_, List.getElem?_eq_getElem hi, List.getElem_mem hi, G.len (List.getElem_mem hi)⟩
  generalize hBn : B.length = n at *
  clear hRu hDA G
  obtain ⟨ta, tc, rfl⟩ := ht
  have hmu : (v : Int) * (m : Int) = (vm : Int) := by rw [← hvm]; simp
  clear hvm
  have hw1 : IntKind.i64.wrap (2 * (v : Int)) = 2 * (v : Int) := by simp [IntKind.wrap, IntKind.bits, IntKind.signed]; omega
  have hw2 : IntKind.i64.wrap (2 * (v : Int) + 1) = 2 * (v : Int) + 1 := by simp [IntKind.wrap, IntKind.bits, IntKind.signed]; omega
  go_enter Try.func8, Try.ntmps8
  go_wp2_with (first
    | (go_at_call 23; rw [← Hw0.out]; refine (HF.out _).mono ?_; rintro e w1 ⟨rfl, hb⟩; clear HF; have HB1 : Hid (Below w.heap.size w w1) := Below.next HB0.out hb; have HK1 : Hid (Below w0.heap.size w0 w1) := hb; obtain ⟨⟨k0, k1⟩, k2, k3⟩ := HC.out _ hb; clear hb)
    | (go_at_call 14; refine (HD.out _ HB1.out).mono ?_; rintro e w2 ⟨x, Z, rfl, ⟨sZ, gZ, inZ⟩, hR, hb⟩; clear HD; obtain ⟨xa, xc, rfl⟩ := rw_form hR; have bb := balloc w2 (.cells #[.int .i64 (2 * (v : Int) + 1), .slice xa Z.length xc] 24); have HB2 : Hid (Below w.heap.size w (w2.alloc (.cells #[.int .i64 (2 * (v : Int) + 1), .slice xa Z.length xc] 24))) := Below.next HB1.out (Below.next hb bb); have HK2 : Hid (Below w0.heap.size w0 (w2.alloc (.cells #[.int .i64 (2 * (v : Int) + 1), .slice xa Z.length xc] 24))) := Below.next HK1.out (Below.next hb bb); have HR2 : Hid (Rw (w2.alloc (.cells #[.int .i64 (2 * (v : Int) + 1), .slice xa Z.length xc] 24)) (.slice xa Z.length xc) (toZ Z)) := hR.below bb; have HT2 : Hid (Calls Try.prog 13 #[.agg #[.int .i64 (2 * (v : Int) + 1), .slice xa Z.length xc]] (w2.alloc (.cells #[.int .i64 (2 * (v : Int) + 1), .slice xa Z.length xc] 24)) fun e w' => e = .returned (.int .i64 0) ∧ Below (w2.alloc (.cells #[.int .i64 (2 * (v : Int) + 1), .slice xa Z.length xc] 24)).heap.size (w2.alloc (.cells #[.int .i64 (2 * (v : Int) + 1), .slice xa Z.length xc] 24)) w') := TCheck_sys (2 * v + 1) Z _ _ sZ gZ HR2.out; have HM2 : Hid (∀ W, Below (w2.alloc (.cells #[.int .i64 (2 * (v : Int) + 1), .slice xa Z.length xc] 24)).heap.size (w2.alloc (.cells #[.int .i64 (2 * (v : Int) + 1), .slice xa Z.length xc] 24)) W → W.cell? ⟨w2.heap.size, 0, none⟩ = some (.int .i64 (2 * (v : Int) + 1)) ∧ W.cell? ⟨w2.heap.size, 1, none⟩ = some (.slice xa Z.length xc)) := fun W h => HDB.out _ _ _ W h; have HZ : Hid (Sys (2 * v + 1) Z ∧ GoodD (2 * v + 1) Z ∧ ∀ b ∈ B, b ∈ Z) := ⟨sZ, gZ, inZ⟩; clear hb bb hR sZ gZ inZ)
    | (go_at_call 13; refine HT2.out.mono ?_; rintro e w3 ⟨rfl, hb⟩; clear HT2; have HB3 : Hid (Below w.heap.size w w3) := Below.next HB2.out hb; have HK3 : Hid (Below w0.heap.size w0 w3) := Below.next HK2.out hb; obtain ⟨⟨l0, l1⟩, l2, l3⟩ := HC.out _ HK3.out; obtain ⟨r0, r1⟩ := HM2.out _ hb; have HM3 : Hid (∀ W, Below w3.heap.size w3 W → (W.cell? ⟨w.heap.size, 0, none⟩ = some (.int .i64 (v : Int)) ∧ W.cell? ⟨w.heap.size, 1, none⟩ = some (.slice ua n uc)) ∧ W.cell? ⟨w2.heap.size, 1, none⟩ = some (.slice xa Z.length xc)) := fun W h => ⟨(HC.out _ (Below.next HK3.out h)).1, (HM2.out _ (Below.next hb h)).2⟩; have HR3 : Hid (Rw w3 (.slice xa Z.length xc) (toZ Z)) := HR2.out.below hb; clear hb HR2 HM2))
  obtain ⟨_, _, exz, hDZ⟩ := drow_of HR3.out
  cases exz
  have HDZ : Hid (DRow w3 xa Z) := hDZ
  obtain ⟨sZ, gZ, inZ⟩ := HZ.out
  have hZ200 := gZ.few
  have HZT : Hid (∀ i, i < Z.length → ∃ b, Z[i]? = some b ∧ b.length ≤ 40) := fun i hi => ⟨_, List.getElem?_eq_getElem hi, gZ.len (List.getElem_mem hi)⟩
  have HONE : Hid (∀ b, b ∈ B → cn3 Z b Z.length = 1) := fun b hb => by unfold cn3; rw [List.take_length]; exact old_once sZ (inZ b hb)
  have HCS : Hid (∀ (b c : List Nat) (j : Nat), Z[j]? = some c → cn3 Z b (j + 1) = cn3 Z b j + if mt b c = 3 then 1 else 0) := fun b c j h => cn3_succ h
  have HCL : Hid (∀ b j, cn3 Z b j ≤ j) := cn3_le Z
  have HW3 : Hid (Below w3.heap.size w3 w3) := Below.refl _ _
  generalize hZn : Z.length = zn at *
  clear sZ gZ inZ hDZ HZ HR3 k0 k1 k2 k3
  go_loopw [9] (fun iv wr => ∃ (i : Nat), iv = .int .i64 (i : Int) ∧ i ≤ n ∧ Below w3.heap.size w3 wr) (fun iv _ => (n - intOf iv).toNat)
  case atStart => exact ⟨0, rfl, by omega, HW3.out⟩
  case round =>
    clear l0 l1 l2 l3 r0 r1
    obtain ⟨i, rfl, hi, hB⟩ := hrel
    obtain ⟨⟨y0, y1⟩, y2⟩ := HM3.out _ hB
    by_cases hlt : i < n
    · have hdi : decide ((i : Int) < (n : Int)) = true := by simp; omega
      have hii : (i : Int) < (n : Int) := by omega
      obtain ⟨b, hbi, hbm, hb40⟩ := HAT.out i hlt
      obtain ⟨ab, ao, ra, rc, rfl, hrow⟩ := HDA.out i b hbi
      have HRB : Hid (∀ W, Below w3.heap.size w3 W → W.cell? ⟨ab, ao + i, none⟩ = some (.slice ra b.length rc) ∧ Sl W (.slice ra b.length rc) (b.map Int.ofNat)) := fun W h => hrow W (HB3.out.trans (h.mono HB3.out.size))
      have hone := HONE.out b hbm
      have HC0 : Hid (cn3 Z b 0 = 0) := rfl
      have HB9 : Hid (Below w3.heap.size w3 wr) := hB
      clear hrow hbi hbm hB
      go_wp2
      go_loopw [10, 11] (fun cv jv wr => ∃ (j c : Nat), jv = .int .i64 (j : Int) ∧ cv = .int .i64 (c : Int) ∧ j ≤ zn ∧ Hid (cn3 Z b j = c) ∧ Below w3.heap.size w3 wr) (fun _ jv _ => (zn - intOf jv).toNat)
      case atStart => exact ⟨0, 0, rfl, rfl, by omega, HC0, HB9.out⟩
      case round =>
        clear HC0 HB9 y0 y1 y2
        obtain ⟨j, c, rfl, rfl, hj, HJ, hB⟩ := hrel
        obtain ⟨⟨y0, y1⟩, y2⟩ := HM3.out _ hB
        have hcj : c ≤ j := by rw [← HJ.out]; exact HCL.out b j
        by_cases hlj : j < zn
        · have hdj : decide ((j : Int) < (zn : Int)) = true := by simp; omega
          have hji : (j : Int) < (zn : Int) := by omega
          obtain ⟨z, hzi, hz40⟩ := HZT.out j hlj
          obtain ⟨zb, zo, za, zc, rfl, hrz⟩ := HDZ.out j z hzi
          have hs := HCS.out b z j hzi
          rw [HJ.out] at hs
          obtain ⟨rb0, rb1⟩ := HRB.out wr hB
          obtain ⟨rz0, rz1⟩ := hrz wr hB
          have HCT : Hid (Calls Try.prog 25 #[.slice ra b.length rc, .slice za z.length zc] wr.drew fun e w' => e = .returned (.int .i64 ((mt b z : Nat) : Int)) ∧ w' = wr.drew) := Together_any b z _ _ wr.drew (rb1.below (Below.refl _ wr).drew) (rz1.below (Below.refl _ wr).drew) (by omega) (by omega)
          have HS : Hid (∀ W', Below wr.heap.size wr W' → (W'.cell? ⟨w.heap.size, 1, none⟩ = some (.slice (some ⟨ab, ao, none⟩) n uc) ∧ W'.cell? ⟨ab, ao + i, none⟩ = some (.slice ra b.length rc) ∧ W'.cell? ⟨w2.heap.size, 1, none⟩ = some (.slice (some ⟨zb, zo, none⟩) zn xc) ∧ W'.cell? ⟨zb, zo + j, none⟩ = some (.slice za z.length zc))) := fun W' h => ⟨(h.cell (World.block_lt_of_cell? _ _ y1)).trans y1, (h.cell (World.block_lt_of_cell? _ _ rb0)).trans rb0, (h.cell (World.block_lt_of_cell? _ _ y2)).trans y2, (h.cell (World.block_lt_of_cell? _ _ rz0)).trans rz0⟩
          have hmt : mt b z ≤ 40 := by
            have := List.countP_le_length (p := fun x => z.contains x) (l := b)
            unfold mt; omega
          generalize mt b z = mm at *
          generalize b.length = bl at *
          generalize z.length = zl at *
          clear hrz rb0 rb1 rz0 rz1 hzi HJ
          have hni : ¬ (n : Int) ≤ (i : Int) := by omega
          have hnj : ¬ (zn : Int) ≤ (j : Int) := by omega
          by_cases h3 : mm = 3
          · rw [if_pos h3] at hs
            have HS1 : Hid (cn3 Z b (j + 1) = c + 1) := hs
            have he : ((mm : Int) == 3) = true := by simp; omega
            have he2 : (mm : Int) = 3 := by omega
            clear hs
            go_wp2
            refine wp_region_noPanic ?_
            refine wp_region_held_drew (S := fun w' => w'.cell? ⟨w.heap.size, 1, none⟩ = some (.slice (some ⟨ab, ao, none⟩) n uc) ∧ w'.cell? ⟨ab, ao + i, none⟩ = some (.slice ra bl rc) ∧ w'.cell? ⟨w2.heap.size, 1, none⟩ = some (.slice (some ⟨zb, zo, none⟩) zn xc) ∧ w'.cell? ⟨zb, zo + j, none⟩ = some (.slice za zl zc)) (by kernel_rfl) (HS.out _ (Below.refl _ wr).drew) (fun hSx => ?_)
            refine wpAnyH_take (i := 0) (v := .pointer (some ⟨w.heap.size, 1, none⟩)) rfl (by kernel_rfl) (by kernel_rfl) (by kernel_rfl) (fun _ _ _ h => h) (Or.inl ⟨by rfl, fun w' hSw => by (try dsimp only at hSw); obtain ⟨hs0, hs1, hs2, hs3⟩ := hSw; go_simp⟩) hSx ?_
            try simp only [Act.put, List.setIfInBounds_toArray]
            refine wpAnyH_take (i := 1) (v := .slice (some ⟨ab, ao, none⟩) n uc) rfl (by kernel_rfl) (by kernel_rfl) (by kernel_rfl) (fun _ _ _ h => h) (Or.inl ⟨by rfl, fun w' hSw => by (try dsimp only at hSw); obtain ⟨hs0, hs1, hs2, hs3⟩ := hSw; go_simp⟩) hSx ?_
            try simp only [Act.put]
            refine wpAnyH_take (i := 2) (v := .int .i64 (i : Int)) rfl (by kernel_rfl) (by kernel_rfl) (by kernel_rfl) (fun _ _ _ h => h) (Or.inl ⟨by rfl, fun w' hSw => by (try dsimp only at hSw); obtain ⟨hs0, hs1, hs2, hs3⟩ := hSw; go_simp⟩) hSx ?_
            try simp only [Act.put]
            refine wpAnyH_take (i := 3) (v := .pointer (some ⟨ab, ao + i, none⟩)) rfl (by kernel_rfl) (by kernel_rfl) (by kernel_rfl) (fun _ _ _ h => h) (Or.inl ⟨by rfl, fun w' hSw => by (try dsimp only at hSw); obtain ⟨hs0, hs1, hs2, hs3⟩ := hSw; go_simp⟩) hSx ?_
            try simp only [Act.put]
            refine wpAnyH_take (i := 4) (v := .slice ra bl rc) rfl (by kernel_rfl) (by kernel_rfl) (by kernel_rfl) (fun _ _ _ h => h) (Or.inl ⟨by rfl, fun w' hSw => by (try dsimp only at hSw); obtain ⟨hs0, hs1, hs2, hs3⟩ := hSw; go_simp⟩) hSx ?_
            try simp only [Act.put]
            refine wpAnyH_take (i := 5) (v := .pointer (some ⟨w2.heap.size, 1, none⟩)) rfl (by kernel_rfl) (by kernel_rfl) (by kernel_rfl) (fun _ _ _ h => h) (Or.inl ⟨by rfl, fun w' hSw => by (try dsimp only at hSw); obtain ⟨hs0, hs1, hs2, hs3⟩ := hSw; go_simp⟩) hSx ?_
            try simp only [Act.put]
            refine wpAnyH_take (i := 6) (v := .slice (some ⟨zb, zo, none⟩) zn xc) rfl (by kernel_rfl) (by kernel_rfl) (by kernel_rfl) (fun _ _ _ h => h) (Or.inl ⟨by rfl, fun w' hSw => by (try dsimp only at hSw); obtain ⟨hs0, hs1, hs2, hs3⟩ := hSw; go_simp⟩) hSx ?_
            try simp only [Act.put]
            refine wpAnyH_take (i := 7) (v := .int .i64 (j : Int)) rfl (by kernel_rfl) (by kernel_rfl) (by kernel_rfl) (fun _ _ _ h => h) (Or.inl ⟨by rfl, fun w' hSw => by (try dsimp only at hSw); obtain ⟨hs0, hs1, hs2, hs3⟩ := hSw; go_simp⟩) hSx ?_
            try simp only [Act.put]
            refine wpAnyH_take (i := 8) (v := .pointer (some ⟨zb, zo + j, none⟩)) rfl (by kernel_rfl) (by kernel_rfl) (by kernel_rfl) (fun _ _ _ h => h) (Or.inl ⟨by rfl, fun w' hSw => by (try dsimp only at hSw); obtain ⟨hs0, hs1, hs2, hs3⟩ := hSw; go_simp⟩) hSx ?_
            try simp only [Act.put]
            refine wpAnyH_take (i := 9) (v := .slice za zl zc) rfl (by kernel_rfl) (by kernel_rfl) (by kernel_rfl) (fun _ _ _ h => h) (Or.inl ⟨by rfl, fun w' hSw => by (try dsimp only at hSw); obtain ⟨hs0, hs1, hs2, hs3⟩ := hSw; go_simp⟩) hSx ?_
            try simp only [Act.put]
            refine wpAnyH_ready (rs := [10]) (by kernel_rfl) (by simp) ?_
            refine AllReadyH.cons rfl (fun J hJ => ?_) AllReadyH.nil
            go_simp
            refine (HCT.out).mono ?_
            rintro e v1 ⟨rfl, hw⟩
            replace hw := hw.symm
            subst hw
            go_wp2_with fail
            refine hJ.out _ _ (HS.out _ (Below.refl _ wr).drew) (fun hSx => ?_)
            clear hJ J
            try simp only [Act.put, List.setIfInBounds_toArray, List.set_cons_zero, List.set_cons_succ]
            refine wpAnyH_take (i := 11) (v := .int .i64 (mm : Int)) rfl (by kernel_rfl) (by kernel_rfl) (by kernel_rfl) (fun _ _ _ h => h) (Or.inl ⟨by rfl, fun w' hSw => by (try dsimp only at hSw); obtain ⟨hs0, hs1, hs2, hs3⟩ := hSw; go_simp⟩) hSx ?_
            try simp only [Act.put, List.setIfInBounds_toArray]
            refine wpAnyH_done (by kernel_rfl) ?_ _
            refine NoPanic.normal ?_
            have hB2 : Below w3.heap.size w3 wr.drew := hB.trans ((Below.refl _ wr).drew)
            clear HS HCT hSx hB
            go_wp2
            go_roundw
            case rel => exact ⟨j + 1, c + 1, by go_num, by go_num, by omega, HS1, hB2⟩
            case measure => simp [intOf]; omega
          · rw [if_neg h3] at hs
            have HS1 : Hid (cn3 Z b (j + 1) = c) := hs
            have he : ((mm : Int) == 3) = false := by simp; omega
            have he2 : ¬ (mm : Int) = 3 := by omega
            clear hs
            go_wp2
            refine wp_region_noPanic ?_
            refine wp_region_held_drew (S := fun w' => w'.cell? ⟨w.heap.size, 1, none⟩ = some (.slice (some ⟨ab, ao, none⟩) n uc) ∧ w'.cell? ⟨ab, ao + i, none⟩ = some (.slice ra bl rc) ∧ w'.cell? ⟨w2.heap.size, 1, none⟩ = some (.slice (some ⟨zb, zo, none⟩) zn xc) ∧ w'.cell? ⟨zb, zo + j, none⟩ = some (.slice za zl zc)) (by kernel_rfl) (HS.out _ (Below.refl _ wr).drew) (fun hSx => ?_)
            refine wpAnyH_take (i := 0) (v := .pointer (some ⟨w.heap.size, 1, none⟩)) rfl (by kernel_rfl) (by kernel_rfl) (by kernel_rfl) (fun _ _ _ h => h) (Or.inl ⟨by rfl, fun w' hSw => by (try dsimp only at hSw); obtain ⟨hs0, hs1, hs2, hs3⟩ := hSw; go_simp⟩) hSx ?_
            try simp only [Act.put, List.setIfInBounds_toArray]
            refine wpAnyH_take (i := 1) (v := .slice (some ⟨ab, ao, none⟩) n uc) rfl (by kernel_rfl) (by kernel_rfl) (by kernel_rfl) (fun _ _ _ h => h) (Or.inl ⟨by rfl, fun w' hSw => by (try dsimp only at hSw); obtain ⟨hs0, hs1, hs2, hs3⟩ := hSw; go_simp⟩) hSx ?_
            try simp only [Act.put]
            refine wpAnyH_take (i := 2) (v := .int .i64 (i : Int)) rfl (by kernel_rfl) (by kernel_rfl) (by kernel_rfl) (fun _ _ _ h => h) (Or.inl ⟨by rfl, fun w' hSw => by (try dsimp only at hSw); obtain ⟨hs0, hs1, hs2, hs3⟩ := hSw; go_simp⟩) hSx ?_
            try simp only [Act.put]
            refine wpAnyH_take (i := 3) (v := .pointer (some ⟨ab, ao + i, none⟩)) rfl (by kernel_rfl) (by kernel_rfl) (by kernel_rfl) (fun _ _ _ h => h) (Or.inl ⟨by rfl, fun w' hSw => by (try dsimp only at hSw); obtain ⟨hs0, hs1, hs2, hs3⟩ := hSw; go_simp⟩) hSx ?_
            try simp only [Act.put]
            refine wpAnyH_take (i := 4) (v := .slice ra bl rc) rfl (by kernel_rfl) (by kernel_rfl) (by kernel_rfl) (fun _ _ _ h => h) (Or.inl ⟨by rfl, fun w' hSw => by (try dsimp only at hSw); obtain ⟨hs0, hs1, hs2, hs3⟩ := hSw; go_simp⟩) hSx ?_
            try simp only [Act.put]
            refine wpAnyH_take (i := 5) (v := .pointer (some ⟨w2.heap.size, 1, none⟩)) rfl (by kernel_rfl) (by kernel_rfl) (by kernel_rfl) (fun _ _ _ h => h) (Or.inl ⟨by rfl, fun w' hSw => by (try dsimp only at hSw); obtain ⟨hs0, hs1, hs2, hs3⟩ := hSw; go_simp⟩) hSx ?_
            try simp only [Act.put]
            refine wpAnyH_take (i := 6) (v := .slice (some ⟨zb, zo, none⟩) zn xc) rfl (by kernel_rfl) (by kernel_rfl) (by kernel_rfl) (fun _ _ _ h => h) (Or.inl ⟨by rfl, fun w' hSw => by (try dsimp only at hSw); obtain ⟨hs0, hs1, hs2, hs3⟩ := hSw; go_simp⟩) hSx ?_
            try simp only [Act.put]
            refine wpAnyH_take (i := 7) (v := .int .i64 (j : Int)) rfl (by kernel_rfl) (by kernel_rfl) (by kernel_rfl) (fun _ _ _ h => h) (Or.inl ⟨by rfl, fun w' hSw => by (try dsimp only at hSw); obtain ⟨hs0, hs1, hs2, hs3⟩ := hSw; go_simp⟩) hSx ?_
            try simp only [Act.put]
            refine wpAnyH_take (i := 8) (v := .pointer (some ⟨zb, zo + j, none⟩)) rfl (by kernel_rfl) (by kernel_rfl) (by kernel_rfl) (fun _ _ _ h => h) (Or.inl ⟨by rfl, fun w' hSw => by (try dsimp only at hSw); obtain ⟨hs0, hs1, hs2, hs3⟩ := hSw; go_simp⟩) hSx ?_
            try simp only [Act.put]
            refine wpAnyH_take (i := 9) (v := .slice za zl zc) rfl (by kernel_rfl) (by kernel_rfl) (by kernel_rfl) (fun _ _ _ h => h) (Or.inl ⟨by rfl, fun w' hSw => by (try dsimp only at hSw); obtain ⟨hs0, hs1, hs2, hs3⟩ := hSw; go_simp⟩) hSx ?_
            try simp only [Act.put]
            refine wpAnyH_ready (rs := [10]) (by kernel_rfl) (by simp) ?_
            refine AllReadyH.cons rfl (fun J hJ => ?_) AllReadyH.nil
            go_simp
            refine (HCT.out).mono ?_
            rintro e v1 ⟨rfl, hw⟩
            replace hw := hw.symm
            subst hw
            go_wp2_with fail
            refine hJ.out _ _ (HS.out _ (Below.refl _ wr).drew) (fun hSx => ?_)
            clear hJ J
            try simp only [Act.put, List.setIfInBounds_toArray, List.set_cons_zero, List.set_cons_succ]
            refine wpAnyH_take (i := 11) (v := .int .i64 (mm : Int)) rfl (by kernel_rfl) (by kernel_rfl) (by kernel_rfl) (fun _ _ _ h => h) (Or.inl ⟨by rfl, fun w' hSw => by (try dsimp only at hSw); obtain ⟨hs0, hs1, hs2, hs3⟩ := hSw; go_simp⟩) hSx ?_
            try simp only [Act.put, List.setIfInBounds_toArray]
            refine wpAnyH_done (by kernel_rfl) ?_ _
            refine NoPanic.normal ?_
            have hB2 : Below w3.heap.size w3 wr.drew := hB.trans ((Below.refl _ wr).drew)
            clear HS HCT hSx hB
            go_wp2
            go_roundw
            case rel => exact ⟨j + 1, c, by go_num, by go_num, by omega, HS1, hB2⟩
            case measure => simp [intOf]; omega
        · have hdj : decide ((j : Int) < (zn : Int)) = false := by simp; omega
          have hjn : zn = j := by omega
          subst hjn
          have hc1 : c = 1 := HJ.out.symm.trans hone
          subst hc1
          go_wp2
          go_roundw
          case rel => exact ⟨i + 1, by go_num, by omega, hB⟩
          case measure => simp [intOf]; omega
    · have hdi : decide ((i : Int) < (n : Int)) = false := by simp; omega
      have HB4 : Hid (Below w.heap.size w wr) := HB3.out.trans (hB.mono HB3.out.size)
      have HK4 : Hid (Below w0.heap.size w0 wr) := HK3.out.trans (hB.mono HK3.out.size)
      obtain ⟨⟨l0, l1⟩, l2, l3⟩ := HC.out _ HK4.out
      clear y0 y1 y2
      go_wp2_with (first
        | (go_at_call 15; refine (HP.out _ HB4.out).mono ?_; rintro e w5 ⟨y, Y, rfl, ⟨sY, gY⟩, hR, hb⟩; clear HP; obtain ⟨ya, yc, rfl⟩ := rw_form hR; have bb := balloc w5 (.cells #[.int .i64 (vm : Int), .slice ya Y.length yc] 24); have HB5 : Hid (Below w.heap.size w (w5.alloc (.cells #[.int .i64 (vm : Int), .slice ya Y.length yc] 24))) := Below.next HB4.out (Below.next hb bb); have HK5 : Hid (Below w0.heap.size w0 (w5.alloc (.cells #[.int .i64 (vm : Int), .slice ya Y.length yc] 24))) := Below.next HK4.out (Below.next hb bb); have HTC : Hid (Calls Try.prog 13 #[.agg #[.int .i64 (vm : Int), .slice ya Y.length yc]] (w5.alloc (.cells #[.int .i64 (vm : Int), .slice ya Y.length yc] 24)) fun e w' => e = .returned (.int .i64 0) ∧ Below (w5.alloc (.cells #[.int .i64 (vm : Int), .slice ya Y.length yc] 24)).heap.size (w5.alloc (.cells #[.int .i64 (vm : Int), .slice ya Y.length yc] 24)) w') := TCheck_sys vm Y _ _ sY gY (hR.below bb); have HM5 : Hid (∀ W, Below (w5.alloc (.cells #[.int .i64 (vm : Int), .slice ya Y.length yc] 24)).heap.size (w5.alloc (.cells #[.int .i64 (vm : Int), .slice ya Y.length yc] 24)) W → W.cell? ⟨w5.heap.size, 0, none⟩ = some (.int .i64 (vm : Int)) ∧ W.cell? ⟨w5.heap.size, 1, none⟩ = some (.slice ya Y.length yc)) := fun W h => HDB.out _ _ _ W h; generalize Y.length = yl at *; clear hb bb hR sY gY)
        | (go_at_call 13; refine HTC.out.mono ?_; rintro e w6 ⟨rfl, hb⟩; clear HTC; have HB6 : Hid (Below w.heap.size w w6) := Below.next HB5.out hb; obtain ⟨⟨q0, q1⟩, q2, q3⟩ := HC.out _ (Below.next HK5.out hb); obtain ⟨r0, r1⟩ := HM5.out _ hb; clear hb))
      go_ret
      exact ⟨rfl, HB6.out⟩

end Go.Proofs.Ytdeofjmgjhfkcaa

namespace Go.Proofs.Ytdeofjmgjhfkcaa
open Go.RowKit

theorem rows40 {v : Nat} {B : List (List Nat)} (G : GoodD v B) (s : Sys v B) : ∀ b ∈ B, b.length = 3 ∧ ∀ x ∈ b, x ≤ 40 := fun b hb => ⟨s.sz b hb, fun x hx => by have := (s.bl b hb).lt x hx; have := G.le; omega⟩
theorem prod_sizes {v m na nc : Nat} (h33 : v * m ≤ 33) (hA : 6 * na = v * (v - 1)) (hC : 6 * nc = m * (m - 1)) : v * nc ≤ 400 ∧ na * (m + 6 * nc) ≤ 400 := by
  have e1 : v * (6 * nc) ≤ 33 * 33 := by
    rw [hC, ← Nat.mul_assoc]
    by_cases hv : v = 0
    · subst hv; simp
    · have hm : m ≤ 33 := Nat.le_trans (Nat.le_mul_of_pos_left m (by omega)) h33
      exact Nat.mul_le_mul h33 (by omega)
  have e2 : 6 * (na * (m + 6 * nc)) ≤ 33 * 33 := by
    rw [← Nat.mul_assoc, hA, hC]
    have e3 : m + m * (m - 1) = m * m := by
      cases m with
      | zero => rfl
      | succ k => simp only [Nat.add_sub_cancel]; rw [Nat.mul_comm (k + 1) (k + 1), Nat.mul_add (k + 1) k 1]; omega
    rw [e3]
    have e4 : v * (v - 1) * (m * m) ≤ v * v * (m * m) := Nat.mul_le_mul_right _ (Nat.mul_le_mul_left _ (by omega))
    have e5 : v * v * (m * m) = (v * m) * (v * m) := Nat.mul_mul_mul_comm v v m m
    rw [e5] at e4
    exact Nat.le_trans e4 (Nat.mul_le_mul h33 h33)
  rw [Nat.mul_left_comm] at e1
  constructor <;> omega
theorem product_sys {v m : Nat} {A C : List (List Nat)} {ua ub : Value} {w : World} (GA : GoodD v A) (GC : GoodD m C) (sA : Sys v A) (sC : Sys m C) (h33 : v * m ≤ 33) (hua : Rw w ua (toZ A)) (hub : Rw w ub (toZ C)) :
    Calls Try.prog 35 #[.agg #[.int .i64 (v : Int), ua], .agg #[.int .i64 (m : Int), ub]] w fun e w' => ∃ x Z, e = .returned (.agg #[.int .i64 ((v * m : Nat) : Int), x]) ∧ Srtd (prP v m A C) Z ∧ OR w' (w.heap.size + 4) x Z ∧ Below w.heap.size w w' := by
  have hv1 := GA.pos
  have hm1 := GC.pos
  have hv : v ≤ 33 := Nat.le_trans (Nat.le_mul_of_pos_right v (by omega)) h33
  have hm : m ≤ 33 := Nat.le_trans (Nat.le_mul_of_pos_left m (by omega)) h33
  obtain ⟨t1, t2⟩ := prod_sizes h33 (sys_len sA) (sys_len sC)
  exact product_any v m A C ua ub w hv hm h33 GA.few GC.few t1 t2 (rows40 GA sA) (rows40 GC sC) hua hub
theorem TCheck_is {p f : Int} {ls : List (List Int)} {u : Value} {w : World} (hT : TfT p ls f) (hu : Rw w u ls) (hl : ls.length ≤ maxLen) (hll : ∀ l ∈ ls, l.length ≤ maxLen) : Hid (∀ W, Below w.heap.size w W → Calls Try.prog 13 #[.agg #[.int .i64 p, u]] W fun e w' => e = .returned (.int .i64 f) ∧ Below W.heap.size W w') := fun W b => by
  refine (TCheck_any p ls u W (hu.below b) hl hll).mono ?_
  rintro e w' ⟨g, rfl, hg, hb⟩
  rw [hg.same hT]
  exact ⟨rfl, hb⟩
theorem hid_up {w W : World} {fn : Nat} {args : Array Value} {Q : World → Ending → World → Prop} (h : Hid (∀ W, Below w.heap.size w W → Calls Try.prog fn args W (Q W))) (b : Below w.heap.size w W) : Hid (∀ W', Below W.heap.size W W' → Calls Try.prog fn args W' (Q W')) := fun W' b' => h.out W' (Below.next b b')
theorem doub_old {v : Nat} {B Z : List (List Nat)} (G : GoodD v B) (s : Sys v B) (h16 : v ≤ 16) (hS : Srtd (dbP v B) Z) : Sys (2 * v + 1) Z ∧ GoodD (2 * v + 1) Z ∧ ∀ b ∈ B, b ∈ Z := by
  obtain ⟨a, b⟩ := sys_good (by omega) (by omega) (dbP_sys s) hS (dbP_s3 v B)
  exact ⟨a, b, old_in s (fun b hb => (rs_iff.1 (G.rs b hb)).1) hS⟩
theorem Doubled_law (p q : Int) (ls ms : List (List Int)) (u t : Value) (w : World) (hu : Rw w u ls) (ht : Rw w t ms) (hl : ls.length ≤ maxLen) (hll : ∀ l ∈ ls, l.length ≤ maxLen) (hm : ms.length ≤ maxLen) (hml : ∀ l ∈ ms, l.length ≤ maxLen) :
    Calls Try.prog 8 #[.agg #[.int .i64 p, u], .agg #[.int .i64 q, t]] w fun e w' => e = .returned (.bool true) ∧ Below w.heap.size w w' := by
  obtain ⟨f, hT, hf⟩ := TCheck_one p ls
  obtain ⟨g, hTg, hg⟩ := TCheck_one q ms
  have C1 := TCheck_is hT hu hl hll
  have C2 := TCheck_is hTg ht hm hml
  have hu' : ∃ a c, u = .slice a ls.length c := by
    obtain ⟨a, c, e, _⟩ := hu
    exact ⟨a, c, e⟩
  have ht' : ∃ a c, t = .slice a ms.length c := by
    obtain ⟨a, c, e, _⟩ := ht
    exact ⟨a, c, e⟩
  by_cases h0 : f = 0
  · obtain ⟨v, B, rfl, rfl, G, s⟩ := hf h0
    subst h0
    have DG : v ≤ 16 → Hid (∀ W, Below w.heap.size w W → Calls Try.prog 14 #[.agg #[.int .i64 (v : Int), u]] W fun e w' => ∃ x Z, e = .returned (.tuple #[.agg #[.int .i64 (2 * (v : Int) + 1), x], .int .i64 0]) ∧ (Sys (2 * v + 1) Z ∧ GoodD (2 * v + 1) Z ∧ ∀ b ∈ B, b ∈ Z) ∧ Rw w' x (toZ Z) ∧ Below W.heap.size W w') := fun h16 W b => by
      refine (Double_good v h16 (dbP v B) _ u W hu' (hid_up C1 b) fun W' b' => double_any v B u W' h16 G.few (fun c hc => ⟨s.sz c hc, fun x hx => (s.bl c hc).lt x hx⟩) (hu.below (Below.next b b'))).mono ?_
      rintro e w' ⟨x, Z, rfl, hS, hR, hb⟩
      exact ⟨x, Z, rfl, doub_old G s h16 hS, hR, hb⟩
    have DF : 16 < v → Hid (∀ W, Below w.heap.size w W → Calls Try.prog 14 #[.agg #[.int .i64 (v : Int), u]] W fun e w' => e = .returned (.tuple #[.agg #[.int .i64 0, .slice none 0 0], .int .i64 3]) ∧ Below W.heap.size W w') := fun h16 W b => Double_full v h16 G.le _ u W hu' (hid_up C1 b)
    by_cases h1 : g = 0
    · obtain ⟨m, C, rfl, rfl, GC, sC⟩ := hg h1
      subst h1
      by_cases h33 : v * m ≤ 33
      · have PG : Hid (∀ W, Below w.heap.size w W → Calls Try.prog 15 #[.agg #[.int .i64 (v : Int), u], .agg #[.int .i64 (m : Int), t]] W fun e w' => ∃ x Z, e = .returned (.tuple #[.agg #[.int .i64 ((v * m : Nat) : Int), x], .int .i64 0]) ∧ (Sys (v * m) Z ∧ GoodD (v * m) Z) ∧ Rw w' x (toZ Z) ∧ Below W.heap.size W w') := fun W b => by
          refine (Product_good v m (v * m) G.le GC.le rfl h33 (prP v m B C) _ _ u t W hu' ht' (hid_up C1 b) (hid_up C2 b) fun W' b' => product_sys G GC s sC h33 (hu.below (Below.next b b')) (ht.below (Below.next b b'))).mono ?_
          rintro e w' ⟨x, Z, rfl, hS, hR, hb⟩
          exact ⟨x, Z, rfl, sys_good (Nat.mul_pos G.pos GC.pos) h33 (prP_sys s sC) hS (prP_s3 v m B C), hR, hb⟩
        by_cases h16 : v ≤ 16
        · exact Doub_GG v m (v * m) rfl h33 h16 B G _ u t w ht' hu (DG h16) PG
        · exact Doub_NG 3 (by omega) v m (v * m) rfl h33 _ _ u t w hu' ht' (DF (by omega)) PG
      · have PN : Hid (∀ W, Below w.heap.size w W → Calls Try.prog 15 #[.agg #[.int .i64 (v : Int), u], .agg #[.int .i64 (m : Int), t]] W fun e w' => e = .returned (.tuple #[.agg #[.int .i64 0, .slice none 0 0], .int .i64 3]) ∧ Below W.heap.size W w') := fun W b => Product_full v m (v * m) G.le GC.le rfl (by omega) _ _ u t W hu' ht' (hid_up C1 b) (hid_up C2 b)
        by_cases h16 : v ≤ 16
        · exact Doub_GN 3 (by omega) v m h16 B G _ u t w ht' hu (DG h16) PN
        · exact Doub_NN 3 (by omega) 3 (by omega) v m _ _ u t w hu' ht' (DF (by omega)) PN
    · have PN : Hid (∀ W, Below w.heap.size w W → Calls Try.prog 15 #[.agg #[.int .i64 (v : Int), u], .agg #[.int .i64 q, t]] W fun e w' => e = .returned (.tuple #[.agg #[.int .i64 0, .slice none 0 0], .int .i64 g]) ∧ Below W.heap.size W w') := fun W b => Product_badb v q g h1 _ _ u t W hu' ht' (hid_up C1 b) (hid_up C2 b)
      by_cases h16 : v ≤ 16
      · exact Doub_GN g h1 v q h16 B G _ u t w ht' hu (DG h16) PN
      · exact Doub_NN 3 (by omega) g h1 v q _ _ u t w hu' ht' (DF (by omega)) PN
  · have DN : Hid (∀ W, Below w.heap.size w W → Calls Try.prog 14 #[.agg #[.int .i64 p, u]] W fun e w' => e = .returned (.tuple #[.agg #[.int .i64 0, .slice none 0 0], .int .i64 f]) ∧ Below W.heap.size W w') := fun W b => Double_bad p f h0 _ u W hu' (hid_up C1 b)
    have PN : Hid (∀ W, Below w.heap.size w W → Calls Try.prog 15 #[.agg #[.int .i64 p, u], .agg #[.int .i64 q, t]] W fun e w' => e = .returned (.tuple #[.agg #[.int .i64 0, .slice none 0 0], .int .i64 f]) ∧ Below W.heap.size W w') := fun W b => Product_bada p q f h0 _ _ u t W hu' ht' (hid_up C1 b)
    exact Doub_NN f h0 f h0 p q _ _ u t w hu' ht' DN PN
theorem Doubled_end (p q : Int) (ls ms : List (List Int)) (u t : Value) (W : World) (hu : Rw W u ls) (ht : Rw W t ms) (hll : ∀ l ∈ ls, l.length ≤ maxLen) (hl : ls.length ≤ maxLen) (hml : ∀ l ∈ ms, l.length ≤ maxLen) (hm : ms.length ≤ maxLen) : Calls Try.prog 8 #[.agg #[.int .i64 p, u], .agg #[.int .i64 q, t]] W fun e w' => e = .returned (.bool true) ∧ Below W.heap.size W w' := Doubled_law p q ls ms u t W hu ht hl hll hm hml

end Go.Proofs.Ytdeofjmgjhfkcaa

namespace Go.Proofs.Ytdeofjmgjhfkcaa
open Go.RowKit

set_option maxRecDepth 100000 in
set_option maxHeartbeats 4000000 in
theorem Pass_bad (p f : Int) (hf : f ≠ 0) (n : Nat) (u : Value) (w : World) (hu : ∃ a c, u = .slice a n c)
    (C : Hid (∀ W, Below w.heap.size w W → Calls Try.prog 12 #[.agg #[.int .i64 p, u]] W fun e w' => e = .returned (.int .i64 f) ∧ Below W.heap.size W w'))
    (D : Hid (∀ W, Below w.heap.size w W → Calls Try.prog 18 #[.agg #[.int .i64 p, u]] W fun e w' => e = .returned (.tuple #[.int .i64 0, .int .i64 f]) ∧ Below W.heap.size W w')) :
    Calls Try.prog 5 #[.agg #[.int .i64 p, u]] w fun e w' => e = .returned (.bool true) ∧ Below w.heap.size w w' := by
  have HC : Hid (∀ W, Below (w.alloc (.cells #[.int .i64 p, u] 24)).heap.size (w.alloc (.cells #[.int .i64 p, u] 24)) W → W.cell? ⟨w.heap.size, 0, none⟩ = some (.int .i64 p) ∧ W.cell? ⟨w.heap.size, 1, none⟩ = some u) := des_box p u w
  have HB0 : Hid (Below w.heap.size w (w.alloc (.cells #[.int .i64 p, u] 24))) := balloc _ _
  obtain ⟨x0, x1⟩ := HC.out _ (Below.refl _ _)
  obtain ⟨ua, uc, rfl⟩ := hu
  have g1 : (f != 0) = true := by simp; omega
  have g2 : ¬ f = 0 := hf
  have g3 : (f == f) = true := by simp
  go_enter Try.func5, Try.ntmps5
  go_wp2_with (first
    | (go_at_call 12; refine (C.out _ HB0.out).mono ?_; rintro e w1 ⟨rfl, hb⟩; clear C; have HB1 : Hid (Below w.heap.size w w1) := Below.next HB0.out hb; clear x0 x1; obtain ⟨k0, k1⟩ := HC.out _ hb; clear hb)
    | (go_at_call 18; refine (D.out _ HB1.out).mono ?_; rintro e w2 ⟨rfl, hb⟩; clear D; have HB2 : Hid (Below w.heap.size w w2) := Below.next HB1.out hb; clear hb))
  go_ret
  exact ⟨rfl, HB2.out⟩
set_option maxRecDepth 100000 in
set_option maxHeartbeats 4000000 in
theorem Pass_good (p m : Int) (n : Nat) (u : Value) (w : World) (hu : ∃ a c, u = .slice a n c)
    (C : Hid (∀ W, Below w.heap.size w W → Calls Try.prog 12 #[.agg #[.int .i64 p, u]] W fun e w' => e = .returned (.int .i64 0) ∧ Below W.heap.size W w'))
    (D : Hid (∀ W, Below w.heap.size w W → Calls Try.prog 18 #[.agg #[.int .i64 p, u]] W fun e w' => e = .returned (.tuple #[.int .i64 m, .int .i64 0]) ∧ Below W.heap.size W w'))
    (E : Hid (∀ W, Below w.heap.size w W → Calls Try.prog 19 #[.agg #[.int .i64 p, u]] W fun e w' => e = .returned (.int .i64 m) ∧ Below W.heap.size W w')) :
    Calls Try.prog 5 #[.agg #[.int .i64 p, u]] w fun e w' => e = .returned (.bool true) ∧ Below w.heap.size w w' := by
  have HC : Hid (∀ W, Below (w.alloc (.cells #[.int .i64 p, u] 24)).heap.size (w.alloc (.cells #[.int .i64 p, u] 24)) W → W.cell? ⟨w.heap.size, 0, none⟩ = some (.int .i64 p) ∧ W.cell? ⟨w.heap.size, 1, none⟩ = some u) := des_box p u w
  have HB0 : Hid (Below w.heap.size w (w.alloc (.cells #[.int .i64 p, u] 24))) := balloc _ _
  obtain ⟨x0, x1⟩ := HC.out _ (Below.refl _ _)
  obtain ⟨ua, uc, rfl⟩ := hu
  have g3 : (m == m) = true := by simp
  go_enter Try.func5, Try.ntmps5
  go_wp2_with (first
    | (go_at_call 12; refine (C.out _ HB0.out).mono ?_; rintro e w1 ⟨rfl, hb⟩; clear C; have HB1 : Hid (Below w.heap.size w w1) := Below.next HB0.out hb; clear x0 x1; obtain ⟨k0, k1⟩ := HC.out _ hb; have HK1 : Hid (Below (w.alloc (.cells #[.int .i64 p, .slice ua n uc] 24)).heap.size (w.alloc (.cells #[.int .i64 p, .slice ua n uc] 24)) w1) := hb; clear hb)
    | (go_at_call 18; refine (D.out _ HB1.out).mono ?_; rintro e w2 ⟨rfl, hb⟩; clear D; have HB2 : Hid (Below w.heap.size w w2) := Below.next HB1.out hb; clear k0 k1; obtain ⟨k0, k1⟩ := HC.out _ (Below.next HK1.out hb); clear hb)
    | (go_at_call 19; refine (E.out _ HB2.out).mono ?_; rintro e w3 ⟨rfl, hb⟩; clear E; have HB3 : Hid (Below w.heap.size w w3) := Below.next HB2.out hb; clear hb))
  go_ret
  exact ⟨rfl, HB3.out⟩
theorem Fault_is (p : Int) (ls : List (List Int)) (u : Value) (w : World) (hu : Rw w u ls) (hl : ls.length ≤ maxLen) (hll : ∀ l ∈ ls, l.length ≤ maxLen) {f : Int} (hf : TfT p ls f) :
    Hid (∀ W, Below w.heap.size w W → Calls Try.prog 12 #[.agg #[.int .i64 p, u]] W fun e w' => e = .returned (.int .i64 f) ∧ Below W.heap.size W w') := fun W hW => by
  refine (Fault_any p ls u W (hu.below hW) hl hll).mono ?_
  rintro e w' ⟨g, rfl, hg, hb⟩
  rw [hg.same hf]
  exact ⟨rfl, hb⟩
theorem Passes_law (p : Int) (ls : List (List Int)) (u : Value) (w : World) (hu : Rw w u ls) (hll : ∀ l ∈ ls, l.length ≤ maxLen) (hl : ls.length ≤ maxLen) :
    Calls Try.prog 5 #[.agg #[.int .i64 p, u]] w fun e w' => e = .returned (.bool true) ∧ Below w.heap.size w w' := by
  obtain ⟨f, hf, hok⟩ := TCheck_one p ls
  have hC := Fault_is p ls u w hu hl hll hf
  have hT := TCheck_is hf hu hl hll
  obtain ⟨ua, uc, rfl⟩ : ∃ a c, u = .slice a ls.length c := by obtain ⟨a, c, e, _⟩ := hu; exact ⟨a, c, e⟩
  by_cases h0 : f = 0
  · subst h0
    obtain ⟨v, B, rfl, rfl, G, s⟩ := hok rfl
    have hm : mO (thB B) v v = 24 * pD0 v B B.length := met_doc s (thB_th s)
    have hm2 : mO (thB B) v v / 24 = pD0 v B B.length := by rw [hm]; omega
    refine Pass_good v ((pD0 v B B.length : Nat) : Int) _ _ w ⟨_, _, rfl⟩ hC (fun W hW => ?_) (fun W hW => ?_)
    · have := Passes_good v B _ W s G (hu.below hW) (hid_up hT hW)
      rwa [hm2] at this
    · exact PassesOf_any v B _ W G.le G.few (fun b hb => ⟨(rows_nd s b hb).1, (rows_nd s b hb).2.1⟩) (hu.below hW)
  · exact Pass_bad p f h0 _ _ w ⟨_, _, rfl⟩ hC (fun W hW => Passes_bad p f h0 _ _ W ⟨_, _, rfl⟩ (hid_up hT hW))

end Go.Proofs.Ytdeofjmgjhfkcaa

namespace Go.Proofs.Ytdeofjmgjhfkcaa
open Go.RowKit

theorem srt_exists {M : List (List Nat)} (h3 : ∀ b ∈ M, b.length = 3) (h6 : M.length ≤ 6000) : ∃ Zd, Sh Zd ∧ ∀ Z, Srtd M Z → Z = Zd := by
  by_cases h : ∃ Z, Srtd M Z
  · obtain ⟨Z, hZ⟩ := h
    exact ⟨Z, srt_short h3 hZ h6, fun Z' h' => Srtd.one h3 h' hZ⟩
  · exact ⟨[], ⟨by simp [toZ], by simp [toZ]⟩, fun Z hZ => (h ⟨Z, hZ⟩).elim⟩
theorem DsC.of {fn : Nat} {args : Array Value} {w : World} {p : Int} {M Zd : List (List Nat)} (h1 : ∀ Z, Srtd M Z → Z = Zd)
    (h : ∀ W, Below w.heap.size w W → Calls Try.prog fn args W fun e w' => ∃ x Z, e = .returned (.tuple #[.agg #[.int .i64 p, x], .int .i64 0]) ∧ Srtd M Z ∧ Rw w' x (toZ Z) ∧ Below W.heap.size W w') : Hid (DsC fn args w p 0 Zd.length Zd) := fun W hW => by
  refine (h W hW).mono ?_
  rintro e w' ⟨x, Z, rfl, hS, hR, hb⟩
  obtain rfl := h1 Z hS
  obtain ⟨xa, xc, rfl⟩ := rw_form hR
  exact ⟨xa, xc, rfl, hR, hb⟩
theorem DsO.of {fn : Nat} {args : Array Value} {w : World} {p : Int} {M Zd : List (List Nat)} (h1 : ∀ Z, Srtd M Z → Z = Zd)
    (h : ∀ W, Below w.heap.size w W → Calls Try.prog fn args W fun e w' => ∃ x Z, e = .returned (.tuple #[.agg #[.int .i64 p, x], .int .i64 0]) ∧ Srtd M Z ∧ OR w' W.heap.size x Z ∧ Below W.heap.size W w') : Hid (DsO fn args w p 0 Zd.length Zd) := fun W hW => by
  refine (h W hW).mono ?_
  rintro e w' ⟨x, Z, rfl, hS, hR, hb⟩
  obtain rfl := h1 Z hS
  obtain ⟨xa, xc, rfl⟩ := hR.cap
  exact ⟨xa, xc, rfl, hR, hb⟩
theorem DsC.nil {fn : Nat} {args : Array Value} {w : World} {f : Int} (h : ∀ W, Below w.heap.size w W → Calls Try.prog fn args W fun e w' => e = .returned (.tuple #[.agg #[.int .i64 0, .slice none 0 0], .int .i64 f]) ∧ Below W.heap.size W w') : Hid (DsC fn args w 0 f 0 []) := fun W hW => by
  refine (h W hW).mono ?_
  rintro e w' ⟨rfl, hb⟩
  exact ⟨none, 0, rfl, rw_nil _, hb⟩
theorem DsO.nil {fn : Nat} {args : Array Value} {w : World} {f : Int} (h : ∀ W, Below w.heap.size w W → Calls Try.prog fn args W fun e w' => e = .returned (.tuple #[.agg #[.int .i64 0, .slice none 0 0], .int .i64 f]) ∧ Below W.heap.size W w') : Hid (DsO fn args w 0 f 0 []) := fun W hW => by
  refine (h W hW).mono ?_
  rintro e w' ⟨rfl, hb⟩
  exact ⟨none, 0, rfl, OR.nil _ _, hb⟩
theorem dbP_few {v : Nat} {B : List (List Nat)} (hv : v ≤ 16) (hB : B.length ≤ 200) : (dbP v B).length ≤ 6000 := by
  unfold dbP
  rw [List.length_append, duL_len, dbB_len]; omega
theorem prP_few {v m : Nat} {A C : List (List Nat)} (sA : Sys v A) (sC : Sys m C) (h33 : v * m ≤ 33) : (prP v m A C).length ≤ 6000 := by
  obtain ⟨t1, t2⟩ := prod_sizes h33 (sys_len sA) (sys_len sC)
  unfold prP
  rw [List.length_append, p1_len, p2_len]; omega
theorem sh_nil : Sh [] := ⟨by simp [toZ], by simp [toZ]⟩
/-- Double and DoubleOf have one answer. -/
theorem double_one {v : Nat} {B : List (List Nat)} {u : Value} {w : World} (G : GoodD v B) (s : Sys v B) (hu : Rw w u (toZ B)) (C1 : Hid (ErC 13 #[.agg #[.int .i64 (v : Int), u]] w 0)) :
    ∃ (pd ed : Int) (nd : Nat) (Zd : List (List Nat)), Sh Zd ∧ Hid (DsC 14 #[.agg #[.int .i64 (v : Int), u]] w pd ed nd Zd) ∧ Hid (DsC 16 #[.agg #[.int .i64 (v : Int), u]] w pd ed nd Zd) := by
  have hu' : ∃ a c, u = .slice a (toZ B).length c := by
    obtain ⟨a, c, e, _⟩ := hu
    exact ⟨a, c, e⟩
  have hb3 : ∀ b ∈ B, b.length = 3 ∧ ∀ x ∈ b, x < v := fun c hc => ⟨s.sz c hc, fun x hx => (s.bl c hc).lt x hx⟩
  by_cases h16 : v ≤ 16
  · obtain ⟨Zd, sZ, hZ⟩ := srt_exists (dbP_three v B) (dbP_few h16 G.few)
    refine ⟨((2 * v + 1 : Nat) : Int), 0, Zd.length, Zd, sZ, DsC.of hZ fun W b => ?_, DsC.of hZ fun W b => ?_⟩
    · exact Double_good v h16 (dbP v B) _ u W hu' (hid_up C1 b) fun W' b' => double_any v B u W' h16 G.few hb3 (hu.below (Below.next b b'))
    · refine (DoubleOf_main v B u W h16 G.few hb3 (hu.below b)).mono ?_
      rintro e w' ⟨x, Z, rfl, hO, hR, hb⟩
      exact ⟨x, Z, rfl, hO.srtd (dbl_perm s.sz), hR, hb⟩
  · exact ⟨0, 3, 0, [], sh_nil, DsC.nil fun W b => Double_full v (by omega) G.le _ u W hu' (hid_up C1 b), DsC.nil fun W b => DoubleOf_full v (by omega) G.le _ u W hu'⟩
theorem product_one {v m : Nat} {A C : List (List Nat)} {u t : Value} {w : World} (GA : GoodD v A) (sA : Sys v A) (GC : GoodD m C) (sC : Sys m C) (hu : Rw w u (toZ A)) (ht : Rw w t (toZ C)) (C1 : Hid (ErC 13 #[.agg #[.int .i64 (v : Int), u]] w 0)) (C2 : Hid (ErC 13 #[.agg #[.int .i64 (m : Int), t]] w 0)) :
    ∃ (pd ed : Int) (nd : Nat) (Zd : List (List Nat)), Sh Zd ∧ Hid (DsC 15 #[.agg #[.int .i64 (v : Int), u], .agg #[.int .i64 (m : Int), t]] w pd ed nd Zd) ∧ Hid (DsO 17 #[.agg #[.int .i64 (v : Int), u], .agg #[.int .i64 (m : Int), t]] w pd ed nd Zd) := by
  have hu' : ∃ a c, u = .slice a (toZ A).length c := by
    obtain ⟨a, c, e, _⟩ := hu
    exact ⟨a, c, e⟩
  have ht' : ∃ a c, t = .slice a (toZ C).length c := by
    obtain ⟨a, c, e, _⟩ := ht
    exact ⟨a, c, e⟩
  by_cases h33 : v * m ≤ 33
  · obtain ⟨Zd, sZ, hZ⟩ := srt_exists (prP_three v m A C) (prP_few sA sC h33)
    have hv1 := GA.pos
    have hm1 := GC.pos
    have hv : v ≤ 33 := Nat.le_trans (Nat.le_mul_of_pos_right v (by omega)) h33
    have hm : m ≤ 33 := Nat.le_trans (Nat.le_mul_of_pos_left m (by omega)) h33
    obtain ⟨t1, t2⟩ := prod_sizes h33 (sys_len sA) (sys_len sC)
    refine ⟨((v * m : Nat) : Int), 0, Zd.length, Zd, sZ, DsC.of hZ fun W b => ?_, DsO.of hZ fun W b => ?_⟩
    · exact Product_good v m (v * m) GA.le GC.le rfl h33 (prP v m A C) _ _ u t W hu' ht' (hid_up C1 b) (hid_up C2 b) fun W' b' => product_sys GA GC sA sC h33 (hu.below (Below.next b b')) (ht.below (Below.next b b'))
    · refine (ProductOf_main v m A C u t W hv hm h33 GA.few GC.few t1 t2 (rows40 GA sA) (rows40 GC sC) (hu.below b) (ht.below b)).mono ?_
      rintro e w' ⟨x, Z, rfl, hO, hR, hb⟩
      exact ⟨x, Z, rfl, hO.srtd (prQ_perm sA.sz sC.sz), hR, hb⟩
  · exact ⟨0, 3, 0, [], sh_nil, DsC.nil fun W b => Product_full v m (v * m) GA.le GC.le rfl (by omega) _ _ u t W hu' ht' (hid_up C1 b) (hid_up C2 b), DsO.nil fun W b => ProductOf_full v m (v * m) GA.le GC.le rfl (by omega) _ _ u t W hu' ht'⟩
theorem Turns_law (p q : Int) (ls ms : List (List Int)) (u t : Value) (w : World) (hu : Rw w u ls) (ht : Rw w t ms) (hll : ∀ l ∈ ls, l.length ≤ maxLen) (hl : ls.length ≤ maxLen) (hml : ∀ l ∈ ms, l.length ≤ maxLen) (hm : ms.length ≤ maxLen) :
    Calls Try.prog 4 #[.agg #[.int .i64 p, u], .agg #[.int .i64 q, t]] w fun e w' => e = .returned (.bool true) ∧ Below w.heap.size w w' := by
  obtain ⟨f, hT, hf⟩ := TCheck_one p ls
  obtain ⟨g, hTg, hg⟩ := TCheck_one q ms
  have C1 : Hid (ErC 13 #[.agg #[.int .i64 p, u]] w f) := TCheck_is hT hu hl hll
  have C2 : Hid (ErC 13 #[.agg #[.int .i64 q, t]] w g) := TCheck_is hTg ht hm hml
  have F1 : Hid (ErC 12 #[.agg #[.int .i64 p, u]] w f) := Fault_is p ls u w hu hl hll hT
  have F2 : Hid (ErC 12 #[.agg #[.int .i64 q, t]] w g) := Fault_is q ms t w ht hm hml hTg
  have hu' : ∃ a c, u = .slice a ls.length c := by
    obtain ⟨a, c, e, _⟩ := hu
    exact ⟨a, c, e⟩
  have ht' : ∃ a c, t = .slice a ms.length c := by
    obtain ⟨a, c, e, _⟩ := ht
    exact ⟨a, c, e⟩
  by_cases h0 : f = 0
  · obtain ⟨v, B, rfl, rfl, G, s⟩ := hf h0
    subst h0
    obtain ⟨pd, ed, nd, Zd, sZ, hD, hE⟩ := double_one G s hu C1
    by_cases h1 : g = 0
    · obtain ⟨m, C, rfl, rfl, GC, sC⟩ := hg h1
      subst h1
      obtain ⟨pp, ep, np, Zp, sP, hP, hQ⟩ := product_one G s GC sC hu ht C1 C2
      exact Turn_full v m pp ep np Zp sP pd ed nd Zd sZ _ _ u t w hu' ht' F1 C1 hD hP hE F2 hQ
    · exact Turn_half v q g h1 pd ed nd Zd sZ _ _ u t w hu' ht' F1 C1 hD (DsC.nil fun W b => Product_badb v q g h1 _ _ u t W hu' ht' (hid_up C1 b) (hid_up C2 b)) hE F2
  · exact Turn_bad p q f h0 _ _ u t w hu' ht' F1 C1 (DsC.nil fun W b => Double_bad p f h0 _ u W hu' (hid_up C1 b)) (DsC.nil fun W b => Product_bada p q f h0 _ _ u t W hu' ht' (hid_up C1 b))

end Go.Proofs.Ytdeofjmgjhfkcaa
