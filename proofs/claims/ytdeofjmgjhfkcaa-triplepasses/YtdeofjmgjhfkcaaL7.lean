/- The law TripleKirkman. -/
import Derived.Test.YtdeofjmgjhfkcaaK2
import Derived.Test.YtdeofjmgjhfkcaaL3
namespace Go.Proofs.Ytdeofjmgjhfkcaa
open Go.RowKit

theorem TfT.same {p e e' : Int} {ls : List (List Int)} (h : TfT p ls e) (h' : TfT p ls e') : e = e' := TfT.one (fun v B e1 e2 G => by rw [e1, e2]; exact good_dF G) h h'
theorem good_short {v : Nat} {B : List (List Nat)} (G : GoodD v B) : (toZ B).length ≤ maxLen ∧ ∀ l ∈ toZ B, l.length ≤ maxLen := by
  refine ⟨by have := G.few; simp [toZ]; unfold maxLen; omega, fun l hl => ?_⟩
  obtain ⟨b, hb, rfl⟩ := List.mem_map.1 hl
  have := G.len hb
  rw [List.length_map]; unfold maxLen; omega
theorem Make_good (n : Nat) (w : World) (h1 : 1 ≤ n) (h3 : n ≤ 33) (h : n % 6 = 1 ∨ n % 6 = 3) :
    Calls Try.prog 9 #[.int .i64 (n : Int)] w fun e w' => ∃ x Z, e = .returned (.tuple #[.agg #[.int .i64 (n : Int), x], .int .i64 0]) ∧ (Sys n Z ∧ GoodD n Z) ∧ Rw w' x (toZ Z) ∧ Below w.heap.size w w' := by
  have key : ∀ {Z}, Srtd (mkL n) Z → Sys n Z ∧ GoodD n Z := fun hS => sys_good h1 h3 (mkL_sys h3 h) hS (mkL_s3 n)
  by_cases h6 : n % 6 = 1
  · refine (Make_sk n w h1 h3 h6).mono ?_
    rintro e w' ⟨x, Z, rfl, hS, hR, hb⟩
    exact ⟨x, Z, rfl, key (by unfold mkL; rw [if_pos h6]; exact hS), hR, hb⟩
  · refine (Make_bo n w h1 h3 (by omega)).mono ?_
    rintro e w' ⟨x, Z, rfl, hS, hR, hb⟩
    exact ⟨x, Z, rfl, key (by unfold mkL; rw [if_neg h6]; exact hS), hR, hb⟩
theorem TCheck_sys (v : Nat) (B : List (List Nat)) (u : Value) (w : World) (s : Sys v B) (G : GoodD v B) (hu : Rw w u (toZ B)) :
    Calls Try.prog 13 #[.agg #[.int .i64 (v : Int), u]] w fun e w' => e = .returned (.int .i64 0) ∧ Below w.heap.size w w' := by
  obtain ⟨g1, g2⟩ := good_short G
  refine (TCheck_any v (toZ B) u w hu g1 g2).mono ?_
  rintro e w' ⟨f, rfl, hT, hb⟩
  rw [hT.same (.inr ⟨v, B, rfl, rfl, G, .inl ⟨s, rfl⟩⟩)]
  exact ⟨rfl, hb⟩
set_option maxRecDepth 100000 in
set_option maxHeartbeats 4000000 in
theorem Fact_any (w : World) : Calls Try.prog 23 #[] w fun e w' => e = .returned (.bool true) ∧ Below w.heap.size w w' := by
  have C1 : Hid (∀ W, Calls Try.prog 9 #[.int .i64 7] W fun e w' => ∃ x Z, e = .returned (.tuple #[.agg #[.int .i64 7, x], .int .i64 0]) ∧ (Sys 7 Z ∧ GoodD 7 Z) ∧ Rw w' x (toZ Z) ∧ Below W.heap.size W w') := fun W => Make_good 7 W (by omega) (by omega) (by omega)
  have HDB : Hid (∀ (p : Int) (y : Value) (W0 W : World), Below (W0.alloc (.cells #[.int .i64 p, y] 24)).heap.size (W0.alloc (.cells #[.int .i64 p, y] 24)) W → W.cell? ⟨W0.heap.size, 0, none⟩ = some (.int .i64 p) ∧ W.cell? ⟨W0.heap.size, 1, none⟩ = some y) := fun p y W0 W h => des_box p y W0 W h
  go_enter Try.func23, Try.ntmps23
  go_wp2_with (first
    | (go_at_call 9; refine (C1.out _).mono ?_; rintro e w1 ⟨x, Z, rfl, ⟨hs, hG⟩, hR, hB⟩; clear C1; obtain ⟨xa, xc, rfl⟩ := rw_form hR; have hl : Z.length = 7 := (by have := sys_len hs; omega); have bb := balloc w1 (.cells #[.int .i64 7, .slice xa Z.length xc] 24); have C2 : Hid (Calls Try.prog 13 #[.agg #[.int .i64 7, .slice xa Z.length xc]] (w1.alloc (.cells #[.int .i64 7, .slice xa Z.length xc] 24)) fun e w' => e = .returned (.int .i64 0) ∧ Below (w1.alloc (.cells #[.int .i64 7, .slice xa Z.length xc] 24)).heap.size (w1.alloc (.cells #[.int .i64 7, .slice xa Z.length xc] 24)) w') := TCheck_sys 7 Z _ _ hs hG (hR.below bb); have HB : Hid (Below w.heap.size w (w1.alloc (.cells #[.int .i64 7, .slice xa Z.length xc] 24))) := Below.next hB bb; rw [hl] at C2 HB ⊢; clear hs hG hR hB bb hl)
    | (go_at_call 13; refine C2.out.mono ?_; rintro e w2 ⟨rfl, hb⟩; clear C2; obtain ⟨k0, k1⟩ := HDB.out _ _ _ _ hb; have HB2 : Hid (Below w.heap.size w w2) := Below.next HB.out hb; clear hb))
  go_ret
  exact ⟨rfl, HB2.out⟩
/-- The answer of Check is one. -/
theorem TCheck_one (p : Int) (ls : List (List Int)) : ∃ f : Int, TfT p ls f ∧ (f = 0 → ∃ v B, p = ((v : Nat) : Int) ∧ ls = toZ B ∧ GoodD v B ∧ Sys v B) := by
  by_cases hz : dF p ls = 0
  · obtain ⟨v, B, e1, e2, G⟩ := dF_ok hz
    by_cases hs : Sys v B
    · exact ⟨0, .inr ⟨v, B, e1, e2, G, .inl ⟨hs, rfl⟩⟩, fun _ => ⟨v, B, e1, e2, G, hs⟩⟩
    · exact ⟨4, .inr ⟨v, B, e1, e2, G, .inr ⟨hs, rfl⟩⟩, fun h => by omega⟩
  · exact ⟨dF p ls, .inl ⟨hz, rfl⟩, fun h => by omega⟩
/-- The walks of the law, one a case. -/
theorem kirk_cases : True := trivial
set_option maxRecDepth 100000 in
set_option maxHeartbeats 4000000 in
theorem Kirk_low_ok (v : Int) (hv : v < 1) (q : Nat) (hq : 1 ≤ q ∧ q ≤ 40) (hq6 : q % 6 = 1 ∨ q % 6 = 3) (n : Nat) (u : Value) (w : World) (hu : ∃ a c, u = .slice a n c)
    (C2 : ∀ W, Below w.heap.size w W → Calls Try.prog 13 #[.agg #[.int .i64 (q : Int), u]] W fun e w' => e = .returned (.int .i64 0) ∧ Below W.heap.size W w') :
    Calls Try.prog 7 #[.int .i64 v, .agg #[.int .i64 (q : Int), u]] w fun e w' => e = .returned (.bool true) ∧ Below w.heap.size w w' := by
  have HM : Hid (∀ W, Calls Try.prog 9 #[.int .i64 v] W fun e w' => e = .returned (.tuple #[.agg #[.int .i64 0, .slice none 0 0], .int .i64 1]) ∧ Below W.heap.size W w') := fun W => Make_far v W (.inl hv)
  have HC : Hid (∀ W, Below (w.alloc (.cells #[.int .i64 (q : Int), u] 24)).heap.size (w.alloc (.cells #[.int .i64 (q : Int), u] 24)) W → W.cell? ⟨w.heap.size, 0, none⟩ = some (.int .i64 (q : Int)) ∧ W.cell? ⟨w.heap.size, 1, none⟩ = some u) := des_box (q : Int) u w
  have HB0 : Hid (Below w.heap.size w (w.alloc (.cells #[.int .i64 (q : Int), u] 24))) := balloc _ _
  have HZ0 : Hid ((w.alloc (.cells #[.int .i64 (q : Int), u] 24)).heap.size = w.heap.size + 1) := by show _ = _; simp
  obtain ⟨w0, Hw0⟩ : ∃ w0, Hid (w0 = w.alloc (.cells #[.int .i64 (q : Int), u] 24)) := ⟨_, rfl⟩
  rw [← Hw0.out] at HC HB0 HZ0
  have HF : Hid (∀ W, Calls Try.prog 23 #[] W fun e w' => e = .returned (.bool true) ∧ Below W.heap.size W w') := Fact_any
  have HDB : Hid (∀ (p : Int) (y : Value) (W0 W : World), Below (W0.alloc (.cells #[.int .i64 p, y] 24)).heap.size (W0.alloc (.cells #[.int .i64 p, y] 24)) W → W.cell? ⟨W0.heap.size, 0, none⟩ = some (.int .i64 p) ∧ W.cell? ⟨W0.heap.size, 1, none⟩ = some y) := fun p y W0 W h => des_box p y W0 W h
  obtain ⟨ua, uc, rfl⟩ := hu
  have HC2 : Hid (∀ W, Below w.heap.size w W → Calls Try.prog 13 #[.agg #[.int .i64 (q : Int), .slice ua n uc]] W fun e w' => e = .returned (.int .i64 0) ∧ Below W.heap.size W w') := C2
  clear C2
  have d1 : decide (v ≥ 1) = false := by simp; omega
  have d1' : decide (1 ≤ v) = false := by simp; omega
  have d2 : ¬ 1 ≤ v := by omega
  obtain ⟨hq1, hq2⟩ := hq
  have hqm : (q : Int).tmod 6 = ((q % 6 : Nat) : Int) := by rw [Int.tmod_eq_emod_of_nonneg (by omega)]; rfl
  generalize q % 6 = q6 at *
  rcases hq6 with rfl | rfl
  · go_enter Try.func7, Try.ntmps7
    go_wp2_with (first
      | (go_at_call 23; rw [← Hw0.out]; refine (HF.out _).mono ?_; rintro e w1 ⟨rfl, hb⟩; clear HF; have HB1 : Hid (Below w.heap.size w w1) := Below.next HB0.out hb; have HK1 : Hid (Below w0.heap.size w0 w1) := hb; clear hb)
      | (go_at_call 9; refine (HM.out _).mono ?_; rintro e w2 ⟨rfl, hb⟩; clear HM; have bb := balloc w2 (.cells #[.int .i64 0, .slice none 0 0] 24); have HB2 : Hid (Below w.heap.size w (w2.alloc (.cells #[.int .i64 0, .slice none 0 0] 24))) := Below.next HB1.out (Below.next hb bb); have HK2 : Hid (Below w0.heap.size w0 (w2.alloc (.cells #[.int .i64 0, .slice none 0 0] 24))) := Below.next HK1.out (Below.next hb bb); obtain ⟨y0, y1⟩ := HC.out _ HK2.out; clear hb bb)
      | (go_at_call 13; refine (HC2.out _ HB2.out).mono ?_; rintro e w4 ⟨rfl, hb⟩; clear HC2; have HB4 : Hid (Below w.heap.size w w4) := Below.next HB2.out hb; obtain ⟨z0, z1⟩ := HC.out _ (Below.next HK2.out hb); clear hb))
    go_ret
    exact ⟨rfl, HB4.out⟩
  · go_enter Try.func7, Try.ntmps7
    go_wp2_with (first
      | (go_at_call 23; rw [← Hw0.out]; refine (HF.out _).mono ?_; rintro e w1 ⟨rfl, hb⟩; clear HF; have HB1 : Hid (Below w.heap.size w w1) := Below.next HB0.out hb; have HK1 : Hid (Below w0.heap.size w0 w1) := hb; clear hb)
      | (go_at_call 9; refine (HM.out _).mono ?_; rintro e w2 ⟨rfl, hb⟩; clear HM; have bb := balloc w2 (.cells #[.int .i64 0, .slice none 0 0] 24); have HB2 : Hid (Below w.heap.size w (w2.alloc (.cells #[.int .i64 0, .slice none 0 0] 24))) := Below.next HB1.out (Below.next hb bb); have HK2 : Hid (Below w0.heap.size w0 (w2.alloc (.cells #[.int .i64 0, .slice none 0 0] 24))) := Below.next HK1.out (Below.next hb bb); obtain ⟨y0, y1⟩ := HC.out _ HK2.out; clear hb bb)
      | (go_at_call 13; refine (HC2.out _ HB2.out).mono ?_; rintro e w4 ⟨rfl, hb⟩; clear HC2; have HB4 : Hid (Below w.heap.size w w4) := Below.next HB2.out hb; obtain ⟨z0, z1⟩ := HC.out _ (Below.next HK2.out hb); clear hb))
    go_ret
    exact ⟨rfl, HB4.out⟩
set_option maxRecDepth 100000 in
set_option maxHeartbeats 4000000 in
theorem Kirk_low_no (v : Int) (hv : v < 1) (q f : Int) (hf : f ≠ 0) (n : Nat) (u : Value) (w : World) (hu : ∃ a c, u = .slice a n c)
    (C2 : ∀ W, Below w.heap.size w W → Calls Try.prog 13 #[.agg #[.int .i64 q, u]] W fun e w' => e = .returned (.int .i64 f) ∧ Below W.heap.size W w') :
    Calls Try.prog 7 #[.int .i64 v, .agg #[.int .i64 q, u]] w fun e w' => e = .returned (.bool true) ∧ Below w.heap.size w w' := by
  have HM : Hid (∀ W, Calls Try.prog 9 #[.int .i64 v] W fun e w' => e = .returned (.tuple #[.agg #[.int .i64 0, .slice none 0 0], .int .i64 1]) ∧ Below W.heap.size W w') := fun W => Make_far v W (.inl hv)
  have HC : Hid (∀ W, Below (w.alloc (.cells #[.int .i64 q, u] 24)).heap.size (w.alloc (.cells #[.int .i64 q, u] 24)) W → W.cell? ⟨w.heap.size, 0, none⟩ = some (.int .i64 q) ∧ W.cell? ⟨w.heap.size, 1, none⟩ = some u) := des_box q u w
  have HB0 : Hid (Below w.heap.size w (w.alloc (.cells #[.int .i64 q, u] 24))) := balloc _ _
  have HZ0 : Hid ((w.alloc (.cells #[.int .i64 q, u] 24)).heap.size = w.heap.size + 1) := by show _ = _; simp
  obtain ⟨w0, Hw0⟩ : ∃ w0, Hid (w0 = w.alloc (.cells #[.int .i64 q, u] 24)) := ⟨_, rfl⟩
  rw [← Hw0.out] at HC HB0 HZ0
  have HF : Hid (∀ W, Calls Try.prog 23 #[] W fun e w' => e = .returned (.bool true) ∧ Below W.heap.size W w') := Fact_any
  have HDB : Hid (∀ (p : Int) (y : Value) (W0 W : World), Below (W0.alloc (.cells #[.int .i64 p, y] 24)).heap.size (W0.alloc (.cells #[.int .i64 p, y] 24)) W → W.cell? ⟨W0.heap.size, 0, none⟩ = some (.int .i64 p) ∧ W.cell? ⟨W0.heap.size, 1, none⟩ = some y) := fun p y W0 W h => des_box p y W0 W h
  obtain ⟨ua, uc, rfl⟩ := hu
  have HC2 : Hid (∀ W, Below w.heap.size w W → Calls Try.prog 13 #[.agg #[.int .i64 q, .slice ua n uc]] W fun e w' => e = .returned (.int .i64 f) ∧ Below W.heap.size W w') := C2
  clear C2
  have d1 : decide (v ≥ 1) = false := by simp; omega
  have d1' : decide (1 ≤ v) = false := by simp; omega
  have d2 : ¬ 1 ≤ v := by omega
  have g1 : (f != 0) = true := by simp; omega
  have g2 : ¬ f = 0 := hf
  go_enter Try.func7, Try.ntmps7
  go_wp2_with (first
    | (go_at_call 23; rw [← Hw0.out]; refine (HF.out _).mono ?_; rintro e w1 ⟨rfl, hb⟩; clear HF; have HB1 : Hid (Below w.heap.size w w1) := Below.next HB0.out hb; have HK1 : Hid (Below w0.heap.size w0 w1) := hb; clear hb)
    | (go_at_call 9; refine (HM.out _).mono ?_; rintro e w2 ⟨rfl, hb⟩; clear HM; have bb := balloc w2 (.cells #[.int .i64 0, .slice none 0 0] 24); have HB2 : Hid (Below w.heap.size w (w2.alloc (.cells #[.int .i64 0, .slice none 0 0] 24))) := Below.next HB1.out (Below.next hb bb); have HK2 : Hid (Below w0.heap.size w0 (w2.alloc (.cells #[.int .i64 0, .slice none 0 0] 24))) := Below.next HK1.out (Below.next hb bb); obtain ⟨y0, y1⟩ := HC.out _ HK2.out; clear hb bb)
    | (go_at_call 13; refine (HC2.out _ HB2.out).mono ?_; rintro e w4 ⟨rfl, hb⟩; clear HC2; have HB4 : Hid (Below w.heap.size w w4) := Below.next HB2.out hb; obtain ⟨z0, z1⟩ := HC.out _ (Below.next HK2.out hb); clear hb))
  go_ret
  exact ⟨rfl, HB4.out⟩
set_option maxRecDepth 100000 in
set_option maxHeartbeats 4000000 in
theorem Kirk_high_ok (v : Int) (hv : 33 < v) (q : Nat) (hq : 1 ≤ q ∧ q ≤ 40) (hq6 : q % 6 = 1 ∨ q % 6 = 3) (n : Nat) (u : Value) (w : World) (hu : ∃ a c, u = .slice a n c)
    (C2 : ∀ W, Below w.heap.size w W → Calls Try.prog 13 #[.agg #[.int .i64 (q : Int), u]] W fun e w' => e = .returned (.int .i64 0) ∧ Below W.heap.size W w') :
    Calls Try.prog 7 #[.int .i64 v, .agg #[.int .i64 (q : Int), u]] w fun e w' => e = .returned (.bool true) ∧ Below w.heap.size w w' := by
  have HM : Hid (∀ W, Calls Try.prog 9 #[.int .i64 v] W fun e w' => e = .returned (.tuple #[.agg #[.int .i64 0, .slice none 0 0], .int .i64 1]) ∧ Below W.heap.size W w') := fun W => Make_far v W (.inr hv)
  have HC : Hid (∀ W, Below (w.alloc (.cells #[.int .i64 (q : Int), u] 24)).heap.size (w.alloc (.cells #[.int .i64 (q : Int), u] 24)) W → W.cell? ⟨w.heap.size, 0, none⟩ = some (.int .i64 (q : Int)) ∧ W.cell? ⟨w.heap.size, 1, none⟩ = some u) := des_box (q : Int) u w
  have HB0 : Hid (Below w.heap.size w (w.alloc (.cells #[.int .i64 (q : Int), u] 24))) := balloc _ _
  have HZ0 : Hid ((w.alloc (.cells #[.int .i64 (q : Int), u] 24)).heap.size = w.heap.size + 1) := by show _ = _; simp
  obtain ⟨w0, Hw0⟩ : ∃ w0, Hid (w0 = w.alloc (.cells #[.int .i64 (q : Int), u] 24)) := ⟨_, rfl⟩
  rw [← Hw0.out] at HC HB0 HZ0
  have HF : Hid (∀ W, Calls Try.prog 23 #[] W fun e w' => e = .returned (.bool true) ∧ Below W.heap.size W w') := Fact_any
  have HDB : Hid (∀ (p : Int) (y : Value) (W0 W : World), Below (W0.alloc (.cells #[.int .i64 p, y] 24)).heap.size (W0.alloc (.cells #[.int .i64 p, y] 24)) W → W.cell? ⟨W0.heap.size, 0, none⟩ = some (.int .i64 p) ∧ W.cell? ⟨W0.heap.size, 1, none⟩ = some y) := fun p y W0 W h => des_box p y W0 W h
  obtain ⟨ua, uc, rfl⟩ := hu
  have HC2 : Hid (∀ W, Below w.heap.size w W → Calls Try.prog 13 #[.agg #[.int .i64 (q : Int), .slice ua n uc]] W fun e w' => e = .returned (.int .i64 0) ∧ Below W.heap.size W w') := C2
  clear C2
  have d1 : decide (v ≥ 1) = true := by simp; omega
  have d1' : decide (1 ≤ v) = true := by simp; omega
  have d2 : 1 ≤ v := by omega
  have d3 : decide (v ≤ 33) = false := by simp; omega
  have d4 : ¬ v ≤ 33 := by omega
  obtain ⟨hq1, hq2⟩ := hq
  have hqm : (q : Int).tmod 6 = ((q % 6 : Nat) : Int) := by rw [Int.tmod_eq_emod_of_nonneg (by omega)]; rfl
  generalize q % 6 = q6 at *
  rcases hq6 with rfl | rfl
  · go_enter Try.func7, Try.ntmps7
    go_wp2_with (first
      | (go_at_call 23; rw [← Hw0.out]; refine (HF.out _).mono ?_; rintro e w1 ⟨rfl, hb⟩; clear HF; have HB1 : Hid (Below w.heap.size w w1) := Below.next HB0.out hb; have HK1 : Hid (Below w0.heap.size w0 w1) := hb; clear hb)
      | (go_at_call 9; refine (HM.out _).mono ?_; rintro e w2 ⟨rfl, hb⟩; clear HM; have bb := balloc w2 (.cells #[.int .i64 0, .slice none 0 0] 24); have HB2 : Hid (Below w.heap.size w (w2.alloc (.cells #[.int .i64 0, .slice none 0 0] 24))) := Below.next HB1.out (Below.next hb bb); have HK2 : Hid (Below w0.heap.size w0 (w2.alloc (.cells #[.int .i64 0, .slice none 0 0] 24))) := Below.next HK1.out (Below.next hb bb); obtain ⟨y0, y1⟩ := HC.out _ HK2.out; clear hb bb)
      | (go_at_call 13; refine (HC2.out _ HB2.out).mono ?_; rintro e w4 ⟨rfl, hb⟩; clear HC2; have HB4 : Hid (Below w.heap.size w w4) := Below.next HB2.out hb; obtain ⟨z0, z1⟩ := HC.out _ (Below.next HK2.out hb); clear hb))
    go_ret
    exact ⟨rfl, HB4.out⟩
  · go_enter Try.func7, Try.ntmps7
    go_wp2_with (first
      | (go_at_call 23; rw [← Hw0.out]; refine (HF.out _).mono ?_; rintro e w1 ⟨rfl, hb⟩; clear HF; have HB1 : Hid (Below w.heap.size w w1) := Below.next HB0.out hb; have HK1 : Hid (Below w0.heap.size w0 w1) := hb; clear hb)
      | (go_at_call 9; refine (HM.out _).mono ?_; rintro e w2 ⟨rfl, hb⟩; clear HM; have bb := balloc w2 (.cells #[.int .i64 0, .slice none 0 0] 24); have HB2 : Hid (Below w.heap.size w (w2.alloc (.cells #[.int .i64 0, .slice none 0 0] 24))) := Below.next HB1.out (Below.next hb bb); have HK2 : Hid (Below w0.heap.size w0 (w2.alloc (.cells #[.int .i64 0, .slice none 0 0] 24))) := Below.next HK1.out (Below.next hb bb); obtain ⟨y0, y1⟩ := HC.out _ HK2.out; clear hb bb)
      | (go_at_call 13; refine (HC2.out _ HB2.out).mono ?_; rintro e w4 ⟨rfl, hb⟩; clear HC2; have HB4 : Hid (Below w.heap.size w w4) := Below.next HB2.out hb; obtain ⟨z0, z1⟩ := HC.out _ (Below.next HK2.out hb); clear hb))
    go_ret
    exact ⟨rfl, HB4.out⟩
set_option maxRecDepth 100000 in
set_option maxHeartbeats 4000000 in
theorem Kirk_high_no (v : Int) (hv : 33 < v) (q f : Int) (hf : f ≠ 0) (n : Nat) (u : Value) (w : World) (hu : ∃ a c, u = .slice a n c)
    (C2 : ∀ W, Below w.heap.size w W → Calls Try.prog 13 #[.agg #[.int .i64 q, u]] W fun e w' => e = .returned (.int .i64 f) ∧ Below W.heap.size W w') :
    Calls Try.prog 7 #[.int .i64 v, .agg #[.int .i64 q, u]] w fun e w' => e = .returned (.bool true) ∧ Below w.heap.size w w' := by
  have HM : Hid (∀ W, Calls Try.prog 9 #[.int .i64 v] W fun e w' => e = .returned (.tuple #[.agg #[.int .i64 0, .slice none 0 0], .int .i64 1]) ∧ Below W.heap.size W w') := fun W => Make_far v W (.inr hv)
  have HC : Hid (∀ W, Below (w.alloc (.cells #[.int .i64 q, u] 24)).heap.size (w.alloc (.cells #[.int .i64 q, u] 24)) W → W.cell? ⟨w.heap.size, 0, none⟩ = some (.int .i64 q) ∧ W.cell? ⟨w.heap.size, 1, none⟩ = some u) := des_box q u w
  have HB0 : Hid (Below w.heap.size w (w.alloc (.cells #[.int .i64 q, u] 24))) := balloc _ _
  have HZ0 : Hid ((w.alloc (.cells #[.int .i64 q, u] 24)).heap.size = w.heap.size + 1) := by show _ = _; simp
  obtain ⟨w0, Hw0⟩ : ∃ w0, Hid (w0 = w.alloc (.cells #[.int .i64 q, u] 24)) := ⟨_, rfl⟩
  rw [← Hw0.out] at HC HB0 HZ0
  have HF : Hid (∀ W, Calls Try.prog 23 #[] W fun e w' => e = .returned (.bool true) ∧ Below W.heap.size W w') := Fact_any
  have HDB : Hid (∀ (p : Int) (y : Value) (W0 W : World), Below (W0.alloc (.cells #[.int .i64 p, y] 24)).heap.size (W0.alloc (.cells #[.int .i64 p, y] 24)) W → W.cell? ⟨W0.heap.size, 0, none⟩ = some (.int .i64 p) ∧ W.cell? ⟨W0.heap.size, 1, none⟩ = some y) := fun p y W0 W h => des_box p y W0 W h
  obtain ⟨ua, uc, rfl⟩ := hu
  have HC2 : Hid (∀ W, Below w.heap.size w W → Calls Try.prog 13 #[.agg #[.int .i64 q, .slice ua n uc]] W fun e w' => e = .returned (.int .i64 f) ∧ Below W.heap.size W w') := C2
  clear C2
  have d1 : decide (v ≥ 1) = true := by simp; omega
  have d1' : decide (1 ≤ v) = true := by simp; omega
  have d2 : 1 ≤ v := by omega
  have d3 : decide (v ≤ 33) = false := by simp; omega
  have d4 : ¬ v ≤ 33 := by omega
  have g1 : (f != 0) = true := by simp; omega
  have g2 : ¬ f = 0 := hf
  go_enter Try.func7, Try.ntmps7
  go_wp2_with (first
    | (go_at_call 23; rw [← Hw0.out]; refine (HF.out _).mono ?_; rintro e w1 ⟨rfl, hb⟩; clear HF; have HB1 : Hid (Below w.heap.size w w1) := Below.next HB0.out hb; have HK1 : Hid (Below w0.heap.size w0 w1) := hb; clear hb)
    | (go_at_call 9; refine (HM.out _).mono ?_; rintro e w2 ⟨rfl, hb⟩; clear HM; have bb := balloc w2 (.cells #[.int .i64 0, .slice none 0 0] 24); have HB2 : Hid (Below w.heap.size w (w2.alloc (.cells #[.int .i64 0, .slice none 0 0] 24))) := Below.next HB1.out (Below.next hb bb); have HK2 : Hid (Below w0.heap.size w0 (w2.alloc (.cells #[.int .i64 0, .slice none 0 0] 24))) := Below.next HK1.out (Below.next hb bb); obtain ⟨y0, y1⟩ := HC.out _ HK2.out; clear hb bb)
    | (go_at_call 13; refine (HC2.out _ HB2.out).mono ?_; rintro e w4 ⟨rfl, hb⟩; clear HC2; have HB4 : Hid (Below w.heap.size w w4) := Below.next HB2.out hb; obtain ⟨z0, z1⟩ := HC.out _ (Below.next HK2.out hb); clear hb))
  go_ret
  exact ⟨rfl, HB4.out⟩
set_option maxRecDepth 100000 in
set_option maxHeartbeats 4000000 in
theorem Kirk_none_ok (v n6 : Nat) (hv : 1 ≤ v ∧ v ≤ 33) (h6 : v % 6 = n6) (hn : n6 ≠ 1 ∧ n6 ≠ 3) (q : Nat) (hq : 1 ≤ q ∧ q ≤ 40) (hq6 : q % 6 = 1 ∨ q % 6 = 3) (n : Nat) (u : Value) (w : World) (hu : ∃ a c, u = .slice a n c)
    (C2 : ∀ W, Below w.heap.size w W → Calls Try.prog 13 #[.agg #[.int .i64 (q : Int), u]] W fun e w' => e = .returned (.int .i64 0) ∧ Below W.heap.size W w') :
    Calls Try.prog 7 #[.int .i64 (v : Int), .agg #[.int .i64 (q : Int), u]] w fun e w' => e = .returned (.bool true) ∧ Below w.heap.size w w' := by
  have HM : Hid (∀ W, Calls Try.prog 9 #[.int .i64 (v : Int)] W fun e w' => e = .returned (.tuple #[.agg #[.int .i64 0, .slice none 0 0], .int .i64 4]) ∧ Below W.heap.size W w') := fun W => Make_none v W hv.1 hv.2 (by omega) (by omega)
  have HC : Hid (∀ W, Below (w.alloc (.cells #[.int .i64 (q : Int), u] 24)).heap.size (w.alloc (.cells #[.int .i64 (q : Int), u] 24)) W → W.cell? ⟨w.heap.size, 0, none⟩ = some (.int .i64 (q : Int)) ∧ W.cell? ⟨w.heap.size, 1, none⟩ = some u) := des_box (q : Int) u w
  have HB0 : Hid (Below w.heap.size w (w.alloc (.cells #[.int .i64 (q : Int), u] 24))) := balloc _ _
  have HZ0 : Hid ((w.alloc (.cells #[.int .i64 (q : Int), u] 24)).heap.size = w.heap.size + 1) := by show _ = _; simp
  obtain ⟨w0, Hw0⟩ : ∃ w0, Hid (w0 = w.alloc (.cells #[.int .i64 (q : Int), u] 24)) := ⟨_, rfl⟩
  rw [← Hw0.out] at HC HB0 HZ0
  have HF : Hid (∀ W, Calls Try.prog 23 #[] W fun e w' => e = .returned (.bool true) ∧ Below W.heap.size W w') := Fact_any
  have HDB : Hid (∀ (p : Int) (y : Value) (W0 W : World), Below (W0.alloc (.cells #[.int .i64 p, y] 24)).heap.size (W0.alloc (.cells #[.int .i64 p, y] 24)) W → W.cell? ⟨W0.heap.size, 0, none⟩ = some (.int .i64 p) ∧ W.cell? ⟨W0.heap.size, 1, none⟩ = some y) := fun p y W0 W h => des_box p y W0 W h
  obtain ⟨ua, uc, rfl⟩ := hu
  have HC2 : Hid (∀ W, Below w.heap.size w W → Calls Try.prog 13 #[.agg #[.int .i64 (q : Int), .slice ua n uc]] W fun e w' => e = .returned (.int .i64 0) ∧ Below W.heap.size W w') := C2
  clear C2
  obtain ⟨hv1, hv2⟩ := hv
  have d1 : decide ((v : Int) ≥ 1) = true := by simp; omega
  have d1' : decide (1 ≤ (v : Int)) = true := by simp; omega
  have d2 : 1 ≤ (v : Int) := by omega
  have d3 : decide ((v : Int) ≤ 33) = true := by simp; omega
  have d4 : (v : Int) ≤ 33 := by omega
  have hm : (v : Int).tmod 6 = (n6 : Int) := by rw [Int.tmod_eq_emod_of_nonneg (by omega)]; omega
  have hn6 : n6 < 6 := by omega
  have e1 : ((n6 : Int) == 1) = false := by simp; omega
  have e2 : ((n6 : Int) == 3) = false := by simp; omega
  have e3 : ¬ (n6 : Int) = 1 := by omega
  have e4 : ¬ (n6 : Int) = 3 := by omega
  clear h6 hn
  obtain ⟨hq1, hq2⟩ := hq
  have hqm : (q : Int).tmod 6 = ((q % 6 : Nat) : Int) := by rw [Int.tmod_eq_emod_of_nonneg (by omega)]; rfl
  generalize q % 6 = q6 at *
  rcases hq6 with rfl | rfl
  · go_enter Try.func7, Try.ntmps7
    go_wp2_with (first
      | (go_at_call 23; rw [← Hw0.out]; refine (HF.out _).mono ?_; rintro e w1 ⟨rfl, hb⟩; clear HF; have HB1 : Hid (Below w.heap.size w w1) := Below.next HB0.out hb; have HK1 : Hid (Below w0.heap.size w0 w1) := hb; clear hb)
      | (go_at_call 9; refine (HM.out _).mono ?_; rintro e w2 ⟨rfl, hb⟩; clear HM; have bb := balloc w2 (.cells #[.int .i64 0, .slice none 0 0] 24); have HB2 : Hid (Below w.heap.size w (w2.alloc (.cells #[.int .i64 0, .slice none 0 0] 24))) := Below.next HB1.out (Below.next hb bb); have HK2 : Hid (Below w0.heap.size w0 (w2.alloc (.cells #[.int .i64 0, .slice none 0 0] 24))) := Below.next HK1.out (Below.next hb bb); obtain ⟨y0, y1⟩ := HC.out _ HK2.out; clear hb bb)
      | (go_at_call 13; refine (HC2.out _ HB2.out).mono ?_; rintro e w4 ⟨rfl, hb⟩; clear HC2; have HB4 : Hid (Below w.heap.size w w4) := Below.next HB2.out hb; obtain ⟨z0, z1⟩ := HC.out _ (Below.next HK2.out hb); clear hb))
    go_ret
    exact ⟨rfl, HB4.out⟩
  · go_enter Try.func7, Try.ntmps7
    go_wp2_with (first
      | (go_at_call 23; rw [← Hw0.out]; refine (HF.out _).mono ?_; rintro e w1 ⟨rfl, hb⟩; clear HF; have HB1 : Hid (Below w.heap.size w w1) := Below.next HB0.out hb; have HK1 : Hid (Below w0.heap.size w0 w1) := hb; clear hb)
      | (go_at_call 9; refine (HM.out _).mono ?_; rintro e w2 ⟨rfl, hb⟩; clear HM; have bb := balloc w2 (.cells #[.int .i64 0, .slice none 0 0] 24); have HB2 : Hid (Below w.heap.size w (w2.alloc (.cells #[.int .i64 0, .slice none 0 0] 24))) := Below.next HB1.out (Below.next hb bb); have HK2 : Hid (Below w0.heap.size w0 (w2.alloc (.cells #[.int .i64 0, .slice none 0 0] 24))) := Below.next HK1.out (Below.next hb bb); obtain ⟨y0, y1⟩ := HC.out _ HK2.out; clear hb bb)
      | (go_at_call 13; refine (HC2.out _ HB2.out).mono ?_; rintro e w4 ⟨rfl, hb⟩; clear HC2; have HB4 : Hid (Below w.heap.size w w4) := Below.next HB2.out hb; obtain ⟨z0, z1⟩ := HC.out _ (Below.next HK2.out hb); clear hb))
    go_ret
    exact ⟨rfl, HB4.out⟩
set_option maxRecDepth 100000 in
set_option maxHeartbeats 4000000 in
theorem Kirk_none_no (v n6 : Nat) (hv : 1 ≤ v ∧ v ≤ 33) (h6 : v % 6 = n6) (hn : n6 ≠ 1 ∧ n6 ≠ 3) (q f : Int) (hf : f ≠ 0) (n : Nat) (u : Value) (w : World) (hu : ∃ a c, u = .slice a n c)
    (C2 : ∀ W, Below w.heap.size w W → Calls Try.prog 13 #[.agg #[.int .i64 q, u]] W fun e w' => e = .returned (.int .i64 f) ∧ Below W.heap.size W w') :
    Calls Try.prog 7 #[.int .i64 (v : Int), .agg #[.int .i64 q, u]] w fun e w' => e = .returned (.bool true) ∧ Below w.heap.size w w' := by
  have HM : Hid (∀ W, Calls Try.prog 9 #[.int .i64 (v : Int)] W fun e w' => e = .returned (.tuple #[.agg #[.int .i64 0, .slice none 0 0], .int .i64 4]) ∧ Below W.heap.size W w') := fun W => Make_none v W hv.1 hv.2 (by omega) (by omega)
  have HC : Hid (∀ W, Below (w.alloc (.cells #[.int .i64 q, u] 24)).heap.size (w.alloc (.cells #[.int .i64 q, u] 24)) W → W.cell? ⟨w.heap.size, 0, none⟩ = some (.int .i64 q) ∧ W.cell? ⟨w.heap.size, 1, none⟩ = some u) := des_box q u w
  have HB0 : Hid (Below w.heap.size w (w.alloc (.cells #[.int .i64 q, u] 24))) := balloc _ _
  have HZ0 : Hid ((w.alloc (.cells #[.int .i64 q, u] 24)).heap.size = w.heap.size + 1) := by show _ = _; simp
  obtain ⟨w0, Hw0⟩ : ∃ w0, Hid (w0 = w.alloc (.cells #[.int .i64 q, u] 24)) := ⟨_, rfl⟩
  rw [← Hw0.out] at HC HB0 HZ0
  have HF : Hid (∀ W, Calls Try.prog 23 #[] W fun e w' => e = .returned (.bool true) ∧ Below W.heap.size W w') := Fact_any
  have HDB : Hid (∀ (p : Int) (y : Value) (W0 W : World), Below (W0.alloc (.cells #[.int .i64 p, y] 24)).heap.size (W0.alloc (.cells #[.int .i64 p, y] 24)) W → W.cell? ⟨W0.heap.size, 0, none⟩ = some (.int .i64 p) ∧ W.cell? ⟨W0.heap.size, 1, none⟩ = some y) := fun p y W0 W h => des_box p y W0 W h
  obtain ⟨ua, uc, rfl⟩ := hu
  have HC2 : Hid (∀ W, Below w.heap.size w W → Calls Try.prog 13 #[.agg #[.int .i64 q, .slice ua n uc]] W fun e w' => e = .returned (.int .i64 f) ∧ Below W.heap.size W w') := C2
  clear C2
  obtain ⟨hv1, hv2⟩ := hv
  have d1 : decide ((v : Int) ≥ 1) = true := by simp; omega
  have d1' : decide (1 ≤ (v : Int)) = true := by simp; omega
  have d2 : 1 ≤ (v : Int) := by omega
  have d3 : decide ((v : Int) ≤ 33) = true := by simp; omega
  have d4 : (v : Int) ≤ 33 := by omega
  have hm : (v : Int).tmod 6 = (n6 : Int) := by rw [Int.tmod_eq_emod_of_nonneg (by omega)]; omega
  have hn6 : n6 < 6 := by omega
  have e1 : ((n6 : Int) == 1) = false := by simp; omega
  have e2 : ((n6 : Int) == 3) = false := by simp; omega
  have e3 : ¬ (n6 : Int) = 1 := by omega
  have e4 : ¬ (n6 : Int) = 3 := by omega
  clear h6 hn
  have g1 : (f != 0) = true := by simp; omega
  have g2 : ¬ f = 0 := hf
  go_enter Try.func7, Try.ntmps7
  go_wp2_with (first
    | (go_at_call 23; rw [← Hw0.out]; refine (HF.out _).mono ?_; rintro e w1 ⟨rfl, hb⟩; clear HF; have HB1 : Hid (Below w.heap.size w w1) := Below.next HB0.out hb; have HK1 : Hid (Below w0.heap.size w0 w1) := hb; clear hb)
    | (go_at_call 9; refine (HM.out _).mono ?_; rintro e w2 ⟨rfl, hb⟩; clear HM; have bb := balloc w2 (.cells #[.int .i64 0, .slice none 0 0] 24); have HB2 : Hid (Below w.heap.size w (w2.alloc (.cells #[.int .i64 0, .slice none 0 0] 24))) := Below.next HB1.out (Below.next hb bb); have HK2 : Hid (Below w0.heap.size w0 (w2.alloc (.cells #[.int .i64 0, .slice none 0 0] 24))) := Below.next HK1.out (Below.next hb bb); obtain ⟨y0, y1⟩ := HC.out _ HK2.out; clear hb bb)
    | (go_at_call 13; refine (HC2.out _ HB2.out).mono ?_; rintro e w4 ⟨rfl, hb⟩; clear HC2; have HB4 : Hid (Below w.heap.size w w4) := Below.next HB2.out hb; obtain ⟨z0, z1⟩ := HC.out _ (Below.next HK2.out hb); clear hb))
  go_ret
  exact ⟨rfl, HB4.out⟩

end Go.Proofs.Ytdeofjmgjhfkcaa
