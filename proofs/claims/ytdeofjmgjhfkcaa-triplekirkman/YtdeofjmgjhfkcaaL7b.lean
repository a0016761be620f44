/- The law TripleKirkman: where there is a system. -/
import Derived.Test.YtdeofjmgjhfkcaaL7
namespace Go.Proofs.Ytdeofjmgjhfkcaa
open Go.RowKit

theorem Level_sys (n : Nat) (Z : List (List Nat)) (u : Value) (w : World) (h2 : 2 ≤ n) (s : Sys n Z) (G : GoodD n Z) (hu : Rw w u (toZ Z)) :
    Calls Try.prog 24 #[.agg #[.int .i64 (n : Int), u], .int .i64 2] w fun e w' => e = .returned (.tuple #[.int .i64 3, .int .i64 1, .int .i64 0]) ∧ Below w.heap.size w w' := by
  refine (Level_any n 2 Z u w G hu).mono ?_
  rintro e w' ⟨h, hb⟩
  refine ⟨?_, hb⟩
  rcases h with ⟨h, _⟩ | ⟨m, hm, _, _, h⟩
  · omega
  · obtain rfl : m = 2 := by omega
    have hs := (sys_lev s.bl h2).1 s
    rcases h with ⟨k, l, ho, rfl⟩ | ⟨hn, _⟩
    · obtain ⟨rfl, rfl⟩ := ho.one h2 hs
      rfl
    · exact (hn ⟨3, 1, hs⟩).elim
theorem Level_one (Z : List (List Nat)) (u : Value) (w : World) (G : GoodD 1 Z) (hu : Rw w u (toZ Z)) :
    Calls Try.prog 24 #[.agg #[.int .i64 1, u], .int .i64 2] w fun e w' => e = .returned (.tuple #[.int .i64 0, .int .i64 0, .int .i64 1]) ∧ Below w.heap.size w w' := by
  refine (Level_any 1 2 Z u w G hu).mono ?_
  rintro e w' ⟨h, hb⟩
  refine ⟨?_, hb⟩
  rcases h with ⟨_, rfl⟩ | ⟨m, hm, _, h, _⟩
  · rfl
  · omega
set_option maxRecDepth 100000 in
set_option maxHeartbeats 4000000 in
theorem Kirk_one_ok  (q : Nat) (hq : 1 ≤ q ∧ q ≤ 40) (hq6 : q % 6 = 1 ∨ q % 6 = 3) (n : Nat) (u : Value) (w : World) (hu : ∃ a c, u = .slice a n c)
    (C2 : ∀ W, Below w.heap.size w W → Calls Try.prog 13 #[.agg #[.int .i64 (q : Int), u]] W fun e w' => e = .returned (.int .i64 0) ∧ Below W.heap.size W w') :
    Calls Try.prog 7 #[.int .i64 1, .agg #[.int .i64 (q : Int), u]] w fun e w' => e = .returned (.bool true) ∧ Below w.heap.size w w' := by
  have HM : Hid (∀ W, Calls Try.prog 9 #[.int .i64 1] W fun e w' => ∃ x Z, e = .returned (.tuple #[.agg #[.int .i64 1, x], .int .i64 0]) ∧ (Sys 1 Z ∧ GoodD 1 Z) ∧ Rw w' x (toZ Z) ∧ Below W.heap.size W w') := fun W => Make_good 1 W (by omega) (by omega) (by omega)
  have HLV : Hid (∀ (W : World) (Z : List (List Nat)) (x : Value), (Sys 1 Z ∧ GoodD 1 Z) → Rw W x (toZ Z) → Calls Try.prog 24 #[.agg #[.int .i64 1, x], .int .i64 2] W fun e w' => e = .returned (.tuple #[.int .i64 0, .int .i64 0, .int .i64 1]) ∧ Below W.heap.size W w') := fun W Z _ hz hR => Level_one Z _ W hz.2 hR
  have HC : Hid (∀ W, Below (w.alloc (.cells #[.int .i64 (q : Int), u] 24)).heap.size (w.alloc (.cells #[.int .i64 (q : Int), u] 24)) W → W.cell? ⟨w.heap.size, 0, none⟩ = some (.int .i64 (q : Int)) ∧ W.cell? ⟨w.heap.size, 1, none⟩ = some u) := des_box (q : Int) u w
  have HB0 : Hid (Below w.heap.size w (w.alloc (.cells #[.int .i64 (q : Int), u] 24))) := balloc _ _
  have HZ0 : Hid ((w.alloc (.cells #[.int .i64 (q : Int), u] 24)).heap.size = w.heap.size + 1) := by show _ = _; simp
  obtain ⟨w0, Hw0⟩ : ∃ w0, Hid (w0 = w.alloc (.cells #[.int .i64 (q : Int), u] 24)) := ⟨_, rfl⟩
  rw [← Hw0.out] at HC HB0 HZ0
  have HF : Hid (∀ W, Calls Try.prog 23 #[] W fun e w' => e = .returned (.bool true) ∧ Below W.heap.size W w') := Fact_any
  have HDB : Hid (∀ (p : Int) (y : Value) (W0 W : World), Below (W0.alloc (.cells #[.int .i64 p, y] 24)).heap.size (W0.alloc (.cells #[.int .i64 p, y] 24)) W → W.cell? ⟨W0.heap.size, 0, none⟩ = some (.int .i64 p) ∧ W.cell? ⟨W0.heap.size, 1, none⟩ = some y) := fun p y W0 W h => des_box p y W0 W h
  obtain ⟨ua, uc, rfl⟩ := hu
  have HC2 : Hid (∀ W, Below w.heap.size w W → Calls Try.prog 13 #[.agg #[.int .i64 (q : Int), .slice ua n uc]] W fun e w' => e = .returned (.int .i64 0) ∧ Below W.heap.size W w') := C2
  clear C2
  have HML : Hid (∀ Z : List (List Nat), (Sys 1 Z ∧ GoodD 1 Z) → Z.length = 0) := fun Z hz => by
    have := sys_len hz.1
    omega
  obtain ⟨hq1, hq2⟩ := hq
  have hqm : (q : Int).tmod 6 = ((q % 6 : Nat) : Int) := by rw [Int.tmod_eq_emod_of_nonneg (by omega)]; rfl
  generalize q % 6 = q6 at *
  rcases hq6 with rfl | rfl
  · go_enter Try.func7, Try.ntmps7
    go_wp2_with (first
      | (go_at_call 23; rw [← Hw0.out]; refine (HF.out _).mono ?_; rintro e w1 ⟨rfl, hb⟩; clear HF; have HB1 : Hid (Below w.heap.size w w1) := Below.next HB0.out hb; have HK1 : Hid (Below w0.heap.size w0 w1) := hb; clear hb)
      | (go_at_call 9; refine (HM.out _).mono ?_; rintro e w2 ⟨x, Z, rfl, hz, hR, hb⟩; clear HM; obtain ⟨xa, xc, rfl⟩ := rw_form hR; have bb := balloc w2 (.cells #[.int .i64 1, .slice xa Z.length xc] 24); have HB2 : Hid (Below w.heap.size w (w2.alloc (.cells #[.int .i64 1, .slice xa Z.length xc] 24))) := Below.next HB1.out (Below.next hb bb); have HK2 : Hid (Below w0.heap.size w0 (w2.alloc (.cells #[.int .i64 1, .slice xa Z.length xc] 24))) := Below.next HK1.out (Below.next hb bb); have HR : Hid (Rw (w2.alloc (.cells #[.int .i64 1, .slice xa Z.length xc] 24)) (.slice xa Z.length xc) (toZ Z)) := hR.below bb; have HLC : Hid (Calls Try.prog 24 #[.agg #[.int .i64 1, .slice xa Z.length xc], .int .i64 2] (w2.alloc (.cells #[.int .i64 1, .slice xa Z.length xc] 24)) fun e w' => e = .returned (.tuple #[.int .i64 0, .int .i64 0, .int .i64 1]) ∧ Below (w2.alloc (.cells #[.int .i64 1, .slice xa Z.length xc] 24)).heap.size (w2.alloc (.cells #[.int .i64 1, .slice xa Z.length xc] 24)) w') := HLV.out _ Z _ hz HR.out; have HM2 : Hid (∀ W, Below (w2.alloc (.cells #[.int .i64 1, .slice xa Z.length xc] 24)).heap.size (w2.alloc (.cells #[.int .i64 1, .slice xa Z.length xc] 24)) W → W.cell? ⟨w2.heap.size, 0, none⟩ = some (.int .i64 1) ∧ W.cell? ⟨w2.heap.size, 1, none⟩ = some (.slice xa Z.length xc)) := fun W h => HDB.out _ _ _ W h; have hml := HML.out Z hz; rw [hml] at HLC HR HB2 HK2 HM2 ⊢; clear hml; clear hb bb hR hz HLV HML)
      | (go_at_call 24; refine HLC.out.mono ?_; rintro e w3 ⟨rfl, hb⟩; clear HLC; obtain ⟨m0, m1⟩ := HM2.out _ hb; have HB3 : Hid (Below w.heap.size w w3) := Below.next HB2.out hb; have HK3 : Hid (Below w0.heap.size w0 w3) := Below.next HK2.out hb; obtain ⟨y0, y1⟩ := HC.out _ HK3.out; clear hb)
      | (go_at_call 13; refine (HC2.out _ HB3.out).mono ?_; rintro e w4 ⟨rfl, hb⟩; clear HC2; have HB4 : Hid (Below w.heap.size w w4) := Below.next HB3.out hb; obtain ⟨z0, z1⟩ := HC.out _ (Below.next HK3.out hb); clear hb))
    go_ret
    exact ⟨rfl, HB4.out⟩
  · go_enter Try.func7, Try.ntmps7
    go_wp2_with (first
      | (go_at_call 23; rw [← Hw0.out]; refine (HF.out _).mono ?_; rintro e w1 ⟨rfl, hb⟩; clear HF; have HB1 : Hid (Below w.heap.size w w1) := Below.next HB0.out hb; have HK1 : Hid (Below w0.heap.size w0 w1) := hb; clear hb)
      | (go_at_call 9; refine (HM.out _).mono ?_; rintro e w2 ⟨x, Z, rfl, hz, hR, hb⟩; clear HM; obtain ⟨xa, xc, rfl⟩ := rw_form hR; have bb := balloc w2 (.cells #[.int .i64 1, .slice xa Z.length xc] 24); have HB2 : Hid (Below w.heap.size w (w2.alloc (.cells #[.int .i64 1, .slice xa Z.length xc] 24))) := Below.next HB1.out (Below.next hb bb); have HK2 : Hid (Below w0.heap.size w0 (w2.alloc (.cells #[.int .i64 1, .slice xa Z.length xc] 24))) := Below.next HK1.out (Below.next hb bb); have HR : Hid (Rw (w2.alloc (.cells #[.int .i64 1, .slice xa Z.length xc] 24)) (.slice xa Z.length xc) (toZ Z)) := hR.below bb; have HLC : Hid (Calls Try.prog 24 #[.agg #[.int .i64 1, .slice xa Z.length xc], .int .i64 2] (w2.alloc (.cells #[.int .i64 1, .slice xa Z.length xc] 24)) fun e w' => e = .returned (.tuple #[.int .i64 0, .int .i64 0, .int .i64 1]) ∧ Below (w2.alloc (.cells #[.int .i64 1, .slice xa Z.length xc] 24)).heap.size (w2.alloc (.cells #[.int .i64 1, .slice xa Z.length xc] 24)) w') := HLV.out _ Z _ hz HR.out; have HM2 : Hid (∀ W, Below (w2.alloc (.cells #[.int .i64 1, .slice xa Z.length xc] 24)).heap.size (w2.alloc (.cells #[.int .i64 1, .slice xa Z.length xc] 24)) W → W.cell? ⟨w2.heap.size, 0, none⟩ = some (.int .i64 1) ∧ W.cell? ⟨w2.heap.size, 1, none⟩ = some (.slice xa Z.length xc)) := fun W h => HDB.out _ _ _ W h; have hml := HML.out Z hz; rw [hml] at HLC HR HB2 HK2 HM2 ⊢; clear hml; clear hb bb hR hz HLV HML)
      | (go_at_call 24; refine HLC.out.mono ?_; rintro e w3 ⟨rfl, hb⟩; clear HLC; obtain ⟨m0, m1⟩ := HM2.out _ hb; have HB3 : Hid (Below w.heap.size w w3) := Below.next HB2.out hb; have HK3 : Hid (Below w0.heap.size w0 w3) := Below.next HK2.out hb; obtain ⟨y0, y1⟩ := HC.out _ HK3.out; clear hb)
      | (go_at_call 13; refine (HC2.out _ HB3.out).mono ?_; rintro e w4 ⟨rfl, hb⟩; clear HC2; have HB4 : Hid (Below w.heap.size w w4) := Below.next HB3.out hb; obtain ⟨z0, z1⟩ := HC.out _ (Below.next HK3.out hb); clear hb))
    go_ret
    exact ⟨rfl, HB4.out⟩
set_option maxRecDepth 100000 in
set_option maxHeartbeats 4000000 in
theorem Kirk_one_no  (q f : Int) (hf : f ≠ 0) (n : Nat) (u : Value) (w : World) (hu : ∃ a c, u = .slice a n c)
    (C2 : ∀ W, Below w.heap.size w W → Calls Try.prog 13 #[.agg #[.int .i64 q, u]] W fun e w' => e = .returned (.int .i64 f) ∧ Below W.heap.size W w') :
    Calls Try.prog 7 #[.int .i64 1, .agg #[.int .i64 q, u]] w fun e w' => e = .returned (.bool true) ∧ Below w.heap.size w w' := by
  have HM : Hid (∀ W, Calls Try.prog 9 #[.int .i64 1] W fun e w' => ∃ x Z, e = .returned (.tuple #[.agg #[.int .i64 1, x], .int .i64 0]) ∧ (Sys 1 Z ∧ GoodD 1 Z) ∧ Rw w' x (toZ Z) ∧ Below W.heap.size W w') := fun W => Make_good 1 W (by omega) (by omega) (by omega)
  have HLV : Hid (∀ (W : World) (Z : List (List Nat)) (x : Value), (Sys 1 Z ∧ GoodD 1 Z) → Rw W x (toZ Z) → Calls Try.prog 24 #[.agg #[.int .i64 1, x], .int .i64 2] W fun e w' => e = .returned (.tuple #[.int .i64 0, .int .i64 0, .int .i64 1]) ∧ Below W.heap.size W w') := fun W Z _ hz hR => Level_one Z _ W hz.2 hR
  have HC : Hid (∀ W, Below (w.alloc (.cells #[.int .i64 q, u] 24)).heap.size (w.alloc (.cells #[.int .i64 q, u] 24)) W → W.cell? ⟨w.heap.size, 0, none⟩ = some (.int .i64 q) ∧ W.cell? ⟨w.heap.size, 1, none⟩ = some u) := des_box q u w
  have HB0 : Hid (Below w.heap.size w (w.alloc (.cells #[.int .i64 q, u] 24))) := balloc _ _
  have HZ0 : Hid ((w.alloc (.cells #[.int .i64 q, u] 24)).heap.size = w.heap.size + 1) := by show _ = _; simp
  obtain ⟨w0, Hw0⟩ : ∃ w0, Hid (w0 = w.alloc (.cells #[.int .i64 q, u] 24)) := ⟨_, rfl⟩
  rw [← Hw0.out] at HC HB0 HZ0
  have HF : Hid (∀ W, Calls Try.prog 23 #[] W fun e w' => e = .returned (.bool true) ∧ Below W.heap.size W w') := Fact_any
  have HDB : Hid (∀ (p : Int) (y : Value) (W0 W : World), Below (W0.alloc (.cells #[.int .i64 p, y] 24)).heap.size (W0.alloc (.cells #[.int .i64 p, y] 24)) W → W.cell? ⟨W0.heap.size, 0, none⟩ = some (.int .i64 p) ∧ W.cell? ⟨W0.heap.size, 1, none⟩ = some y) := fun p y W0 W h => des_box p y W0 W h
  obtain ⟨ua, uc, rfl⟩ := hu
  have HC2 : Hid (∀ W, Below w.heap.size w W → Calls Try.prog 13 #[.agg #[.int .i64 q, .slice ua n uc]] W fun e w' => e = .returned (.int .i64 f) ∧ Below W.heap.size W w') := C2
  clear C2
  have g1 : (f != 0) = true := by simp; omega
  have g2 : ¬ f = 0 := hf
  have HML : Hid (∀ Z : List (List Nat), (Sys 1 Z ∧ GoodD 1 Z) → Z.length = 0) := fun Z hz => by
    have := sys_len hz.1
    omega
  go_enter Try.func7, Try.ntmps7
  go_wp2_with (first
    | (go_at_call 23; rw [← Hw0.out]; refine (HF.out _).mono ?_; rintro e w1 ⟨rfl, hb⟩; clear HF; have HB1 : Hid (Below w.heap.size w w1) := Below.next HB0.out hb; have HK1 : Hid (Below w0.heap.size w0 w1) := hb; clear hb)
    | (go_at_call 9; refine (HM.out _).mono ?_; rintro e w2 ⟨x, Z, rfl, hz, hR, hb⟩; clear HM; obtain ⟨xa, xc, rfl⟩ := rw_form hR; have bb := balloc w2 (.cells #[.int .i64 1, .slice xa Z.length xc] 24); have HB2 : Hid (Below w.heap.size w (w2.alloc (.cells #[.int .i64 1, .slice xa Z.length xc] 24))) := Below.next HB1.out (Below.next hb bb); have HK2 : Hid (Below w0.heap.size w0 (w2.alloc (.cells #[.int .i64 1, .slice xa Z.length xc] 24))) := Below.next HK1.out (Below.next hb bb); have HR : Hid (Rw (w2.alloc (.cells #[.int .i64 1, .slice xa Z.length xc] 24)) (.slice xa Z.length xc) (toZ Z)) := hR.below bb; have HLC : Hid (Calls Try.prog 24 #[.agg #[.int .i64 1, .slice xa Z.length xc], .int .i64 2] (w2.alloc (.cells #[.int .i64 1, .slice xa Z.length xc] 24)) fun e w' => e = .returned (.tuple #[.int .i64 0, .int .i64 0, .int .i64 1]) ∧ Below (w2.alloc (.cells #[.int .i64 1, .slice xa Z.length xc] 24)).heap.size (w2.alloc (.cells #[.int .i64 1, .slice xa Z.length xc] 24)) w') := HLV.out _ Z _ hz HR.out; have HM2 : Hid (∀ W, Below (w2.alloc (.cells #[.int .i64 1, .slice xa Z.length xc] 24)).heap.size (w2.alloc (.cells #[.int .i64 1, .slice xa Z.length xc] 24)) W → W.cell? ⟨w2.heap.size, 0, none⟩ = some (.int .i64 1) ∧ W.cell? ⟨w2.heap.size, 1, none⟩ = some (.slice xa Z.length xc)) := fun W h => HDB.out _ _ _ W h; have hml := HML.out Z hz; rw [hml] at HLC HR HB2 HK2 HM2 ⊢; clear hml; clear hb bb hR hz HLV HML)
    | (go_at_call 24; refine HLC.out.mono ?_; rintro e w3 ⟨rfl, hb⟩; clear HLC; obtain ⟨m0, m1⟩ := HM2.out _ hb; have HB3 : Hid (Below w.heap.size w w3) := Below.next HB2.out hb; have HK3 : Hid (Below w0.heap.size w0 w3) := Below.next HK2.out hb; obtain ⟨y0, y1⟩ := HC.out _ HK3.out; clear hb)
    | (go_at_call 13; refine (HC2.out _ HB3.out).mono ?_; rintro e w4 ⟨rfl, hb⟩; clear HC2; have HB4 : Hid (Below w.heap.size w w4) := Below.next HB3.out hb; obtain ⟨z0, z1⟩ := HC.out _ (Below.next HK3.out hb); clear hb))
  go_ret
  exact ⟨rfl, HB4.out⟩
set_option maxRecDepth 100000 in
set_option maxHeartbeats 4000000 in
theorem Kirk_more_ok (v : Nat) (hv2 : 2 ≤ v) (hv3 : v ≤ 33) (h6 : v % 6 = 1 ∨ v % 6 = 3) (q : Nat) (hq : 1 ≤ q ∧ q ≤ 40) (hq6 : q % 6 = 1 ∨ q % 6 = 3) (n : Nat) (u : Value) (w : World) (hu : ∃ a c, u = .slice a n c)
    (C2 : ∀ W, Below w.heap.size w W → Calls Try.prog 13 #[.agg #[.int .i64 (q : Int), u]] W fun e w' => e = .returned (.int .i64 0) ∧ Below W.heap.size W w') :
    Calls Try.prog 7 #[.int .i64 (v : Int), .agg #[.int .i64 (q : Int), u]] w fun e w' => e = .returned (.bool true) ∧ Below w.heap.size w w' := by
  have HM : Hid (∀ W, Calls Try.prog 9 #[.int .i64 (v : Int)] W fun e w' => ∃ x Z, e = .returned (.tuple #[.agg #[.int .i64 (v : Int), x], .int .i64 0]) ∧ (Sys v Z ∧ GoodD v Z) ∧ Rw w' x (toZ Z) ∧ Below W.heap.size W w') := fun W => Make_good v W (by omega) hv3 h6
  have HLV : Hid (∀ (W : World) (Z : List (List Nat)) (x : Value), (Sys v Z ∧ GoodD v Z) → Rw W x (toZ Z) → Calls Try.prog 24 #[.agg #[.int .i64 (v : Int), x], .int .i64 2] W fun e w' => e = .returned (.tuple #[.int .i64 3, .int .i64 1, .int .i64 0]) ∧ Below W.heap.size W w') := fun W Z _ hz hR => Level_sys v Z _ W hv2 hz.1 hz.2 hR
  have HC : Hid (∀ W, Below (w.alloc (.cells #[.int .i64 (q : Int), u] 24)).heap.size (w.alloc (.cells #[.int .i64 (q : Int), u] 24)) W → W.cell? ⟨w.heap.size, 0, none⟩ = some (.int .i64 (q : Int)) ∧ W.cell? ⟨w.heap.size, 1, none⟩ = some u) := des_box (q : Int) u w
  have HB0 : Hid (Below w.heap.size w (w.alloc (.cells #[.int .i64 (q : Int), u] 24))) := balloc _ _
  have HZ0 : Hid ((w.alloc (.cells #[.int .i64 (q : Int), u] 24)).heap.size = w.heap.size + 1) := by show _ = _; simp
  obtain ⟨w0, Hw0⟩ : ∃ w0, Hid (w0 = w.alloc (.cells #[.int .i64 (q : Int), u] 24)) := ⟨_, rfl⟩
  rw [← Hw0.out] at HC HB0 HZ0
  have HF : Hid (∀ W, Calls Try.prog 23 #[] W fun e w' => e = .returned (.bool true) ∧ Below W.heap.size W w') := Fact_any
  have HDB : Hid (∀ (p : Int) (y : Value) (W0 W : World), Below (W0.alloc (.cells #[.int .i64 p, y] 24)).heap.size (W0.alloc (.cells #[.int .i64 p, y] 24)) W → W.cell? ⟨W0.heap.size, 0, none⟩ = some (.int .i64 p) ∧ W.cell? ⟨W0.heap.size, 1, none⟩ = some y) := fun p y W0 W h => des_box p y W0 W h
  obtain ⟨ua, uc, rfl⟩ := hu
  have HC2 : Hid (∀ W, Below w.heap.size w W → Calls Try.prog 13 #[.agg #[.int .i64 (q : Int), .slice ua n uc]] W fun e w' => e = .returned (.int .i64 0) ∧ Below W.heap.size W w') := C2
  clear C2
  have d1 : decide ((v : Int) > 1) = true := by simp; omega
  have d1' : decide (1 < (v : Int)) = true := by simp; omega
  have d2 : 1 < (v : Int) := by omega
  have HML : Hid (∀ Z : List (List Nat), (Sys v Z ∧ GoodD v Z) → (v : Int) * ((v : Int) - 1) = (Z.length : Int) * 6) := fun Z hz => by
    have := sys_len hz.1
    have e : ((v * (v - 1) : Nat) : Int) = (v : Int) * ((v : Int) - 1) := by rw [Int.natCast_mul, Int.natCast_sub (by omega)]; rfl
    rw [← e, ← this]; omega
  clear h6
  obtain ⟨hq1, hq2⟩ := hq
  have hqm : (q : Int).tmod 6 = ((q % 6 : Nat) : Int) := by rw [Int.tmod_eq_emod_of_nonneg (by omega)]; rfl
  generalize q % 6 = q6 at *
  rcases hq6 with rfl | rfl
  · go_enter Try.func7, Try.ntmps7
    go_wp2_with (first
      | (go_at_call 23; rw [← Hw0.out]; refine (HF.out _).mono ?_; rintro e w1 ⟨rfl, hb⟩; clear HF; have HB1 : Hid (Below w.heap.size w w1) := Below.next HB0.out hb; have HK1 : Hid (Below w0.heap.size w0 w1) := hb; clear hb)
      | (go_at_call 9; refine (HM.out _).mono ?_; rintro e w2 ⟨x, Z, rfl, hz, hR, hb⟩; clear HM; obtain ⟨xa, xc, rfl⟩ := rw_form hR; have bb := balloc w2 (.cells #[.int .i64 (v : Int), .slice xa Z.length xc] 24); have HB2 : Hid (Below w.heap.size w (w2.alloc (.cells #[.int .i64 (v : Int), .slice xa Z.length xc] 24))) := Below.next HB1.out (Below.next hb bb); have HK2 : Hid (Below w0.heap.size w0 (w2.alloc (.cells #[.int .i64 (v : Int), .slice xa Z.length xc] 24))) := Below.next HK1.out (Below.next hb bb); have HR : Hid (Rw (w2.alloc (.cells #[.int .i64 (v : Int), .slice xa Z.length xc] 24)) (.slice xa Z.length xc) (toZ Z)) := hR.below bb; have HLC : Hid (Calls Try.prog 24 #[.agg #[.int .i64 (v : Int), .slice xa Z.length xc], .int .i64 2] (w2.alloc (.cells #[.int .i64 (v : Int), .slice xa Z.length xc] 24)) fun e w' => e = .returned (.tuple #[.int .i64 3, .int .i64 1, .int .i64 0]) ∧ Below (w2.alloc (.cells #[.int .i64 (v : Int), .slice xa Z.length xc] 24)).heap.size (w2.alloc (.cells #[.int .i64 (v : Int), .slice xa Z.length xc] 24)) w') := HLV.out _ Z _ hz HR.out; have HM2 : Hid (∀ W, Below (w2.alloc (.cells #[.int .i64 (v : Int), .slice xa Z.length xc] 24)).heap.size (w2.alloc (.cells #[.int .i64 (v : Int), .slice xa Z.length xc] 24)) W → W.cell? ⟨w2.heap.size, 0, none⟩ = some (.int .i64 (v : Int)) ∧ W.cell? ⟨w2.heap.size, 1, none⟩ = some (.slice xa Z.length xc)) := fun W h => HDB.out _ _ _ W h; have hml := HML.out Z hz; have hz2 := hz.2.few; generalize Z.length = zl at *; clear hb bb hR hz HLV HML)
      | (go_at_call 24; refine HLC.out.mono ?_; rintro e w3 ⟨rfl, hb⟩; clear HLC; obtain ⟨m0, m1⟩ := HM2.out _ hb; have HB3 : Hid (Below w.heap.size w w3) := Below.next HB2.out hb; have HK3 : Hid (Below w0.heap.size w0 w3) := Below.next HK2.out hb; obtain ⟨y0, y1⟩ := HC.out _ HK3.out; clear hb)
      | (go_at_call 13; refine (HC2.out _ HB3.out).mono ?_; rintro e w4 ⟨rfl, hb⟩; clear HC2; have HB4 : Hid (Below w.heap.size w w4) := Below.next HB3.out hb; obtain ⟨z0, z1⟩ := HC.out _ (Below.next HK3.out hb); clear hb))
    go_ret
    exact ⟨rfl, HB4.out⟩
  · go_enter Try.func7, Try.ntmps7
    go_wp2_with (first
      | (go_at_call 23; rw [← Hw0.out]; refine (HF.out _).mono ?_; rintro e w1 ⟨rfl, hb⟩; clear HF; have HB1 : Hid (Below w.heap.size w w1) := Below.next HB0.out hb; have HK1 : Hid (Below w0.heap.size w0 w1) := hb; clear hb)
      | (go_at_call 9; refine (HM.out _).mono ?_; rintro e w2 ⟨x, Z, rfl, hz, hR, hb⟩; clear HM; obtain ⟨xa, xc, rfl⟩ := rw_form hR; have bb := balloc w2 (.cells #[.int .i64 (v : Int), .slice xa Z.length xc] 24); have HB2 : Hid (Below w.heap.size w (w2.alloc (.cells #[.int .i64 (v : Int), .slice xa Z.length xc] 24))) := Below.next HB1.out (Below.next hb bb); have HK2 : Hid (Below w0.heap.size w0 (w2.alloc (.cells #[.int .i64 (v : Int), .slice xa Z.length xc] 24))) := Below.next HK1.out (Below.next hb bb); have HR : Hid (Rw (w2.alloc (.cells #[.int .i64 (v : Int), .slice xa Z.length xc] 24)) (.slice xa Z.length xc) (toZ Z)) := hR.below bb; have HLC : Hid (Calls Try.prog 24 #[.agg #[.int .i64 (v : Int), .slice xa Z.length xc], .int .i64 2] (w2.alloc (.cells #[.int .i64 (v : Int), .slice xa Z.length xc] 24)) fun e w' => e = .returned (.tuple #[.int .i64 3, .int .i64 1, .int .i64 0]) ∧ Below (w2.alloc (.cells #[.int .i64 (v : Int), .slice xa Z.length xc] 24)).heap.size (w2.alloc (.cells #[.int .i64 (v : Int), .slice xa Z.length xc] 24)) w') := HLV.out _ Z _ hz HR.out; have HM2 : Hid (∀ W, Below (w2.alloc (.cells #[.int .i64 (v : Int), .slice xa Z.length xc] 24)).heap.size (w2.alloc (.cells #[.int .i64 (v : Int), .slice xa Z.length xc] 24)) W → W.cell? ⟨w2.heap.size, 0, none⟩ = some (.int .i64 (v : Int)) ∧ W.cell? ⟨w2.heap.size, 1, none⟩ = some (.slice xa Z.length xc)) := fun W h => HDB.out _ _ _ W h; have hml := HML.out Z hz; have hz2 := hz.2.few; generalize Z.length = zl at *; clear hb bb hR hz HLV HML)
      | (go_at_call 24; refine HLC.out.mono ?_; rintro e w3 ⟨rfl, hb⟩; clear HLC; obtain ⟨m0, m1⟩ := HM2.out _ hb; have HB3 : Hid (Below w.heap.size w w3) := Below.next HB2.out hb; have HK3 : Hid (Below w0.heap.size w0 w3) := Below.next HK2.out hb; obtain ⟨y0, y1⟩ := HC.out _ HK3.out; clear hb)
      | (go_at_call 13; refine (HC2.out _ HB3.out).mono ?_; rintro e w4 ⟨rfl, hb⟩; clear HC2; have HB4 : Hid (Below w.heap.size w w4) := Below.next HB3.out hb; obtain ⟨z0, z1⟩ := HC.out _ (Below.next HK3.out hb); clear hb))
    go_ret
    exact ⟨rfl, HB4.out⟩
set_option maxRecDepth 100000 in
set_option maxHeartbeats 4000000 in
theorem Kirk_more_no (v : Nat) (hv2 : 2 ≤ v) (hv3 : v ≤ 33) (h6 : v % 6 = 1 ∨ v % 6 = 3) (q f : Int) (hf : f ≠ 0) (n : Nat) (u : Value) (w : World) (hu : ∃ a c, u = .slice a n c)
    (C2 : ∀ W, Below w.heap.size w W → Calls Try.prog 13 #[.agg #[.int .i64 q, u]] W fun e w' => e = .returned (.int .i64 f) ∧ Below W.heap.size W w') :
    Calls Try.prog 7 #[.int .i64 (v : Int), .agg #[.int .i64 q, u]] w fun e w' => e = .returned (.bool true) ∧ Below w.heap.size w w' := by
  have HM : Hid (∀ W, Calls Try.prog 9 #[.int .i64 (v : Int)] W fun e w' => ∃ x Z, e = .returned (.tuple #[.agg #[.int .i64 (v : Int), x], .int .i64 0]) ∧ (Sys v Z ∧ GoodD v Z) ∧ Rw w' x (toZ Z) ∧ Below W.heap.size W w') := fun W => Make_good v W (by omega) hv3 h6
  have HLV : Hid (∀ (W : World) (Z : List (List Nat)) (x : Value), (Sys v Z ∧ GoodD v Z) → Rw W x (toZ Z) → Calls Try.prog 24 #[.agg #[.int .i64 (v : Int), x], .int .i64 2] W fun e w' => e = .returned (.tuple #[.int .i64 3, .int .i64 1, .int .i64 0]) ∧ Below W.heap.size W w') := fun W Z _ hz hR => Level_sys v Z _ W hv2 hz.1 hz.2 hR
  have HC : Hid (∀ W, Below (w.alloc (.cells #[.int .i64 q, u] 24)).heap.size (w.alloc (.cells #[.int .i64 q, u] 24)) W → W.cell? ⟨w.heap.size, 0, none⟩ = some (.int .i64 q) ∧ W.cell? ⟨w.heap.size, 1, none⟩ = some u) := des_box q u w
  have HB0 : Hid (Below w.heap.size w (w.alloc (.cells #[.int .i64 q, u] 24))) := balloc _ _
  have HZ0 : Hid ((w.alloc (.cells #[.int .i64 q, u] 24)).heap.size = w.heap.size + 1) := by show _ = _; simp
  obtain ⟨w0, Hw0⟩ : ∃ w0, Hid (w0 = w.alloc (.cells #[.int .i64 q, u] 24)) := ⟨_, rfl⟩
  rw [← Hw0.out] at HC HB0 HZ0
  have HF : Hid (∀ W, Calls Try.prog 23 #[] W fun e w' => e = .returned (.bool true) ∧ Below W.heap.size W w') := Fact_any
  have HDB : Hid (∀ (p : Int) (y : Value) (W0 W : World), Below (W0.alloc (.cells #[.int .i64 p, y] 24)).heap.size (W0.alloc (.cells #[.int .i64 p, y] 24)) W → W.cell? ⟨W0.heap.size, 0, none⟩ = some (.int .i64 p) ∧ W.cell? ⟨W0.heap.size, 1, none⟩ = some y) := fun p y W0 W h => des_box p y W0 W h
  obtain ⟨ua, uc, rfl⟩ := hu
  have HC2 : Hid (∀ W, Below w.heap.size w W → Calls Try.prog 13 #[.agg #[.int .i64 q, .slice ua n uc]] W fun e w' => e = .returned (.int .i64 f) ∧ Below W.heap.size W w') := C2
  clear C2
  have g1 : (f != 0) = true := by simp; omega
  have g2 : ¬ f = 0 := hf
  have d1 : decide ((v : Int) > 1) = true := by simp; omega
  have d1' : decide (1 < (v : Int)) = true := by simp; omega
  have d2 : 1 < (v : Int) := by omega
  have HML : Hid (∀ Z : List (List Nat), (Sys v Z ∧ GoodD v Z) → (v : Int) * ((v : Int) - 1) = (Z.length : Int) * 6) := fun Z hz => by
    have := sys_len hz.1
    have e : ((v * (v - 1) : Nat) : Int) = (v : Int) * ((v : Int) - 1) := by rw [Int.natCast_mul, Int.natCast_sub (by omega)]; rfl
    rw [← e, ← this]; omega
  clear h6
  go_enter Try.func7, Try.ntmps7
  go_wp2_with (first
    | (go_at_call 23; rw [← Hw0.out]; refine (HF.out _).mono ?_; rintro e w1 ⟨rfl, hb⟩; clear HF; have HB1 : Hid (Below w.heap.size w w1) := Below.next HB0.out hb; have HK1 : Hid (Below w0.heap.size w0 w1) := hb; clear hb)
    | (go_at_call 9; refine (HM.out _).mono ?_; rintro e w2 ⟨x, Z, rfl, hz, hR, hb⟩; clear HM; obtain ⟨xa, xc, rfl⟩ := rw_form hR; have bb := balloc w2 (.cells #[.int .i64 (v : Int), .slice xa Z.length xc] 24); have HB2 : Hid (Below w.heap.size w (w2.alloc (.cells #[.int .i64 (v : Int), .slice xa Z.length xc] 24))) := Below.next HB1.out (Below.next hb bb); have HK2 : Hid (Below w0.heap.size w0 (w2.alloc (.cells #[.int .i64 (v : Int), .slice xa Z.length xc] 24))) := Below.next HK1.out (Below.next hb bb); have HR : Hid (Rw (w2.alloc (.cells #[.int .i64 (v : Int), .slice xa Z.length xc] 24)) (.slice xa Z.length xc) (toZ Z)) := hR.below bb; have HLC : Hid (Calls Try.prog 24 #[.agg #[.int .i64 (v : Int), .slice xa Z.length xc], .int .i64 2] (w2.alloc (.cells #[.int .i64 (v : Int), .slice xa Z.length xc] 24)) fun e w' => e = .returned (.tuple #[.int .i64 3, .int .i64 1, .int .i64 0]) ∧ Below (w2.alloc (.cells #[.int .i64 (v : Int), .slice xa Z.length xc] 24)).heap.size (w2.alloc (.cells #[.int .i64 (v : Int), .slice xa Z.length xc] 24)) w') := HLV.out _ Z _ hz HR.out; have HM2 : Hid (∀ W, Below (w2.alloc (.cells #[.int .i64 (v : Int), .slice xa Z.length xc] 24)).heap.size (w2.alloc (.cells #[.int .i64 (v : Int), .slice xa Z.length xc] 24)) W → W.cell? ⟨w2.heap.size, 0, none⟩ = some (.int .i64 (v : Int)) ∧ W.cell? ⟨w2.heap.size, 1, none⟩ = some (.slice xa Z.length xc)) := fun W h => HDB.out _ _ _ W h; have hml := HML.out Z hz; have hz2 := hz.2.few; generalize Z.length = zl at *; clear hb bb hR hz HLV HML)
    | (go_at_call 24; refine HLC.out.mono ?_; rintro e w3 ⟨rfl, hb⟩; clear HLC; obtain ⟨m0, m1⟩ := HM2.out _ hb; have HB3 : Hid (Below w.heap.size w w3) := Below.next HB2.out hb; have HK3 : Hid (Below w0.heap.size w0 w3) := Below.next HK2.out hb; obtain ⟨y0, y1⟩ := HC.out _ HK3.out; clear hb)
    | (go_at_call 13; refine (HC2.out _ HB3.out).mono ?_; rintro e w4 ⟨rfl, hb⟩; clear HC2; have HB4 : Hid (Below w.heap.size w w4) := Below.next HB3.out hb; obtain ⟨z0, z1⟩ := HC.out _ (Below.next HK3.out hb); clear hb))
  go_ret
  exact ⟨rfl, HB4.out⟩
theorem Kirkman_law (v p : Int) (ls : List (List Int)) (u : Value) (w : World) (hu : Rw w u ls) (hl : ls.length ≤ maxLen) (hll : ∀ l ∈ ls, l.length ≤ maxLen) :
    Calls Try.prog 7 #[.int .i64 v, .agg #[.int .i64 p, u]] w fun e w' => e = .returned (.bool true) ∧ Below w.heap.size w w' := by
  obtain ⟨f, hT, hf⟩ := TCheck_one p ls
  have C2 : ∀ W, Below w.heap.size w W → Calls Try.prog 13 #[.agg #[.int .i64 p, u]] W fun e w' => e = .returned (.int .i64 f) ∧ Below W.heap.size W w' := fun W b => by
    refine (TCheck_any p ls u W (hu.below b) hl hll).mono ?_
    rintro e w' ⟨g, rfl, hg, hb⟩
    rw [hg.same hT]
    exact ⟨rfl, hb⟩
  have hu' : ∃ a c, u = .slice a ls.length c := by
    obtain ⟨a, c, e, _⟩ := hu
    exact ⟨a, c, e⟩
  by_cases h0 : f = 0
  · obtain ⟨q, B, rfl, rfl, G, s⟩ := hf h0
    subst h0
    have hq : 1 ≤ q ∧ q ≤ 40 := ⟨G.pos, G.le⟩
    have hm := sys_mod G.pos s
    by_cases h1 : v < 1
    · exact Kirk_low_ok v h1 q hq hm _ u w hu' C2
    · by_cases h2 : 33 < v
      · exact Kirk_high_ok v h2 q hq hm _ u w hu' C2
      · obtain ⟨n, rfl⟩ : ∃ n : Nat, v = n := ⟨v.toNat, by omega⟩
        by_cases h3 : n % 6 = 1 ∨ n % 6 = 3
        · by_cases h4 : n = 1
          · subst h4
            exact Kirk_one_ok q hq hm _ u w hu' C2
          · exact Kirk_more_ok n (by omega) (by omega) h3 q hq hm _ u w hu' C2
        · exact Kirk_none_ok n (n % 6) ⟨by omega, by omega⟩ rfl ⟨by omega, by omega⟩ q hq hm _ u w hu' C2
  · by_cases h1 : v < 1
    · exact Kirk_low_no v h1 p f h0 _ u w hu' C2
    · by_cases h2 : 33 < v
      · exact Kirk_high_no v h2 p f h0 _ u w hu' C2
      · obtain ⟨n, rfl⟩ : ∃ n : Nat, v = n := ⟨v.toNat, by omega⟩
        by_cases h3 : n % 6 = 1 ∨ n % 6 = 3
        · by_cases h4 : n = 1
          · subst h4
            exact Kirk_one_no p f h0 _ u w hu' C2
          · exact Kirk_more_no n (by omega) (by omega) h3 p f h0 _ u w hu' C2
        · exact Kirk_none_no n (n % 6) ⟨by omega, by omega⟩ rfl ⟨by omega, by omega⟩ p f h0 _ u w hu' C2
theorem Kirkman_end (v p : Int) (ls : List (List Int)) (u : Value) (W : World) (_ : (Lit.int .i64 v).wf = true) (hu : Rw W u ls) (hll : ∀ l ∈ ls, l.length ≤ maxLen) (hl : ls.length ≤ maxLen) : Calls Try.prog 7 #[.int .i64 v, .agg #[.int .i64 p, u]] W fun e w' => e = .returned (.bool true) ∧ Below W.heap.size W w' := Kirkman_law v p ls u W hu hl hll

end Go.Proofs.Ytdeofjmgjhfkcaa
