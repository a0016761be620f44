/- The program's beats and isDecided, walked. -/
import Derived.Test.YtgkfddcmngodgabU4
namespace Go.Proofs.Ytgkfddcmngodgab
open Go.RowKit

set_option maxRecDepth 100000 in
set_option maxHeartbeats 16000000 in
theorem beats_any {n : Nat} {l : List Int} (h1 : 1 ≤ n) (hn9 : n ≤ 9) (hl : l.length = n * n) (v : Value) (w : World) (hv : Sl w v l) {a b : Nat} (ha : a < n) (hb : b < n) :
    Calls Try.prog 23 #[.agg #[.int .i64 (n : Int), v], .int .i64 (a : Int), .int .i64 (b : Int)] w fun e w' => e = .returned (.bool (tB n l a b)) ∧ Below w.heap.size w w' := by
  obtain ⟨k, o, c, rfl, hC⟩ := sl_all hv (by rw [hl]; exact Nat.mul_pos h1 h1)
  have b1 := balloc w (.cells #[.int .i64 (n : Int), .slice (some ⟨k, o, none⟩) l.length c] 24)
  obtain ⟨x0, x1⟩ := sq_cells (n : Int) (.slice (some ⟨k, o, none⟩) l.length c) w _ (Below.refl _ _)
  obtain ⟨p, Hp⟩ : ∃ p, Hid (a * n + b = p) := ⟨_, rfl⟩
  obtain ⟨an, Han⟩ : ∃ an, Hid (a * n = an) := ⟨_, rfl⟩
  have hpm : p < l.length := by rw [← Hp.out, hl]; exact idx_lt ha hb
  have hp81 : l.length ≤ 81 := by rw [hl]; exact Nat.mul_le_mul hn9 hn9
  have hc := hC _ b1 p hpm
  have ea : (a : Int) * (n : Int) = (an : Int) := by rw [← Han.out]; simp
  have ep : (an : Int) + (b : Int) = (p : Int) := by rw [← Hp.out, Han.out]; simp
  have HT : Hid ((l.getD p 0 == 1) = tB n l a b) := by show _ = _; rw [← Hp.out]; rfl
  obtain ⟨m, Hm⟩ : ∃ m, Hid (l.length = m) := ⟨_, rfl⟩
  obtain ⟨x, Hx⟩ : ∃ x, Hid (l.getD p 0 = x) := ⟨_, rfl⟩
  obtain ⟨y, Hy⟩ : ∃ y, Hid (tB n l a b = y) := ⟨_, rfl⟩
  rw [Hx.out] at hc HT
  rw [Hy.out] at HT ⊢
  rw [Hm.out] at b1 x0 x1 hpm hp81 hc ⊢
  have HT2 : (x == 1) = y := HT.out
  have hanp : an ≤ p := by omega
  clear hC hv HT
  go_enter Try.func23, Try.ntmps23
  go_wp2
  go_ret
  exact ⟨rfl, b1⟩
theorem bad_tB {n : Nat} {l : List Int} (hl : l.length = n * n) (HC : ∀ j, j < l.length → l.getD j 0 = 0 ∨ l.getD j 0 = 1) {a b : Nat} (ha : a < n) (hb : b < n) : badT n l a b = if a = b then tB n l a a else (tB n l a b == tB n l b a) := by
  have h1 := HC (a * n + b) (by rw [hl]; exact idx_lt ha hb)
  have h2 := HC (b * n + a) (by rw [hl]; exact idx_lt hb ha)
  unfold badT tB
  by_cases e : a = b
  · subst e
    rw [if_pos rfl]
    rcases h1 with h1 | h1 <;> rw [h1] <;> simp
  · rw [if_neg e]
    rcases h1 with h1 | h1 <;> rcases h2 with h2 | h2 <;> rw [h1, h2] <;> simp [e]
set_option maxRecDepth 100000 in
set_option maxHeartbeats 16000000 in
theorem isDecided_any {n : Nat} {l : List Int} (h1 : 1 ≤ n) (hn9 : n ≤ 9) (hl : l.length = n * n) (HC : ∀ j, j < l.length → l.getD j 0 = 0 ∨ l.getD j 0 = 1) (v : Value) (w : World) (hv : Sl w v l) :
    Calls Try.prog 18 #[.agg #[.int .i64 (n : Int), v]] w fun e w' => (∃ y, e = .returned (.bool y) ∧ (y = true → ∀ i j, i < n → j ≤ i → badT n l i j = false) ∧ (y = false → ∃ i j, i < n ∧ j ≤ i ∧ badT n l i j = true)) ∧ Below w.heap.size w w' := by
  obtain ⟨t, Ht⟩ : ∃ t, Hid (tB n l = t) := ⟨_, rfl⟩
  have HBD : Hid (∀ a b, a < n → b < n → badT n l a b = if a = b then t a a else (t a b == t b a)) := fun a b ha hb => by rw [← Ht.out]; exact bad_tB hl HC ha hb
  have CB : ∀ W, Below w.heap.size w W → ∀ a b, a < n → b < n → Calls Try.prog 23 #[.agg #[.int .i64 (n : Int), v], .int .i64 (a : Int), .int .i64 (b : Int)] W fun e w' => e = .returned (.bool (t a b)) ∧ Below W.heap.size W w' := fun W bW a b ha hb => by rw [← Ht.out]; exact beats_any h1 hn9 hl v W (hv.below bW) ha hb
  have b1 := balloc w (.cells #[.int .i64 (n : Int), v] 24)
  have HX := sq_cells (n : Int) v w
  obtain ⟨w0, Hw0⟩ : ∃ w0, Hid (w.alloc (.cells #[.int .i64 (n : Int), v] 24) = w0) := ⟨_, rfl⟩
  rw [Hw0.out] at b1 HX
  have HX2 : Hid (∀ W, Below w0.heap.size w0 W → W.cell? ⟨w.heap.size, 0, none⟩ = some (.int .i64 (n : Int)) ∧ W.cell? ⟨w.heap.size, 1, none⟩ = some v) := HX
  have HCB : Hid (∀ W, Below w0.heap.size w0 W → ∀ a b, a < n → b < n → Calls Try.prog 23 #[.agg #[.int .i64 (n : Int), v], .int .i64 (a : Int), .int .i64 (b : Int)] W fun e w' => e = .returned (.bool (t a b)) ∧ Below W.heap.size W w') := fun W bW => CB W (Below.next b1 bW)
  have HB0 : Hid (∀ W, Below w0.heap.size w0 W → Below w.heap.size w W) := fun W b => Below.next b1 b
  obtain ⟨x0, x1⟩ := HX2.out w0 (Below.refl _ _)
  rw [← Hw0.out] at x0 x1
  clear HX hv b1 CB HC hl h1
  go_enter Try.func18, Try.ntmps18
  go_wp2
  rw [Hw0.out]
  go_loopw [7] (fun av wr => ∃ a : Nat, av = .int .i64 (a : Int) ∧ a ≤ n ∧ Hid (∀ i j, i < a → j ≤ i → badT n l i j = false) ∧ Below w0.heap.size w0 wr) (fun av _ => (n - intOf av).toNat)
  case atStart => exact ⟨0, rfl, by omega, (show ∀ i j, i < 0 → _ from fun i j h => by omega), Below.refl _ _⟩
  case round =>
    clear x0 x1
    obtain ⟨a, rfl, ha, HA, hB⟩ := hrel
    obtain ⟨x0, x1⟩ := HX2.out wr hB
    by_cases hlt : a < n
    · have hda : decide ((a : Int) < (n : Int)) = true := by simp; omega
      have haa : (a : Int) < (n : Int) := by omega
      have C1 := HCB.out wr hB a a hlt hlt
      have e0 := HBD.out a a hlt hlt
      rw [if_pos rfl] at e0
      obtain ⟨p, Hp⟩ : ∃ p, Hid (t a a = p) := ⟨_, rfl⟩
      rw [Hp.out] at C1 e0
      have E0 : Hid (badT n l a a = p) := e0
      clear e0
      cases p with
      | true =>
        go_wp2_with (first
          | (go_at_call 23; refine C1.mono ?_; rintro e w5 ⟨rfl, hb5⟩; clear C1; have hB5 := Below.next hB hb5)
          | go_in)
        go_ret
        exact ⟨⟨false, rfl, fun h => (by cases h), fun _ => ⟨a, a, hlt, Nat.le_refl _, E0.out⟩⟩, HB0.out _ hB5⟩
      | false =>
        go_wp2_with (first
          | (go_at_call 23; refine C1.mono ?_; rintro e w5 ⟨rfl, hb5⟩; clear C1; have hB5 := Below.next hB hb5)
          | go_in)
        go_loopw [15] (fun bv wr => ∃ b : Nat, bv = .int .i64 (b : Int) ∧ b ≤ a ∧ Hid (∀ j, j < b → badT n l a j = false) ∧ Below w0.heap.size w0 wr) (fun bv _ => (a - intOf bv).toNat)
        case atStart => exact ⟨0, rfl, by omega, (show ∀ j, j < 0 → _ from fun j h => by omega), hB5⟩
        case round =>
          clear x0 x1 hB5 hb5 hB
          obtain ⟨b, rfl, hb, HB, hB⟩ := hrel
          obtain ⟨x0, x1⟩ := HX2.out wr.drew hB.drew
          by_cases hlb : b < a
          · have hdb : decide ((b : Int) < (a : Int)) = true := by simp; omega
            have hbb : (b : Int) < (a : Int) := by omega
            have hbn : b < n := by omega
            have e0 := HBD.out a b hlt hbn
            rw [if_neg (by omega)] at e0
            have E1 : Hid (badT n l a b = (t a b == t b a)) := e0
            have hBD := hB.drew
            have hSA : wr.drew.cell? ⟨w.heap.size, 0, none⟩ = some (.int .i64 (n : Int)) ∧ wr.drew.cell? ⟨w.heap.size, 1, none⟩ = some v := ⟨x0, x1⟩
            clear x0 x1 e0 hB E0
            go_wp2_with fail
            go_region_held3 (fun W : World => W.cell? ⟨w.heap.size, 0, none⟩ = some (.int .i64 (n : Int)) ∧ W.cell? ⟨w.heap.size, 1, none⟩ = some v) (first | assumption) (first
              | (go_at_call 23; refine (HCB.out _ (by assumption) _ _ (by assumption) (by assumption)).mono ?_; rintro e w5 ⟨rfl, hb5⟩; have hB5 := Below.next (by assumption) hb5; have hS5 := HX2.out w5 hB5))
            obtain ⟨r, Hr⟩ : ∃ r, Hid ((t a b == t b a) = r) := ⟨_, rfl⟩
            have E2 : Hid (badT n l a b = r) := by rw [← Hr.out]; exact E1
            rw [Hr.out]
            cases r
            all_goals go_wp2
            · exact ⟨⟨b + 1, by go_num, by omega, (show ∀ j, j < b + 1 → badT n l a j = false from fun j hj => by
                by_cases e : j = b
                · rw [e]; exact E2.out
                · exact HB.out j (by omega)), hB5⟩, by simp [intOf]; omega⟩
            · go_ret
              exact ⟨⟨false, rfl, fun h => (by cases h), fun _ => ⟨a, b, hlt, Nat.le_of_lt hlb, E2.out⟩⟩, HB0.out _ hB5⟩
          · have hdb : decide ((b : Int) < (a : Int)) = false := by simp; omega
            have hdbn : decide (b < a) = false := by simp; omega
            have HA2 : Hid (∀ i j, i < a + 1 → j ≤ i → badT n l i j = false) := fun i j hi hj => by
              by_cases e : i = a
              · subst e
                by_cases e2 : j = i
                · rw [e2]; exact E0.out
                · exact HB.out j (by omega)
              · exact HA.out i j (by omega) hj
            clear HA HB
            go_wp2
            go_roundw
            case rel => exact ⟨a + 1, by go_num, by omega, HA2, hB⟩
            case measure => simp [intOf]; omega
    · have hda : decide ((a : Int) < (n : Int)) = false := by simp; omega
      have hdan : decide (a < n) = false := by simp; omega
      have HA2 : Hid (∀ i j, i < n → j ≤ i → badT n l i j = false) := fun i j hi hj => HA.out i j (by omega) hj
      clear HA
      go_wp2
      go_ret
      exact ⟨⟨true, rfl, fun _ => HA2.out, fun h => (by cases h)⟩, HB0.out _ hB⟩
end Go.Proofs.Ytgkfddcmngodgab
