/- The walk of the document's FitsOf; the law StrongFits over what Fits is to tell. -/
import Derived.Test.YtlmjlffipinjiabPB0
namespace Go.Proofs.Ytlmjlffipinjiab
open Go.RowKit

/-- What the four numbers could be. -/
def FtP (v k l m : Int) : Prop := k * (k - l - 1) = (v - k - 1) * m ∧ ((2 * k + (v - 1) * (l - m) = 0 ∧ v % 2 = 1) ∨ ∃ r f : Nat, 1 ≤ r ∧ (r * r : Int) = (l - m) * (l - m) + 4 * (k - m) ∧ (f : Int) < v ∧ (v - 1 - 2 * f) * r = 2 * k + (v - 1) * (l - m))
def FtO (v k l m : Int) : Prop := v < 2 ∨ 1000 < v ∨ k < 1 ∨ v ≤ k ∨ l < 0 ∨ v < l ∨ m < 0 ∨ v < m
def FtR (v k l m : Int) (q : Bool) (u : Nat) : Prop := (FtO v k l m ∧ q = false ∧ u = 1) ∨ (¬ FtO v k l m ∧ u = 0 ∧ (q = true ↔ FtP v k l m))
theorem FtR.one {v k l m : Int} {q q' : Bool} {u u' : Nat} (h : FtR v k l m q u) (h' : FtR v k l m q' u') : q = q' ∧ u = u' := by
  rcases h with ⟨h, rfl, rfl⟩ | ⟨h, rfl, hq⟩ <;> rcases h' with ⟨h', rfl, rfl⟩ | ⟨h', rfl, hq'⟩
  · exact ⟨rfl, rfl⟩
  · exact absurd h h'
  · exact absurd h' h
  · exact ⟨Bool.eq_iff_iff.2 (hq.trans hq'.symm), rfl⟩
theorem wrapB {z : Int} (h1 : -99999999 ≤ z) (h2 : z ≤ 99999999) : IntKind.i64.wrap z = z := by rw [IntKind.wrap_i64]; omega
theorem mul_bd {a b A B : Int} (h1 : -A ≤ a) (h2 : a ≤ A) (h3 : -B ≤ b) (h4 : b ≤ B) : -(A * B) ≤ a * b ∧ a * b ≤ A * B := by
  have p1 : 0 ≤ (A - a) * (B + b) := Int.mul_nonneg (by omega) (by omega)
  have p2 : 0 ≤ (A + a) * (B - b) := Int.mul_nonneg (by omega) (by omega)
  have p3 : 0 ≤ (A - a) * (B - b) := Int.mul_nonneg (by omega) (by omega)
  have p4 : 0 ≤ (A + a) * (B + b) := Int.mul_nonneg (by omega) (by omega)
  have e1 : (A - a) * (B + b) = A * B + A * b - a * B - a * b := by grind
  have e2 : (A + a) * (B - b) = A * B - A * b + a * B - a * b := by grind
  have e3 : (A - a) * (B - b) = A * B - A * b - a * B + a * b := by grind
  have e4 : (A + a) * (B + b) = A * B + A * b + a * B + a * b := by grind
  omega
set_option maxHeartbeats 8000000 in
theorem Fits_out (v k l m : Int) (w : World) (h : FtO v k l m) : Calls Try.prog 5 #[.agg #[.int .i64 v, .int .i64 k, .int .i64 l, .int .i64 m]] w fun e w' => e = .returned (.tuple #[.bool false, .int .i64 1]) ∧ Below w.heap.size w w' := by
  have b0 := balloc w (.cells #[.int .i64 v, .int .i64 k, .int .i64 l, .int .i64 m] 23)
  unfold FtO at h
  by_cases h0 : v < 2
  · have d0 : decide (v < 2) = true := decide_eq_true h0
    clear h h0
    go_enter Try.func5, Try.ntmps5
    go_wp2
    go_ret2
    exact ⟨rfl, b0⟩
  · have d0 : decide (v < 2) = false := decide_eq_false h0
    by_cases h1 : 1000 < v
    · have d1 : decide (1000 < v) = true := decide_eq_true h1
      clear h h0 h1
      go_enter Try.func5, Try.ntmps5
      go_wp2
      go_ret2
      exact ⟨rfl, b0⟩
    · have d1 : decide (1000 < v) = false := decide_eq_false h1
      by_cases h2 : k < 1
      · have d2 : decide (k < 1) = true := decide_eq_true h2
        clear h h0 h1 h2
        go_enter Try.func5, Try.ntmps5
        go_wp2
        go_ret2
        exact ⟨rfl, b0⟩
      · have d2 : decide (k < 1) = false := decide_eq_false h2
        by_cases h3 : v ≤ k
        · have d3 : decide (v ≤ k) = true := decide_eq_true h3
          clear h h0 h1 h2 h3
          go_enter Try.func5, Try.ntmps5
          go_wp2
          go_ret2
          exact ⟨rfl, b0⟩
        · have d3 : decide (v ≤ k) = false := decide_eq_false h3
          by_cases h4 : l < 0
          · have d4 : decide (l < 0) = true := decide_eq_true h4
            clear h h0 h1 h2 h3 h4
            go_enter Try.func5, Try.ntmps5
            go_wp2
            go_ret2
            exact ⟨rfl, b0⟩
          · have d4 : decide (l < 0) = false := decide_eq_false h4
            by_cases h5 : v < l
            · have d5 : decide (v < l) = true := decide_eq_true h5
              clear h h0 h1 h2 h3 h4 h5
              go_enter Try.func5, Try.ntmps5
              go_wp2
              go_ret2
              exact ⟨rfl, b0⟩
            · have d5 : decide (v < l) = false := decide_eq_false h5
              by_cases h6 : m < 0
              · have d6 : decide (m < 0) = true := decide_eq_true h6
                clear h h0 h1 h2 h3 h4 h5 h6
                go_enter Try.func5, Try.ntmps5
                go_wp2
                go_ret2
                exact ⟨rfl, b0⟩
              · have d6 : decide (m < 0) = false := decide_eq_false h6
                have h7 : v < m := by omega
                have d7 : decide (v < m) = true := decide_eq_true h7
                clear h h0 h1 h2 h3 h4 h5 h6 h7
                go_enter Try.func5, Try.ntmps5
                go_wp2
                go_ret2
                exact ⟨rfl, b0⟩
set_option maxRecDepth 100000 in
set_option maxHeartbeats 16000000 in
theorem Fits_in (v k l m : Nat) (w : World) (h : ¬ FtO v k l m) : Calls Try.prog 5 #[.agg #[.int .i64 (v : Int), .int .i64 (k : Int), .int .i64 (l : Int), .int .i64 (m : Int)]] w fun e w' => (∃ q : Bool, e = .returned (.tuple #[.bool q, .int .i64 0]) ∧ (q = true ↔ FtP v k l m)) ∧ Below w.heap.size w w' := by
  have b0 := balloc w (.cells #[.int .i64 (v : Int), .int .i64 (k : Int), .int .i64 (l : Int), .int .i64 (m : Int)] 23)
  unfold FtO at h
  have h0 : 2 ≤ v := by omega
  have h1 : v ≤ 1000 := by omega
  have h2 : 1 ≤ k := by omega
  have h3 : k < v := by omega
  have h5 : l ≤ v := by omega
  have h7 : m ≤ v := by omega
  clear h
  have d0 : decide ((v : Int) < 2) = false := by simp; omega
  have d1 : decide (1000 < (v : Int)) = false := by simp; omega
  have d2 : decide ((k : Int) < 1) = false := by simp; omega
  have d3 : decide ((v : Int) ≤ (k : Int)) = false := by simp; omega
  have d3' : decide (v ≤ k) = false := by simp; omega
  have d4 : decide ((l : Int) < 0) = false := by simp
  have d5 : decide ((v : Int) < (l : Int)) = false := by simp; omega
  have d5' : decide (v < l) = false := by simp; omega
  have d6 : decide ((m : Int) < 0) = false := by simp
  have d7 : decide ((v : Int) < (m : Int)) = false := by simp; omega
  have d7' : decide (v < m) = false := by simp; omega
  obtain ⟨p, Hp⟩ : ∃ p : Int, Hid ((k : Int) * ((k : Int) - l - 1) = p) := ⟨_, rfl⟩
  obtain ⟨q, Hq⟩ : ∃ p : Int, Hid (((v : Int) - k - 1) * m = p) := ⟨_, rfl⟩
  obtain ⟨x1, Hx1⟩ : ∃ p : Int, Hid (((v : Int) - 1) * ((l : Int) - m) = p) := ⟨_, rfl⟩
  obtain ⟨y1, Hy1⟩ : ∃ p : Int, Hid (((l : Int) - m) * ((l : Int) - m) = p) := ⟨_, rfl⟩
  have ep := Hp.out
  have eq := Hq.out
  have ex := Hx1.out
  have ey := Hy1.out
  have bp := mul_bd (a := (k : Int)) (b := (k : Int) - l - 1) (A := 1000) (B := 2000) (by omega) (by omega) (by omega) (by omega)
  have bq := mul_bd (a := (v : Int) - k - 1) (b := (m : Int)) (A := 1000) (B := 1000) (by omega) (by omega) (by omega) (by omega)
  have bx := mul_bd (a := (v : Int) - 1) (b := (l : Int) - m) (A := 1000) (B := 1000) (by omega) (by omega) (by omega) (by omega)
  have bY := mul_bd (a := (l : Int) - m) (b := (l : Int) - m) (A := 1000) (B := 1000) (by omega) (by omega) (by omega) (by omega)
  rw [ep] at bp
  rw [eq] at bq
  rw [ex] at bx
  rw [ey] at bY
  obtain ⟨bp1, bp2⟩ := bp
  obtain ⟨bq1, bq2⟩ := bq
  obtain ⟨bx1, bx2⟩ := bx
  obtain ⟨by1, by2⟩ := bY
  have HP : Hid (FtP v k l m ↔ p = q ∧ ((2 * k + x1 = 0 ∧ (v : Int) % 2 = 1) ∨ ∃ r f : Nat, 1 ≤ r ∧ (r * r : Int) = y1 + 4 * (k - m) ∧ (f : Int) < v ∧ (v - 1 - 2 * f : Int) * r = 2 * k + x1)) := by
    show _ ↔ _
    unfold FtP
    rw [ep, eq, ex, ey]
  generalize FtP v k l m = T at *
  have w1 := wrapB (z := (k : Int) - l) (by omega) (by omega)
  have w2 := wrapB (z := (k : Int) - l - 1) (by omega) (by omega)
  have w3 := wrapB (z := p) (by omega) (by omega)
  have w4 := wrapB (z := (v : Int) - k) (by omega) (by omega)
  have w5 := wrapB (z := (v : Int) - k - 1) (by omega) (by omega)
  have w6 := wrapB (z := q) (by omega) (by omega)
  have w7 := wrapB (z := 2 * (k : Int)) (by omega) (by omega)
  have w8 := wrapB (z := (v : Int) - 1) (by omega) (by omega)
  have w9 := wrapB (z := (l : Int) - m) (by omega) (by omega)
  have w10 := wrapB (z := x1) (by omega) (by omega)
  have w11 := wrapB (z := 2 * (k : Int) + x1) (by omega) (by omega)
  have w12 := wrapB (z := y1) (by omega) (by omega)
  have w13 := wrapB (z := (k : Int) - m) (by omega) (by omega)
  have w14 := wrapB (z := 4 * ((k : Int) - m)) (by omega) (by omega)
  have w15 := wrapB (z := y1 + 4 * ((k : Int) - m)) (by omega) (by omega)
  by_cases hpq : p = q
  · have dpq : (p != q) = false := by simp [hpq]
    obtain ⟨X, HX⟩ : ∃ X : Int, Hid (2 * (k : Int) + x1 = X) := ⟨_, rfl⟩
    obtain ⟨Dd, HDd⟩ : ∃ Dd : Int, Hid (y1 + 4 * ((k : Int) - m) = Dd) := ⟨_, rfl⟩
    have eX := HX.out
    have eD := HDd.out
    have bX : -1099999 ≤ X ∧ X ≤ 1099999 := by omega
    have bD : Dd ≤ 1099999 := by omega
    rw [eX] at w11
    rw [eD] at w15
    rw [eX, eD] at HP
    have HT : Hid (T ↔ ((X = 0 ∧ (v : Int) % 2 = 1) ∨ ∃ r f : Nat, 1 ≤ r ∧ (r * r : Int) = Dd ∧ (f : Int) < v ∧ (v - 1 - 2 * f : Int) * r = X)) := by
      show _ ↔ _
      rw [HP.out]
      exact ⟨fun h => h.2, fun h => ⟨hpq, h⟩⟩
    clear HP hpq
    obtain ⟨rv, Hrv⟩ : ∃ rv : Nat, Hid (v % 2 = rv) := ⟨_, rfl⟩
    have t1 : (v : Int) % 2 = (rv : Int) := by rw [← Hrv.out]; simp
    have t2 : (v : Int).tmod 2 = (rv : Int) := by rw [Int.tmod_eq_emod_of_nonneg (by omega)]; exact t1
    have t3 := wrapB (z := (rv : Int)) (by omega) (by rw [← Hrv.out]; omega)
    rw [t1] at HT
    by_cases hX : X = 0 ∧ rv = 1
    · have hq : T := HT.out.2 (.inl ⟨hX.1, by omega⟩)
      have dX : (X == 0) = true := by simp [hX.1]
      have dr : ((rv : Int) == 1) = true := by simp [hX.2]
      clear hX HT
      go_enter Try.func5, Try.ntmps5
      go_wp2
      go_ret2
      exact ⟨⟨true, rfl, ⟨fun _ => hq, fun _ => rfl⟩⟩, b0⟩
    · have HT2 : Hid (T ↔ ∃ r f : Nat, 1 ≤ r ∧ (r * r : Int) = Dd ∧ (f : Int) < v ∧ (v - 1 - 2 * f : Int) * r = X) := by
        show _ ↔ _
        rw [HT.out]
        exact ⟨fun h => h.resolve_left fun k => hX ⟨k.1, by omega⟩, .inr⟩
      clear HT
      by_cases hX0 : X = 0
      · have dX : (X == 0) = true := by simp [hX0]
        have dr : ((rv : Int) == 1) = false := by
          have : rv ≠ 1 := fun h => hX ⟨hX0, h⟩
          simp; omega
        clear hX hX0
        go_enter Try.func5, Try.ntmps5
        go_wp2
        go_loopw [10] (fun rv wr => ∃ (r : Nat), rv = .int .i64 (r : Int) ∧ 1 ≤ r ∧ r ≤ 3001 ∧ Hid (∀ r' f' : Nat, 1 ≤ r' → r' < r → (r' * r' : Int) = Dd → (f' : Int) < v → (v - 1 - 2 * f' : Int) * r' ≠ X) ∧ wr = (w.alloc (.cells #[.int .i64 (v : Int), .int .i64 (k : Int), .int .i64 (l : Int), .int .i64 (m : Int)] 23))) (fun rv _ => (3001 - intOf rv).toNat)
        case atStart => exact ⟨1, rfl, by omega, by omega, (fun r' f' h1 h2 => by omega : ∀ r' f' : Nat, 1 ≤ r' → r' < 1 → _), rfl⟩
        case round =>
          obtain ⟨r, rfl, hr1, hr2, HR, hw⟩ := hrel
          subst hw
          by_cases hlr : r ≤ 3000
          · have hdr : decide ((r : Int) ≤ 3000) = true := by simp; omega
            have hdr2 : decide (r ≤ 3000) = true := by simp; omega
            obtain ⟨rr, Hrr⟩ : ∃ rr : Int, Hid ((r : Int) * (r : Int) = rr) := ⟨_, rfl⟩
            have err := Hrr.out
            have brr := mul_bd (a := (r : Int)) (b := (r : Int)) (A := 3000) (B := 3000) (by omega) (by omega) (by omega) (by omega)
            rw [err] at brr
            have wr1 := wrapB (z := rr) (by omega) (by omega)
            by_cases hD : rr = Dd
            · have dD : (rr != Dd) = false := by simp [hD]
              go_wp2
              go_loopw [11] (fun fv wr => ∃ (f : Nat), fv = .int .i64 (f : Int) ∧ f ≤ v ∧ Hid (∀ f' : Nat, f' < f → (v - 1 - 2 * f' : Int) * r ≠ X) ∧ wr = (w.alloc (.cells #[.int .i64 (v : Int), .int .i64 (k : Int), .int .i64 (l : Int), .int .i64 (m : Int)] 23))) (fun fv _ => (v - intOf fv).toNat)
              case atStart => exact ⟨0, rfl, by omega, (fun f' h => by omega : ∀ f' : Nat, f' < 0 → _), rfl⟩
              case round =>
                obtain ⟨f, rfl, hf, HFF, hw⟩ := hrel
                subst hw
                by_cases hlf : f < v
                · have hdf : decide ((f : Int) < (v : Int)) = true := by simp; omega
                  obtain ⟨pr, Hpr⟩ : ∃ pr : Int, Hid (((v : Int) - 1 - 2 * (f : Int)) * (r : Int) = pr) := ⟨_, rfl⟩
                  have epr := Hpr.out
                  have bpr := mul_bd (a := (v : Int) - 1 - 2 * (f : Int)) (b := (r : Int)) (A := 3000) (B := 3000) (by omega) (by omega) (by omega) (by omega)
                  rw [epr] at bpr
                  have wr2 := wrapB (z := pr) (by omega) (by omega)
                  have wr3 := wrapB (z := 2 * (f : Int)) (by omega) (by omega)
                  have wr4 := wrapB (z := (v : Int) - 1 - 2 * (f : Int)) (by omega) (by omega)
                  by_cases hpX : pr = X
                  · have dpX : (pr == X) = true := by simp [hpX]
                    have hq : T := HT2.out.2 ⟨r, f, hr1, by rw [err, hD], by omega, by rw [epr, hpX]⟩
                    clear hpX hD HR HFF HT2
                    go_wp2
                    go_ret2
                    exact ⟨⟨true, rfl, ⟨fun _ => hq, fun _ => rfl⟩⟩, b0⟩
                  · have dpX : (pr == X) = false := by simp [hpX]
                    have HF2 : Hid (∀ f' : Nat, f' < f + 1 → (v - 1 - 2 * f' : Int) * r ≠ X) := fun f' hf' => by
                      by_cases e : f' = f
                      · subst e; rw [epr]; exact hpX
                      · exact HFF.out f' (by omega)
                    clear hpX HFF
                    go_wp2
                    go_roundw
                    case rel => exact ⟨f + 1, by go_num, by omega, HF2, trivial⟩
                    case measure => simp [intOf]; omega
                · have hdf : decide ((f : Int) < (v : Int)) = false := by simp; omega
                  have hdf2 : decide (f < v) = false := by simp; omega
                  have HR2 : Hid (∀ r' f' : Nat, 1 ≤ r' → r' < r + 1 → (r' * r' : Int) = Dd → (f' : Int) < v → (v - 1 - 2 * f' : Int) * r' ≠ X) := fun r' f' k1 k2 k3 k4 => by
                    by_cases e : r' = r
                    · subst e; exact HFF.out f' (by omega)
                    · exact HR.out r' f' k1 (by omega) k3 k4
                  clear HR HFF hD
                  go_wp2
                  go_roundw
                  case rel => exact ⟨r + 1, by go_num, by omega, by omega, HR2, trivial⟩
                  case measure => simp [intOf]; omega
            · have dD : (rr != Dd) = true := by simp [hD]
              have HR2 : Hid (∀ r' f' : Nat, 1 ≤ r' → r' < r + 1 → (r' * r' : Int) = Dd → (f' : Int) < v → (v - 1 - 2 * f' : Int) * r' ≠ X) := fun r' f' k1 k2 k3 k4 => by
                by_cases e : r' = r
                · subst e; rw [err] at k3; exact absurd k3 hD
                · exact HR.out r' f' k1 (by omega) k3 k4
              clear HR hD
              go_wp2
              go_roundw
              case rel => exact ⟨r + 1, by go_num, by omega, by omega, HR2, trivial⟩
              case measure => simp [intOf]; omega
          · have hdr : decide ((r : Int) ≤ 3000) = false := by simp; omega
            have hdr2 : decide (r ≤ 3000) = false := by simp; omega
            have hT : ¬ T := fun h => by
              obtain ⟨r', f', k1, k2, k3, k4⟩ := HT2.out.1 h
              by_cases e : r' < r
              · exact HR.out r' f' k1 e k2 k3 k4
              · have : (3001 * 3001 : Int) ≤ (r' : Int) * (r' : Int) := Int.mul_le_mul (by omega) (by omega) (by decide) (by omega)
                omega
            clear HR HT2
            go_wp2
            go_ret2
            exact ⟨⟨false, rfl, ⟨fun h => (by cases h), fun h => absurd h hT⟩⟩, b0⟩
      · have dX : (X == 0) = false := by simp [hX0]
        clear hX hX0
        go_enter Try.func5, Try.ntmps5
        go_wp2
        go_loopw [10] (fun rv wr => ∃ (r : Nat), rv = .int .i64 (r : Int) ∧ 1 ≤ r ∧ r ≤ 3001 ∧ Hid (∀ r' f' : Nat, 1 ≤ r' → r' < r → (r' * r' : Int) = Dd → (f' : Int) < v → (v - 1 - 2 * f' : Int) * r' ≠ X) ∧ wr = (w.alloc (.cells #[.int .i64 (v : Int), .int .i64 (k : Int), .int .i64 (l : Int), .int .i64 (m : Int)] 23))) (fun rv _ => (3001 - intOf rv).toNat)
        case atStart => exact ⟨1, rfl, by omega, by omega, (fun r' f' h1 h2 => by omega : ∀ r' f' : Nat, 1 ≤ r' → r' < 1 → _), rfl⟩
        case round =>
          obtain ⟨r, rfl, hr1, hr2, HR, hw⟩ := hrel
          subst hw
          by_cases hlr : r ≤ 3000
          · have hdr : decide ((r : Int) ≤ 3000) = true := by simp; omega
            have hdr2 : decide (r ≤ 3000) = true := by simp; omega
            obtain ⟨rr, Hrr⟩ : ∃ rr : Int, Hid ((r : Int) * (r : Int) = rr) := ⟨_, rfl⟩
            have err := Hrr.out
            have brr := mul_bd (a := (r : Int)) (b := (r : Int)) (A := 3000) (B := 3000) (by omega) (by omega) (by omega) (by omega)
            rw [err] at brr
            have wr1 := wrapB (z := rr) (by omega) (by omega)
            by_cases hD : rr = Dd
            · have dD : (rr != Dd) = false := by simp [hD]
              go_wp2
              go_loopw [11] (fun fv wr => ∃ (f : Nat), fv = .int .i64 (f : Int) ∧ f ≤ v ∧ Hid (∀ f' : Nat, f' < f → (v - 1 - 2 * f' : Int) * r ≠ X) ∧ wr = (w.alloc (.cells #[.int .i64 (v : Int), .int .i64 (k : Int), .int .i64 (l : Int), .int .i64 (m : Int)] 23))) (fun fv _ => (v - intOf fv).toNat)
              case atStart => exact ⟨0, rfl, by omega, (fun f' h => by omega : ∀ f' : Nat, f' < 0 → _), rfl⟩
              case round =>
                obtain ⟨f, rfl, hf, HFF, hw⟩ := hrel
                subst hw
                by_cases hlf : f < v
                · have hdf : decide ((f : Int) < (v : Int)) = true := by simp; omega
                  obtain ⟨pr, Hpr⟩ : ∃ pr : Int, Hid (((v : Int) - 1 - 2 * (f : Int)) * (r : Int) = pr) := ⟨_, rfl⟩
                  have epr := Hpr.out
                  have bpr := mul_bd (a := (v : Int) - 1 - 2 * (f : Int)) (b := (r : Int)) (A := 3000) (B := 3000) (by omega) (by omega) (by omega) (by omega)
                  rw [epr] at bpr
                  have wr2 := wrapB (z := pr) (by omega) (by omega)
                  have wr3 := wrapB (z := 2 * (f : Int)) (by omega) (by omega)
                  have wr4 := wrapB (z := (v : Int) - 1 - 2 * (f : Int)) (by omega) (by omega)
                  by_cases hpX : pr = X
                  · have dpX : (pr == X) = true := by simp [hpX]
                    have hq : T := HT2.out.2 ⟨r, f, hr1, by rw [err, hD], by omega, by rw [epr, hpX]⟩
                    clear hpX hD HR HFF HT2
                    go_wp2
                    go_ret2
                    exact ⟨⟨true, rfl, ⟨fun _ => hq, fun _ => rfl⟩⟩, b0⟩
                  · have dpX : (pr == X) = false := by simp [hpX]
                    have HF2 : Hid (∀ f' : Nat, f' < f + 1 → (v - 1 - 2 * f' : Int) * r ≠ X) := fun f' hf' => by
                      by_cases e : f' = f
                      · subst e; rw [epr]; exact hpX
                      · exact HFF.out f' (by omega)
                    clear hpX HFF
                    go_wp2
                    go_roundw
                    case rel => exact ⟨f + 1, by go_num, by omega, HF2, trivial⟩
                    case measure => simp [intOf]; omega
                · have hdf : decide ((f : Int) < (v : Int)) = false := by simp; omega
                  have hdf2 : decide (f < v) = false := by simp; omega
                  have HR2 : Hid (∀ r' f' : Nat, 1 ≤ r' → r' < r + 1 → (r' * r' : Int) = Dd → (f' : Int) < v → (v - 1 - 2 * f' : Int) * r' ≠ X) := fun r' f' k1 k2 k3 k4 => by
                    by_cases e : r' = r
                    · subst e; exact HFF.out f' (by omega)
                    · exact HR.out r' f' k1 (by omega) k3 k4
                  clear HR HFF hD
                  go_wp2
                  go_roundw
                  case rel => exact ⟨r + 1, by go_num, by omega, by omega, HR2, trivial⟩
                  case measure => simp [intOf]; omega
            · have dD : (rr != Dd) = true := by simp [hD]
              have HR2 : Hid (∀ r' f' : Nat, 1 ≤ r' → r' < r + 1 → (r' * r' : Int) = Dd → (f' : Int) < v → (v - 1 - 2 * f' : Int) * r' ≠ X) := fun r' f' k1 k2 k3 k4 => by
                by_cases e : r' = r
                · subst e; rw [err] at k3; exact absurd k3 hD
                · exact HR.out r' f' k1 (by omega) k3 k4
              clear HR hD
              go_wp2
              go_roundw
              case rel => exact ⟨r + 1, by go_num, by omega, by omega, HR2, trivial⟩
              case measure => simp [intOf]; omega
          · have hdr : decide ((r : Int) ≤ 3000) = false := by simp; omega
            have hdr2 : decide (r ≤ 3000) = false := by simp; omega
            have hT : ¬ T := fun h => by
              obtain ⟨r', f', k1, k2, k3, k4⟩ := HT2.out.1 h
              by_cases e : r' < r
              · exact HR.out r' f' k1 e k2 k3 k4
              · have : (3001 * 3001 : Int) ≤ (r' : Int) * (r' : Int) := Int.mul_le_mul (by omega) (by omega) (by decide) (by omega)
                omega
            clear HR HT2
            go_wp2
            go_ret2
            exact ⟨⟨false, rfl, ⟨fun h => (by cases h), fun h => absurd h hT⟩⟩, b0⟩
  · have dpq : (p != q) = true := by simp [hpq]
    have hT : ¬ T := fun h => hpq (HP.out.1 h).1
    clear hpq HP
    go_enter Try.func5, Try.ntmps5
    go_wp2
    go_ret2
    exact ⟨⟨false, rfl, ⟨fun h => (by cases h), fun h => absurd h hT⟩⟩, b0⟩
theorem FitsOf_any (v k l m : Int) (w : World) : Calls Try.prog 5 #[.agg #[.int .i64 v, .int .i64 k, .int .i64 l, .int .i64 m]] w fun e w' => (∃ (q : Bool) (u : Nat), e = .returned (.tuple #[.bool q, .int .i64 (u : Int)]) ∧ FtR v k l m q u) ∧ Below w.heap.size w w' := by
  by_cases h : FtO v k l m
  · exact (Fits_out v k l m w h).mono fun e w' ⟨he, hb⟩ => ⟨⟨false, 1, he, .inl ⟨h, rfl, rfl⟩⟩, hb⟩
  · have h' := h
    unfold FtO at h'
    obtain ⟨V, rfl⟩ : ∃ n : Nat, v = n := ⟨v.toNat, by omega⟩
    obtain ⟨K, rfl⟩ : ∃ n : Nat, k = n := ⟨k.toNat, by omega⟩
    obtain ⟨La, rfl⟩ : ∃ n : Nat, l = n := ⟨l.toNat, by omega⟩
    obtain ⟨M, rfl⟩ : ∃ n : Nat, m = n := ⟨m.toNat, by omega⟩
    exact (Fits_in V K La M w h).mono fun e w' ⟨⟨q, he, hq⟩, hb⟩ => ⟨⟨q, 0, he, .inr ⟨h, rfl, hq⟩⟩, hb⟩
def FFit : Prop := ∀ (v k l m : Int) (W : World), Calls Try.prog 4 #[.agg #[.int .i64 v, .int .i64 k, .int .i64 l, .int .i64 m]] W fun e w' => (∃ (q : Bool) (u : Nat), e = .returned (.tuple #[.bool q, .int .i64 (u : Int)]) ∧ FtR v k l m q u) ∧ Below W.heap.size W w'
theorem row4c {w : World} {g : Nat} {x0 x1 x2 x3 : Value} {t : TypeId} (h : w.heap[g]? = some (.cells #[x0, x1, x2, x3] t (0, 0))) : w.cell? ⟨g, 0, none⟩ = some x0 ∧ w.cell? ⟨g, 1, none⟩ = some x1 ∧ w.cell? ⟨g, 2, none⟩ = some x2 ∧ w.cell? ⟨g, 3, none⟩ = some x3 := by
  refine ⟨?_, ?_, ?_, ?_⟩ <;> rw [cell_of_row _ _ _ _ _ _ h] <;> rfl
set_option maxRecDepth 100000 in
set_option maxHeartbeats 8000000 in
theorem Fits_law (hF : FFit) (v k l m : Int) (w : World) : Calls Try.prog 3 #[.agg #[.int .i64 v, .int .i64 k, .int .i64 l, .int .i64 m]] w fun e w' => e = .returned (.bool true) ∧ Below w.heap.size w w' := by
  have b0 := balloc w (.cells #[.int .i64 v, .int .i64 k, .int .i64 l, .int .i64 m] 23)
  have C1 := hF v k l m (w.alloc (.cells #[.int .i64 v, .int .i64 k, .int .i64 l, .int .i64 m] 23))
  have HC2 : Hid (∀ (q : Bool) (u : Nat), FtR v k l m q u → ∀ W, Calls Try.prog 5 #[.agg #[.int .i64 v, .int .i64 k, .int .i64 l, .int .i64 m]] W fun e w' => e = .returned (.tuple #[.bool q, .int .i64 (u : Int)]) ∧ Below W.heap.size W w') := fun q u h W => (FitsOf_any v k l m W).mono fun e w' ⟨⟨q', u', he, hr⟩, hb⟩ => by
    obtain ⟨rfl, rfl⟩ := h.one hr
    exact ⟨he, hb⟩
  have hbox := heap_alloc_new w (.cells #[.int .i64 v, .int .i64 k, .int .i64 l, .int .i64 m] 23)
  go_enter Try.func3, Try.ntmps3
  go_wp2_with (first
    | (go_at_call 4; refine C1.mono ?_; rintro e w1 ⟨⟨q, u, rfl, hr⟩, b1⟩; clear C1; have hbox1 := (b1.block _ (by simp)).trans hbox; obtain ⟨x0, x1, x2, x3⟩ := row4c hbox1; have B1 := Below.next b0 b1; have C2 := HC2.out q u hr w1; have u1 : ((u : Int) == (u : Int)) = true := (by simp); have u2 : (q == q) = true := (by simp); clear HC2 hr)
    | (go_at_call 5; refine C2.mono ?_; rintro e w2 ⟨rfl, b2⟩; clear C2))
  go_ret
  exact ⟨rfl, Below.next B1 b2⟩
end Go.Proofs.Ytlmjlffipinjiab
