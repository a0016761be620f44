/- The walks of the document's GraphFault and commonTo. -/
import Derived.Test.YtlmjlffipinjiaaPBase
import Derived.Test.YtlmjlffipinjiaaSgF
import Derived.Deep.QuietTactic
import Derived.BigQuiet
namespace Go.Proofs.Ytlmjlffipinjiaa
open Go.RowKit

theorem wrapN9 {q : Nat} (h : q ≤ 99999) : IntKind.i64.wrap (q : Int) = (q : Int) := by rw [IntKind.wrap_i64]; omega
theorem wrapZ {z : Int} (h1 : -99999 ≤ z) (h2 : z ≤ 99999) : IntKind.i64.wrap z = z := by rw [IntKind.wrap_i64]; omega
theorem sq576 {n : Nat} (h : n ≤ 24) : n * n ≤ 999 - 423 := Nat.le_trans (Nat.mul_le_mul h h) (by decide)
set_option maxHeartbeats 4000000 in
theorem GFault_far (s : Int) (v : Value) (w : World) (h : s < 1 ∨ 8 * 3 < s) :
    Calls Try.prog 7 #[.agg #[.int .i64 s, v]] w fun e w' => e = .returned (.int .i64 1) ∧ Below w.heap.size w w' := by
  by_cases h1 : s < 1
  · have d1 : decide (s < 1) = true := decide_eq_true h1
    clear h h1
    go_enter Try.func7, Try.ntmps7
    go_wp2
    go_ret
    exact ⟨rfl, balloc w _⟩
  · have d1 : decide (s < 1) = false := decide_eq_false h1
    have h2 : 24 < s := by omega
    have d2 : decide (24 < s) = true := decide_eq_true h2
    clear h h1 h2
    go_enter Try.func7, Try.ntmps7
    go_wp2
    go_ret
    exact ⟨rfl, balloc w _⟩
set_option maxHeartbeats 4000000 in
theorem GFault_shape (n : Nat) (L : List Int) (v : Value) (w : World) (h1 : 1 ≤ n) (h8 : n ≤ 8 * 3) (hv : Sl w v L) (_hll : L.length ≤ maxLen) (hl : L.length ≠ n * n) :
    Calls Try.prog 7 #[.agg #[.int .i64 (n : Int), v]] w fun e w' => e = .returned (.int .i64 2) ∧ Below w.heap.size w w' := by
  have d1 : decide ((n : Int) < 1) = false := by simp; omega
  have d2 : decide (24 < (n : Int)) = false := by simp; omega
  obtain ⟨a, cap, rfl, _⟩ := hv
  obtain ⟨z, hz⟩ : ∃ z, z = n * n := ⟨_, rfl⟩
  have hz99 : z ≤ 999 := by rw [hz]; exact Nat.le_trans (Nat.mul_le_mul h8 h8) (by decide)
  have hmul : (n : Int) * (n : Int) = (z : Int) := by rw [hz]; simp
  have hne : ((L.length : Int) != (z : Int)) = true := by simp; omega
  generalize L.length = q at *
  clear hz hl
  go_enter Try.func7, Try.ntmps7
  go_wp2
  go_ret
  exact ⟨rfl, balloc w _⟩
set_option maxRecDepth 100000 in
set_option maxHeartbeats 8000000 in
theorem GFault_main (n : Nat) (L : List Int) (v : Value) (w : World) (h1 : 1 ≤ n) (h8 : n ≤ 8 * 3) (hv : Sl w v L) (hl : L.length = n * n) :
    Calls Try.prog 7 #[.agg #[.int .i64 (n : Int), v]] w fun e w' => e = .returned (.int .i64 (gF n L : Int)) ∧ Below w.heap.size w w' := by
  have d1 : decide ((n : Int) < 1) = false := by simp; omega
  have d2 : decide (24 < (n : Int)) = false := by simp; omega
  have hpos : 0 < n * n := Nat.mul_pos h1 h1
  obtain ⟨a, off, cap, rfl, ha, hcell⟩ := hv.form hl hpos
  have HB1 : Hid (∀ j, j < n * n → ¬ (L.getD j 0 = 0 ∨ L.getD j 0 = 1) → gF n L = 1) := fun j hj h => gF_bit h1 h8 hl hj h
  have HON : Hid ((∀ j, j < n * n → L.getD j 0 = 0 ∨ L.getD j 0 = 1) → gF n L = if syB n (gx n L) then 0 else 4) := fun h => gF_on h1 h8 hl h
  have HGX : Hid (∀ r c, gx n L r c = L.getD (r * n + c) 0) := fun _ _ => rfl
  have HLT : Hid (∀ r c, r < n → c < n → r * n + c < n * n) := fun r c hr hc => cell_ltG hr hc
  generalize gF n L = u at *
  obtain ⟨z, hz⟩ : ∃ z, n * n = z := ⟨_, rfl⟩
  have hz99 : z ≤ 999 := by rw [← hz]; exact Nat.le_trans (Nat.mul_le_mul h8 h8) (by decide)
  have hmul : (n : Int) * (n : Int) = (z : Int) := by rw [← hz]; simp
  have hne : ((z : Int) != (z : Int)) = false := by simp
  rw [hz] at hcell HB1 HON HLT
  rw [hz]
  have HC : Hid (∀ j, j < z → w.cell? ⟨a, off + j, none⟩ = some (.int .i64 (L.getD j 0))) := hcell
  have b0 := balloc w (.cells #[.int .i64 (n : Int), .slice (some ⟨a, off, none⟩) z cap] 24)
  have hx1 : (w.alloc (.cells #[.int .i64 (n : Int), .slice (some ⟨a, off, none⟩) z cap] 24)).cell? ⟨w.heap.size, 1, none⟩ = some (.slice (some ⟨a, off, none⟩) z cap) := by rw [cell_of_row _ _ _ _ _ _ (heap_alloc_new w _)]; rfl
  clear hcell hl hz hv hpos
  go_enter Try.func7, Try.ntmps7
  go_wp2
  go_loopw [4] (fun i wr => ∃ j : Nat, i = .int .i64 (j : Int) ∧ j ≤ z ∧ Hid (∀ q, q < j → L.getD q 0 = 0 ∨ L.getD q 0 = 1) ∧ wr.cell? ⟨w.heap.size, 1, none⟩ = some (.slice (some ⟨a, off, none⟩) z cap) ∧ Below w.heap.size w wr) (fun i _ => (z - intOf i).toNat)
  case atStart => exact ⟨0, rfl, by omega, (fun q h => by omega : ∀ q, q < 0 → _), hx1, b0⟩
  case round =>
    clear hx1 b0
    obtain ⟨j, rfl, hj, HJ, hx1, b0⟩ := hrel
    by_cases hlt : j < z
    · have hdj : decide ((j : Int) < (z : Int)) = true := by simp; omega
      have hji : (j : Int) < z := by omega
      have hj0 : (0 : Int) ≤ (j : Int) := by omega
      have hcj := (b0.cell (p := ⟨a, off + j, none⟩) ha).trans (HC.out j hlt)
      have HN := HB1.out j hlt
      have HJ2 : Hid ((L.getD j 0 = 0 ∨ L.getD j 0 = 1) → ∀ q, q < j + 1 → L.getD q 0 = 0 ∨ L.getD q 0 = 1) := fun h q hq => by
        by_cases e : q = j
        · subst e; exact h
        · exact HJ.out q (by omega)
      generalize L.getD j 0 = x at hcj HN HJ2
      clear HJ
      by_cases x0 : x = 0
      · have HJ3 : Hid (∀ q, q < j + 1 → L.getD q 0 = 0 ∨ L.getD q 0 = 1) := HJ2.out (.inl x0)
        have hxn : (x != 0) = false := by simp [x0]
        clear x0 HN HJ2
        go_wp2
        go_roundw
        case rel => exact ⟨j + 1, by go_num, by omega, HJ3, hx1, b0⟩
        case measure => simp [intOf]; omega
      · have hxn : (x != 0) = true := by simp [x0]
        by_cases x1 : x = 1
        · have HJ3 : Hid (∀ q, q < j + 1 → L.getD q 0 = 0 ∨ L.getD q 0 = 1) := HJ2.out (.inr x1)
          have hxm : (x != 1) = false := by simp [x1]
          clear x0 x1 HN HJ2
          go_wp2
          go_roundw
          case rel => exact ⟨j + 1, by go_num, by omega, HJ3, hx1, b0⟩
          case measure => simp [intOf]; omega
        · have hxm : (x != 1) = true := by simp [x1]
          obtain rfl : u = 1 := HN (fun h => by rcases h with h | h; exact x0 h; exact x1 h)
          clear x0 x1 HN HJ2
          go_wp2
          go_ret
          exact ⟨rfl, b0⟩
    · have hdj : decide ((j : Int) < (z : Int)) = false := by simp; omega
      have hdj2 : decide (j < z) = false := by simp; omega
      have hon := HON.out fun q hq => HJ.out q (by omega)
      have HNO : Hid (∀ a b, a < n → b < n → ¬ (gx n L a b = gx n L b a ∧ ¬ (a = b ∧ gx n L a b = 1)) → u = 4) := fun a b ha hb h => by rw [hon, sy_no ha hb h]; rfl
      have HYE : Hid ((∀ a b, a < n → b < n → gx n L a b = gx n L b a ∧ ¬ (a = b ∧ gx n L a b = 1)) → u = 0) := fun h => by rw [hon, sy_iff.2 h]; rfl
      have HMX : Hid (∀ r c, r < n → c < n → w.cell? ⟨a, off + (r * n + c), none⟩ = some (.int .i64 (gx n L r c))) := fun r c hr hc => HC.out _ (HLT.out r c hr hc)
      generalize gx n L = t at *
      clear hon HJ HC HB1 HON HGX
      go_wp2
      go_loopw [5] (fun i wr => ∃ (r : Nat), i = .int .i64 (r : Int) ∧ r ≤ n ∧ Hid (∀ a b, a < r → b < n → t a b = t b a ∧ ¬ (a = b ∧ t a b = 1)) ∧ wr.cell? ⟨w.heap.size, 1, none⟩ = some (.slice (some ⟨a, off, none⟩) z cap) ∧ Below w.heap.size w wr) (fun i _ => (n - intOf i).toNat)
      case atStart => exact ⟨0, rfl, by omega, (fun a b h => by omega : ∀ a b, a < 0 → _), hx1, b0⟩
      case round =>
        clear hx1 b0
        obtain ⟨r, rfl, hr, HR, hx1, b0⟩ := hrel
        by_cases hlr : r < n
        · have hdr : decide ((r : Int) < (n : Int)) = true := by simp; omega
          have hdr2 : decide (r < n) = true := by simp; omega
          go_wp2
          go_loopw [6] (fun i wr => ∃ (q : Nat), i = .int .i64 (q : Int) ∧ q ≤ n ∧ Hid (∀ b, b < q → t r b = t b r ∧ ¬ (r = b ∧ t r b = 1)) ∧ wr.cell? ⟨w.heap.size, 1, none⟩ = some (.slice (some ⟨a, off, none⟩) z cap) ∧ Below w.heap.size w wr) (fun i _ => (n - intOf i).toNat)
          case atStart => exact ⟨0, rfl, by omega, (fun b h => by omega : ∀ b, b < 0 → _), hx1, b0⟩
          case round =>
            clear hx1 b0
            obtain ⟨q, rfl, hq, HQ, hx1, b0⟩ := hrel
            by_cases hlq : q < n
            · have hdq : decide ((q : Int) < (n : Int)) = true := by simp; omega
              have k1 := HLT.out r q hlr hlq
              have k2 := HLT.out q r hlq hlr
              have c1 := (b0.cell (p := ⟨a, off + (r * n + q), none⟩) ha).trans (HMX.out r q hlr hlq)
              have c2 := (b0.cell (p := ⟨a, off + (q * n + r), none⟩) ha).trans (HMX.out q r hlq hlr)
              have HN := HNO.out r q hlr hlq
              have HQ2 : Hid ((t r q = t q r ∧ ¬ (r = q ∧ t r q = 1)) → ∀ b, b < q + 1 → t r b = t b r ∧ ¬ (r = b ∧ t r b = 1)) := fun h b hb => by
                by_cases e : b = q
                · subst e; exact h
                · exact HQ.out b (by omega)
              generalize t r q = x at c1 HN HQ2
              generalize t q r = y at c2 HN HQ2
              obtain ⟨m1, Hm1⟩ : ∃ m, Hid (r * n = m) := ⟨_, rfl⟩
              obtain ⟨m2, Hm2⟩ : ∃ m, Hid (q * n = m) := ⟨_, rfl⟩
              have hm1 : (r : Int) * (n : Int) = (m1 : Int) := by rw [← Hm1.out]; simp
              have hm2 : (q : Int) * (n : Int) = (m2 : Int) := by rw [← Hm2.out]; simp
              rw [Hm1.out] at k1 c1
              rw [Hm2.out] at k2 c2
              obtain ⟨p1, Hp1⟩ : ∃ m, Hid (m1 + q = m) := ⟨_, rfl⟩
              obtain ⟨p2, Hp2⟩ : ∃ m, Hid (m2 + r = m) := ⟨_, rfl⟩
              have hp1 : (m1 : Int) + (q : Int) = (p1 : Int) := by rw [← Hp1.out]; simp
              have hp2 : (m2 : Int) + (r : Int) = (p2 : Int) := by rw [← Hp2.out]; simp
              rw [Hp1.out] at k1 c1
              rw [Hp2.out] at k2 c2
              have q1 : (p1 : Int) < (z : Int) := by omega
              have q2 : (p2 : Int) < (z : Int) := by omega
              have hm1' := wrapN9 (q := m1) (by have := Hp1.out; omega)
              have hm2' := wrapN9 (q := m2) (by have := Hp2.out; omega)
              have hp1' := wrapN9 (q := p1) (by omega)
              have hp2' := wrapN9 (q := p2) (by omega)
              clear HQ
              by_cases hxy : x = y
              · have dxy : (x != y) = false := by simp [hxy]
                by_cases hrq : r = q
                · have drq : ((r : Int) == (q : Int)) = true := by simp [hrq]
                  by_cases hx : x = 1
                  · have dx : (x == 1) = true := by simp [hx]
                    obtain rfl : u = 4 := HN (fun h => h.2 ⟨hrq, hx⟩)
                    clear hxy hrq hx HN HQ2
                    go_wp2
                    go_quiet (fail)
                    go_wp2
                    go_ret
                    exact ⟨rfl, bdrewN b0 _⟩
                  · have dx : (x == 1) = false := by simp [hx]
                    have HQ3 : Hid (∀ b, b < q + 1 → t r b = t b r ∧ ¬ (r = b ∧ t r b = 1)) := HQ2.out ⟨hxy, fun h => hx h.2⟩
                    clear hxy hrq hx HN HQ2
                    go_wp2
                    go_quiet (fail)
                    go_wp2
                    go_roundw
                    case rel => exact ⟨q + 1, by go_num, by omega, HQ3, hx1, bdrewN b0 _⟩
                    case measure => simp [intOf]; omega
                · have drq : ((r : Int) == (q : Int)) = false := by simp; omega
                  have HQ3 : Hid (∀ b, b < q + 1 → t r b = t b r ∧ ¬ (r = b ∧ t r b = 1)) := HQ2.out ⟨hxy, fun h => hrq h.1⟩
                  clear hxy hrq HN HQ2
                  go_wp2
                  go_quiet (fail)
                  go_wp2
                  go_roundw
                  case rel => exact ⟨q + 1, by go_num, by omega, HQ3, hx1, bdrewN b0 _⟩
                  case measure => simp [intOf]; omega
              · have dxy : (x != y) = true := by simp [hxy]
                obtain rfl : u = 4 := HN (fun h => hxy h.1)
                clear hxy HN HQ2
                go_wp2
                go_quiet (fail)
                go_wp2
                go_ret
                exact ⟨rfl, bdrewN b0 _⟩
            · have hdq : decide ((q : Int) < (n : Int)) = false := by simp; omega
              have hdq2 : decide (q < n) = false := by simp; omega
              have HR2 : Hid (∀ a b, a < r + 1 → b < n → t a b = t b a ∧ ¬ (a = b ∧ t a b = 1)) := fun a b ha hb => by
                by_cases e : a = r
                · subst e; exact HQ.out b (by omega)
                · exact HR.out a b (by omega) hb
              clear HR HQ
              go_wp2
              go_roundw
              case rel => exact ⟨r + 1, by go_num, by omega, HR2, hx1, b0⟩
              case measure => simp [intOf]; omega
        · have hdr : decide ((r : Int) < (n : Int)) = false := by simp; omega
          have hdr2 : decide (r < n) = false := by simp; omega
          obtain rfl : u = 0 := HYE.out fun a b ha hb => HR.out a b (by omega) hb
          go_wp2
          go_ret
          exact ⟨rfl, b0⟩
theorem GraphFault_any (s : Int) (L : List Int) (v : Value) (w : World) (hv : Sl w v L) (hl : L.length ≤ maxLen) :
    Calls Try.prog 7 #[.agg #[.int .i64 s, v]] w fun e w' => e = .returned (.int .i64 (gF s L : Int)) ∧ Below w.heap.size w w' := by
  by_cases h1 : s < 1 ∨ 24 < s
  · rw [gF_far h1]
    exact GFault_far s v w (by omega)
  · obtain ⟨n, rfl⟩ : ∃ n : Nat, s = n := ⟨s.toNat, by omega⟩
    by_cases h2 : L.length = n * n
    · exact GFault_main n L v w (by omega) (by omega) hv h2
    · rw [gF_shape (by omega) (by omega) h2]
      exact GFault_shape n L v w (by omega) (by omega) hv hl h2
set_option maxRecDepth 100000 in
set_option maxHeartbeats 8000000 in
theorem commonTo_any (n : Nat) (L : List Int) (G : GoodG n L) (v : Value) (w : World) (hv : Sl w v L) (a b : Nat) (ha : a < n) (hb : b < n) :
    Calls Try.prog 26 #[.agg #[.int .i64 (n : Int), v], .int .i64 (a : Int), .int .i64 (b : Int)] w fun e w' => e = .returned (.int .i64 (cmG n (gx n L) a b)) ∧ Below w.heap.size w w' := by
  have hpos : 0 < n * n := Nat.mul_pos G.pos G.pos
  have h8 := G.le
  obtain ⟨g, off, cap, rfl, hg, hcell⟩ := hv.form G.len hpos
  have HLT : Hid (∀ r c, r < n → c < n → r * n + c < n * n) := fun r c hr hc => cell_ltG hr hc
  have HMX : Hid (∀ r c, r < n → c < n → w.cell? ⟨g, off + (r * n + c), none⟩ = some (.int .i64 (gx n L r c))) := fun r c hr hc => hcell _ (cell_ltG hr hc)
  have HBT : Hid (∀ r c, r < n → c < n → gx n L r c = 0 ∨ gx n L r c = 1) := G.gr.bit
  have HSM : Hid (∀ c, (sR (c + 1) fun c => gx n L a c * gx n L b c) = (sR c fun c => gx n L a c * gx n L b c) + gx n L a c * gx n L b c) := fun _ => rfl
  have HS0 : Hid ((sR 0 fun c => gx n L a c * gx n L b c) = 0) := rfl
  have HCM : Hid (cmG n (gx n L) a b = sR n fun c => gx n L a c * gx n L b c) := rfl
  obtain ⟨X, HX⟩ : ∃ X, Hid (cmG n (gx n L) a b = X) := ⟨_, rfl⟩
  rw [HX.out] at HCM ⊢
  obtain ⟨Q, HQ⟩ : ∃ Q : Nat → Int, Hid ((fun k => sR k fun c => gx n L a c * gx n L b c) = Q) := ⟨_, rfl⟩
  have HQ0 : Hid (Q 0 = 0) := by show _ = _; rw [← HQ.out]; rfl
  have HQS : Hid (∀ c, Q (c + 1) = Q c + gx n L a c * gx n L b c) := fun c => by rw [← HQ.out]; rfl
  have HQN : Hid (Q n = X) := by show _ = _; rw [← HQ.out]; exact HCM.out.symm
  obtain ⟨z, hz⟩ : ∃ z, n * n = z := ⟨_, rfl⟩
  have hz99 : z ≤ 999 := by rw [← hz]; exact Nat.le_trans (Nat.mul_le_mul h8 h8) (by decide)
  rw [hz] at HLT
  rw [hz]
  generalize gx n L = t at *
  have b0 := balloc w (.cells #[.int .i64 (n : Int), .slice (some ⟨g, off, none⟩) z cap] 24)
  have hx0 : (w.alloc (.cells #[.int .i64 (n : Int), .slice (some ⟨g, off, none⟩) z cap] 24)).cell? ⟨w.heap.size, 0, none⟩ = some (.int .i64 (n : Int)) := by rw [cell_of_row _ _ _ _ _ _ (heap_alloc_new w _)]; rfl
  have hx1 : (w.alloc (.cells #[.int .i64 (n : Int), .slice (some ⟨g, off, none⟩) z cap] 24)).cell? ⟨w.heap.size, 1, none⟩ = some (.slice (some ⟨g, off, none⟩) z cap) := by rw [cell_of_row _ _ _ _ _ _ (heap_alloc_new w _)]; rfl
  clear hcell hv G hpos hz HQ HSM HS0 HCM HX
  go_enter Try.func26, Try.ntmps26
  go_wp2
  go_loopw [7, 8] (fun o i wr => ∃ (c : Nat) (Y : Int), i = .int .i64 (c : Int) ∧ c ≤ n ∧ o = .int .i64 Y ∧ Hid (Q c = Y) ∧ 0 ≤ Y ∧ Y ≤ c ∧ wr.cell? ⟨w.heap.size, 0, none⟩ = some (.int .i64 (n : Int)) ∧ wr.cell? ⟨w.heap.size, 1, none⟩ = some (.slice (some ⟨g, off, none⟩) z cap) ∧ Below w.heap.size w wr) (fun _ i _ => (n - intOf i).toNat)
  case atStart => exact ⟨0, 0, rfl, by omega, rfl, HQ0, by omega, by omega, hx0, hx1, b0⟩
  case round =>
    clear hx0 hx1 b0
    obtain ⟨c, Y, rfl, hc, rfl, HY, hY1, hY2, hx0, hx1, b0⟩ := hrel
    by_cases hlc : c < n
    · have hdc : decide ((c : Int) < (n : Int)) = true := by simp; omega
      have k1 := HLT.out a c ha hlc
      have k2 := HLT.out b c hb hlc
      have c1 := (b0.cell (p := ⟨g, off + (a * n + c), none⟩) hg).trans (HMX.out a c ha hlc)
      have c2 := (b0.cell (p := ⟨g, off + (b * n + c), none⟩) hg).trans (HMX.out b c hb hlc)
      have g1 := HBT.out a c ha hlc
      have g2 := HBT.out b c hb hlc
      have HS2 : Hid (Q (c + 1) = Y + t a c * t b c) := by show _ = _; rw [HQS.out, HY.out]
      generalize t a c = x at c1 g1 HS2
      generalize t b c = y at c2 g2 HS2
      have hp : 0 ≤ x * y ∧ x * y ≤ 1 := by rcases g1 with rfl | rfl <;> rcases g2 with rfl | rfl <;> decide
      obtain ⟨e, He⟩ : ∃ z, Hid (x * y = z) := ⟨_, rfl⟩
      have he := He.out
      rw [he] at hp HS2
      obtain ⟨m1, Hm1⟩ : ∃ m, Hid (a * n = m) := ⟨_, rfl⟩
      obtain ⟨m2, Hm2⟩ : ∃ m, Hid (b * n = m) := ⟨_, rfl⟩
      have hm1 : (a : Int) * (n : Int) = (m1 : Int) := by rw [← Hm1.out]; simp
      have hm2 : (b : Int) * (n : Int) = (m2 : Int) := by rw [← Hm2.out]; simp
      rw [Hm1.out] at k1 c1
      rw [Hm2.out] at k2 c2
      obtain ⟨p1, Hp1⟩ : ∃ m, Hid (m1 + c = m) := ⟨_, rfl⟩
      obtain ⟨p2, Hp2⟩ : ∃ m, Hid (m2 + c = m) := ⟨_, rfl⟩
      have hp1 : (m1 : Int) + (c : Int) = (p1 : Int) := by rw [← Hp1.out]; simp
      have hp2 : (m2 : Int) + (c : Int) = (p2 : Int) := by rw [← Hp2.out]; simp
      rw [Hp1.out] at k1 c1
      rw [Hp2.out] at k2 c2
      have q1 : (p1 : Int) < (z : Int) := by omega
      have q2 : (p2 : Int) < (z : Int) := by omega
      have hm1' := wrapN9 (q := m1) (by have := Hp1.out; omega)
      have hm2' := wrapN9 (q := m2) (by have := Hp2.out; omega)
      have hp1' := wrapN9 (q := p1) (by omega)
      have hp2' := wrapN9 (q := p2) (by omega)
      have he1 := wrapZ (z := e) (by omega) (by omega)
      have he2 := wrapZ (z := Y + e) (by omega) (by omega)
      obtain ⟨hp3, hp4⟩ := hp
      clear g1 g2 HY
      go_wp2
      go_quiet (fail)
      go_wp2
      go_roundw
      case rel => exact ⟨c + 1, Y + e, by go_num, by omega, by go_num, HS2, by omega, by omega, hx0, hx1, bdrewN b0 _⟩
      case measure => simp [intOf]; omega
    · have hdc : decide ((c : Int) < (n : Int)) = false := by simp; omega
      have hdc2 : decide (c < n) = false := by simp; omega
      obtain rfl : c = n := by omega
      obtain rfl : Y = X := HY.out.symm.trans HQN.out
      go_wp2
      go_ret
      exact ⟨rfl, b0⟩
end Go.Proofs.Ytlmjlffipinjiaa
