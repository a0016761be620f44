/- The walk of the document's SignsFault. -/
import Derived.Test.YtamdpcajfgbagaaDoorH2
import Derived.Deep.QuietTactic
import Derived.BigQuiet
namespace Go.Proofs.YtamdpcajfgbagaaDoor
open Go.RowKit

theorem wrapN9 {q : Nat} (h : q ≤ 99999) : IntKind.i64.wrap (q : Int) = (q : Int) := by rw [IntKind.wrap_i64]; omega
theorem wrapZ {z : Int} (h1 : -99999 ≤ z) (h2 : z ≤ 99999) : IntKind.i64.wrap z = z := by rw [IntKind.wrap_i64]; omega
set_option maxHeartbeats 4000000 in
theorem Fault_far (s : Int) (v : Value) (w : World) (h : s < 1 ∨ 8 * 3 < s) :
    Calls Tryd.prog 11 #[.agg #[.int .i64 s, v]] w fun e w' => e = .returned (.int .i64 1) ∧ Below w.heap.size w w' := by
  by_cases h1 : s < 1
  · have d1 : decide (s < 1) = true := decide_eq_true h1
    clear h h1
    go_enter Tryd.func11, Tryd.ntmps11
    go_wp2
    go_ret
    exact ⟨rfl, balloc w _⟩
  · have d1 : decide (s < 1) = false := decide_eq_false h1
    have h2 : 24 < s := by omega
    have d2 : decide (24 < s) = true := decide_eq_true h2
    clear h h1 h2
    go_enter Tryd.func11, Tryd.ntmps11
    go_wp2
    go_ret
    exact ⟨rfl, balloc w _⟩
set_option maxHeartbeats 4000000 in
theorem Fault_shape (n : Nat) (L : List Int) (v : Value) (w : World) (h1 : 1 ≤ n) (h8 : n ≤ 8 * 3) (hv : Sl w v L) (_hll : L.length ≤ maxLen) (hl : L.length ≠ n * n) :
    Calls Tryd.prog 11 #[.agg #[.int .i64 (n : Int), v]] w fun e w' => e = .returned (.int .i64 2) ∧ Below w.heap.size w w' := by
  have d1 : decide ((n : Int) < 1) = false := by simp; omega
  have d2 : decide (24 < (n : Int)) = false := by simp; omega
  obtain ⟨a, cap, rfl, _⟩ := hv
  obtain ⟨z, hz⟩ : ∃ z, z = n * n := ⟨_, rfl⟩
  have hz99 : z ≤ 999 := by rw [hz]; exact Nat.le_trans (Nat.mul_le_mul h8 h8) (by decide)
  have hmul : (n : Int) * (n : Int) = (z : Int) := by rw [hz]; simp
  have hne : ((L.length : Int) != (z : Int)) = true := by simp; omega
  generalize L.length = q at *
  clear hz hl
  go_enter Tryd.func11, Tryd.ntmps11
  go_wp2
  go_ret
  exact ⟨rfl, balloc w _⟩
set_option maxRecDepth 100000 in
set_option maxHeartbeats 8000000 in
theorem Fault_main (n : Nat) (L : List Int) (v : Value) (w : World) (h1 : 1 ≤ n) (h8 : n ≤ 8 * 3) (hv : Sl w v L) (hl : L.length = n * n) :
    Calls Tryd.prog 11 #[.agg #[.int .i64 (n : Int), v]] w fun e w' => e = .returned (.int .i64 (hF n L : Int)) ∧ Below w.heap.size w w' := by
  have d1 : decide ((n : Int) < 1) = false := by simp; omega
  have d2 : decide (24 < (n : Int)) = false := by simp; omega
  have hpos : 0 < n * n := Nat.mul_pos h1 h1
  obtain ⟨a, off, cap, rfl, ha, hcell⟩ := hv.form hl hpos
  obtain ⟨u, hu⟩ : ∃ u, u = hF n L := ⟨_, rfl⟩
  have HU : Hid (u = hF n L) := hu
  rw [← hu]
  obtain ⟨z, hz⟩ : ∃ z, z = n * n := ⟨_, rfl⟩
  have hz99 : z ≤ 999 := by rw [hz]; exact Nat.le_trans (Nat.mul_le_mul h8 h8) (by decide)
  have hmul : (n : Int) * (n : Int) = (z : Int) := by rw [hz]; simp
  have hne : ((z : Int) != (z : Int)) = false := by simp
  have HL : Hid (L.length = n * n) := hl
  have HZ : Hid (z = n * n) := hz
  have HC : Hid (∀ j, j < z → w.cell? ⟨a, off + j, none⟩ = some (.int .i64 (L.getD j 0))) := by rw [hz]; exact hcell
  rw [← hz]
  have b0 := balloc w (.cells #[.int .i64 (n : Int), .slice (some ⟨a, off, none⟩) z cap] 24)
  have hx1 : (w.alloc (.cells #[.int .i64 (n : Int), .slice (some ⟨a, off, none⟩) z cap] 24)).cell? ⟨w.heap.size, 1, none⟩ = some (.slice (some ⟨a, off, none⟩) z cap) := by rw [cell_of_row _ _ _ _ _ _ (heap_alloc_new w _)]; rfl
  clear hcell hl hz hu hv
  go_enter Tryd.func11, Tryd.ntmps11
  go_wp2
  go_loopw [4] (fun i wr => ∃ j : Nat, i = .int .i64 (j : Int) ∧ j ≤ z ∧ Hid (∀ q, q < j → Sg (L.getD q 0)) ∧ wr.cell? ⟨w.heap.size, 1, none⟩ = some (.slice (some ⟨a, off, none⟩) z cap) ∧ Below w.heap.size w wr) (fun i _ => (z - intOf i).toNat)
  case atStart => exact ⟨0, rfl, by omega, (fun q h => by omega : ∀ q, q < 0 → _), hx1, b0⟩
  case round =>
    clear hx1 b0
    obtain ⟨j, rfl, hj, HJ, hx1, b0⟩ := hrel
    by_cases hlt : j < z
    · have hdj : decide ((j : Int) < (z : Int)) = true := by simp; omega
      have hji : (j : Int) < z := by omega
      have hj0 : (0 : Int) ≤ (j : Int) := by omega
      have hcj := (b0.cell (p := ⟨a, off + j, none⟩) ha).trans (HC.out j hlt)
      obtain ⟨x, hx⟩ : ∃ x, x = L.getD j 0 := ⟨_, rfl⟩
      rw [← hx] at hcj
      have HJ2 : Hid (Sg x → ∀ q, q < j + 1 → Sg (L.getD q 0)) := fun h q hq => by
        by_cases e : q = j
        · subst e; rw [← hx]; exact h
        · exact HJ.out q (by omega)
      have HN : Hid (¬ Sg x → u = 1) := fun h => by rw [HU.out]; exact hF_out h1 h8 HL.out (by rw [← HZ.out]; exact hlt) (by rw [← hx]; exact h)
      clear hx HJ
      by_cases hx1' : x = 1
      · have HJ3 : Hid (∀ q, q < j + 1 → Sg (L.getD q 0)) := HJ2.out (.inl hx1')
        have hxn : (x != 1) = false := by simp [hx1']
        clear hx1' HN HJ2
        go_wp2
        go_roundw
        case rel => exact ⟨j + 1, by go_num, by omega, HJ3, hx1, b0⟩
        case measure => simp [intOf]; omega
      · have hxn : (x != 1) = true := by simp [hx1']
        by_cases hx2 : x = -1
        · have HJ3 : Hid (∀ q, q < j + 1 → Sg (L.getD q 0)) := HJ2.out (.inr hx2)
          have hxm : (x != -1) = false := by simp [hx2]
          clear hx2 hx1' HN HJ2
          go_wp2
          go_roundw
          case rel => exact ⟨j + 1, by go_num, by omega, HJ3, hx1, b0⟩
          case measure => simp [intOf]; omega
        · have hxm : (x != -1) = true := by simp [hx2]
          obtain rfl : u = 1 := HN.out (fun h => by rcases h with h | h; exact hx1' h; exact hx2 h)
          clear hx2 hx1' HN HJ2
          go_wp2
          go_ret
          exact ⟨rfl, b0⟩
    · have hdj : decide ((j : Int) < (z : Int)) = false := by simp; omega
      have hdj2 : decide (j < z) = false := by simp; omega
      obtain rfl : j = z := by omega
      have hon := hF_on h1 h8 HL.out (by rw [← HZ.out]; exact HJ.out)
      rw [← HU.out] at hon
      have HON : Hid (u = if balB n (mx n L) then 0 else 4) := hon
      have HX : Hid (∀ r c, r < n → c < n → Sg (mx n L r c)) := fun r c hr hc => HJ.out _ (by rw [HZ.out]; exact cell_ltH hr hc)
      have HLT : Hid (∀ r c, r < n → c < n → r * n + c < j) := fun r c hr hc => by rw [HZ.out]; exact cell_ltH hr hc
      have HMX : Hid (∀ r c, r < n → c < n → w.cell? ⟨a, off + (r * n + c), none⟩ = some (.int .i64 (mx n L r c))) := fun r c hr hc => HC.out _ (by rw [HZ.out]; exact cell_ltH hr hc)
      generalize mx n L = t at *
      clear hon HJ HU HC hlt hj
      go_wp2
      go_loopw [5] (fun i wr => ∃ (r : Nat), i = .int .i64 (r : Int) ∧ r ≤ n ∧ Hid (∀ i k, i < r → k < i → rp n t i k = 0) ∧ wr.cell? ⟨w.heap.size, 1, none⟩ = some (.slice (some ⟨a, off, none⟩) j cap) ∧ Below w.heap.size w wr) (fun i _ => (n - intOf i).toNat)
      case atStart => exact ⟨0, rfl, by omega, (fun i k h => by omega : ∀ i k, i < 0 → k < i → rp n t i k = 0), hx1, b0⟩
      case round =>
        clear hx1 b0
        obtain ⟨r, rfl, hr, HR, hx1, b0⟩ := hrel
        by_cases hlt : r < n
        · have hdr : decide ((r : Int) < (n : Int)) = true := by simp; omega
          go_wp2
          go_loopw [6] (fun i wr => ∃ (q : Nat), i = .int .i64 (q : Int) ∧ q ≤ r ∧ Hid (∀ k, k < q → rp n t r k = 0) ∧ wr.cell? ⟨w.heap.size, 1, none⟩ = some (.slice (some ⟨a, off, none⟩) j cap) ∧ Below w.heap.size w wr) (fun i _ => (r - intOf i).toNat)
          case atStart => exact ⟨0, rfl, by omega, (fun k h => by omega : ∀ k, k < 0 → rp n t r k = 0), hx1, b0⟩
          case round =>
            clear hx1 b0
            obtain ⟨q, rfl, hq, HQ, hx1, b0⟩ := hrel
            by_cases hlq : q < r
            · have hdq : decide ((q : Int) < (r : Int)) = true := by simp; omega
              go_wp2
              go_loopw [7, 8] (fun o i wr => ∃ (c : Nat) (X : Int), i = .int .i64 (c : Int) ∧ c ≤ n ∧ o = .int .i64 X ∧ Hid ((sm c fun j => t r j * t q j) = X) ∧ -(c : Int) ≤ X ∧ X ≤ c ∧ wr.cell? ⟨w.heap.size, 1, none⟩ = some (.slice (some ⟨a, off, none⟩) j cap) ∧ Below w.heap.size w wr) (fun _ i _ => (n - intOf i).toNat)
              case atStart => exact ⟨0, 0, rfl, by omega, rfl, (rfl : (sm 0 fun j => t r j * t q j) = 0), by omega, by omega, hx1, b0⟩
              case round =>
                clear hx1 b0
                obtain ⟨c, X, rfl, hc, rfl, HS, hX1, hX2, hx1, b0⟩ := hrel
                by_cases hlc : c < n
                · have hdc : decide ((c : Int) < (n : Int)) = true := by simp; omega
                  have hqn : q < n := by omega
                  have k1 := HLT.out r c hlt hlc
                  have k2 := HLT.out q c hqn hlc
                  have c1 := (b0.cell (p := ⟨a, off + (r * n + c), none⟩) ha).trans (HMX.out r c hlt hlc)
                  have c2 := (b0.cell (p := ⟨a, off + (q * n + c), none⟩) ha).trans (HMX.out q c hqn hlc)
                  have g1 := HX.out r c hlt hlc
                  have g2 := HX.out q c hqn hlc
                  have hp := sg_prod g1 g2
                  have HS2 : Hid ((sm (c + 1) fun j => t r j * t q j) = X + t r c * t q c) := by show _ = _; rw [sm, HS.out]
                  obtain ⟨x, Hx⟩ : ∃ x, Hid (t r c = x) := ⟨_, rfl⟩
                  obtain ⟨y, Hy⟩ : ∃ y, Hid (t q c = y) := ⟨_, rfl⟩
                  rw [Hx.out] at c1 hp HS2
                  rw [Hy.out] at c2 hp HS2
                  obtain ⟨e, Hz⟩ : ∃ z, Hid (x * y = z) := ⟨_, rfl⟩
                  have hz := Hz.out
                  rw [hz] at hp HS2
                  obtain ⟨m1, Hm1⟩ : ∃ m, Hid (r * n = m) := ⟨_, rfl⟩
                  obtain ⟨m2, Hm2⟩ : ∃ m, Hid (q * n = m) := ⟨_, rfl⟩
                  have hm1 : (r : Int) * (n : Int) = (m1 : Int) := by rw [← Hm1.out]; simp
                  have hm2 : (q : Int) * (n : Int) = (m2 : Int) := by rw [← Hm2.out]; simp
                  rw [Hm1.out] at k1 c1
                  rw [Hm2.out] at k2 c2
                  obtain ⟨p1, Hp1⟩ : ∃ m, Hid (m1 + c = m) := ⟨_, rfl⟩
                  obtain ⟨p2, Hp2⟩ : ∃ m, Hid (m2 + c = m) := ⟨_, rfl⟩
                  have hp1 : (m1 : Int) + (c : Int) = (p1 : Int) := by rw [← Hp1.out]; simp
                  have hp2 : (m2 : Int) + (c : Int) = (p2 : Int) := by rw [← Hp2.out]; simp
                  rw [Hp1.out] at k1 c1
                  rw [Hp2.out] at k2 c2
                  have q1 : (p1 : Int) < (j : Int) := by omega
                  have q2 : (p2 : Int) < (j : Int) := by omega
                  have hm1' := wrapN9 (q := m1) (by have := Hp1.out; omega)
                  have hm2' := wrapN9 (q := m2) (by have := Hp2.out; omega)
                  have hp1' := wrapN9 (q := p1) (by omega)
                  have hp2' := wrapN9 (q := p2) (by omega)
                  have he1 := wrapZ (z := e) (by omega) (by omega)
                  have he2 := wrapZ (z := X + e) (by omega) (by omega)
                  clear g1 g2 HS
                  have hXe : -1 ≤ e ∧ e ≤ 1 := by omega
                  clear hp
                  go_wp2
                  go_quiet (fail)
                  go_wp2
                  go_roundw
                  case rel => exact ⟨c + 1, X + e, by go_num, by omega, by go_num, HS2, by omega, by omega, hx1, bdrewN b0 _⟩
                  case measure => simp [intOf]; omega
                · have hdc : decide ((c : Int) < (n : Int)) = false := by simp; omega
                  obtain rfl : c = n := by omega
                  by_cases hX0 : X = 0
                  · have hXn : (X != 0) = false := by simp [hX0]
                    have HQ2 : Hid (∀ k, k < q + 1 → rp c t r k = 0) := fun k hk => by
                      by_cases e : k = q
                      · subst e; exact HS.out.trans hX0
                      · exact HQ.out k (by omega)
                    clear hX0
                    go_wp2
                    go_roundw
                    case rel => exact ⟨q + 1, by go_num, by omega, HQ2, hx1, b0⟩
                    case measure => simp [intOf]; omega
                  · have hXn : (X != 0) = true := by simp [hX0]
                    obtain rfl : u = 4 := by rw [HON.out, balB_no hlt hlq (by unfold rp; rw [HS.out]; exact hX0)]; rfl
                    go_wp2
                    go_ret
                    exact ⟨rfl, b0⟩
            · have hdq : decide ((q : Int) < (r : Int)) = false := by simp; omega
              have HR2 : Hid (∀ i k, i < r + 1 → k < i → rp n t i k = 0) := fun i k hi hk => by
                by_cases e : i = r
                · subst e; exact HQ.out k (by omega)
                · exact HR.out i k (by omega) hk
              go_wp2
              go_roundw
              case rel => exact ⟨r + 1, by go_num, by omega, HR2, hx1, b0⟩
              case measure => simp [intOf]; omega
        · have hdr : decide ((r : Int) < (n : Int)) = false := by simp; omega
          obtain rfl : u = 0 := by rw [HON.out, balB_iff.2 (fun i k hi hk => HR.out i k (by omega) hk)]; rfl
          go_wp2
          go_ret
          exact ⟨rfl, b0⟩
theorem Fault_any (s : Int) (L : List Int) (v : Value) (w : World) (hv : Sl w v L) (hll : L.length ≤ maxLen) :
    Calls Tryd.prog 11 #[.agg #[.int .i64 s, v]] w fun e w' => e = .returned (.int .i64 (hF s L : Int)) ∧ Below w.heap.size w w' := by
  by_cases h : s < 1 ∨ 8 * 3 < s
  · rw [hF_far h]; exact Fault_far s v w h
  · obtain ⟨n, rfl⟩ : ∃ n : Nat, s = n := ⟨s.toNat, by omega⟩
    by_cases hl : L.length = n * n
    · exact Fault_main n L v w (by omega) (by omega) hv hl
    · rw [hF_shape (by omega) (by omega) hl]; exact Fault_shape n L v w (by omega) (by omega) hv hll hl
end Go.Proofs.YtamdpcajfgbagaaDoor
