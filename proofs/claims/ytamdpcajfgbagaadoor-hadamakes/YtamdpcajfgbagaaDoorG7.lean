/- The walk of the document's SylvesterOf. -/
import Derived.Test.YtamdpcajfgbagaaDoorH5
import Derived.Test.YtamdpcajfgbagaaDoorF1
import Derived.Test.YtamdpcajfgbagaaDoorHdY
import Derived.Test.YtamdpcajfgbagaaDoorG0
import Derived.OwnWalk
namespace Go.Proofs.YtamdpcajfgbagaaDoor
open Go.RowKit

theorem run_makeN (n : Nat) (hn : n ≤ 100000) (w : World) : (Instr.makeSlice 22 (.int .i64 (n : Int)) (.int .i64 (n : Int))).run Tryd.prog w = .ok (.slice (some ⟨w.heap.size, 0, none⟩) n n) (w.alloc (.cells (madeCells #[.int .i64 0] n) 3)) := by
  obtain ⟨i4, hi, hz0, hz1, hz2⟩ := info3
  have h := run_make (P := Tryd.prog) w 22 3 i4 (.int .i64 0) und22 hi hz0 .i64 .i64 n n (by omega) (by omega) (by rw [hz2]; omega) (by omega)
  simpa [hz1, Value.cells] using h
theorem own_made0 (w : World) (n : Nat) : Own (w.alloc (.cells (madeCells #[.int .i64 0] n) 3)) w.heap.size n (fun _ => 0) := by
  refine ⟨_, heap_alloc_new w _, fun j hj => ?_⟩
  have hs : j < (madeCells #[Value.int .i64 0] n).size := by rw [size_madeCells]; exact hj
  rw [Array.getElem?_eq_getElem hs]
  simp [madeCells, Nat.mod_one]
theorem own_ne {w : World} {g n b : Nat} {f : Nat → Int} {cs : Array Value} (h : Own w g n f) (hb : w.heap[b]? = some (.cells cs 24 (0, 0))) : g ≠ b := by
  rintro rfl
  obtain ⟨cur, h, _⟩ := h
  rw [hb] at h
  simp at h
theorem sy_double {i n : Nat} (hi : i ≤ 3) (hn : n = 2 ^ i) {a b : Nat} (ha : a < n) (hb : b < n) : syF a (n + b) = syF a b ∧ syF (n + a) b = syF a b ∧ syF (n + a) (n + b) = - syF a b := by
  subst hn
  exact sy_dbl ⟨i, by omega⟩ ⟨a, ha⟩ ⟨b, hb⟩
set_option maxHeartbeats 4000000 in
theorem DSyl_bad (k : Int) (w : World) (h : k < 0 ∨ 4 < k) : Calls Tryd.prog 6 #[.int .i64 k] w fun e w' => e = .returned (.tuple #[.agg #[.int .i64 0, .slice none 0 0], .int .i64 1]) ∧ Below w.heap.size w w' := by
  have HH : Hid ((w.alloc (.cells #[.int .i64 0, .slice none 0 0] 24)).heap[w.heap.size]? = some (.cells #[.int .i64 0, .slice none 0 0] 24 (0, 0))) := heap_alloc_new w _
  by_cases h1 : k < 0
  · have d1 : decide (k < 0) = true := decide_eq_true h1
    clear h h1
    go_enter Tryd.func6, Tryd.ntmps6
    go_wp2
    exact post_sq2 2 3 Tryd.results6 rfl HH.out rfl rfl ⟨rfl, balloc _ _⟩
  · have d1 : decide (k < 0) = false := decide_eq_false h1
    have h2 : 4 < k := by omega
    have d2 : decide (4 < k) = true := decide_eq_true h2
    clear h h1 h2
    go_enter Tryd.func6, Tryd.ntmps6
    go_wp2
    exact post_sq2 2 3 Tryd.results6 rfl HH.out rfl rfl ⟨rfl, balloc _ _⟩
set_option maxRecDepth 100000 in
set_option maxHeartbeats 16000000 in
theorem DSyl_ok (k : Nat) (w : World) (hk : k ≤ 4) : Calls Tryd.prog 6 #[.int .i64 (k : Int)] w fun e w' => (∃ y, e = .returned (.tuple #[.agg #[.int .i64 ((2 ^ k : Nat) : Int), y], .int .i64 0]) ∧ OwnS w' y (flI (2 ^ k) syF (2 ^ k * 2 ^ k))) ∧ Below w.heap.size w w' := by
  have d1 : decide ((k : Int) < 0) = false := by simp
  have d2 : decide (4 < (k : Int)) = false := by simp; omega
  obtain ⟨NK, HNK⟩ : ∃ q : Nat, Hid (2 ^ k = q) := ⟨_, rfl⟩
  rw [HNK.out]
  obtain ⟨s, Hs⟩ : ∃ s, Hid (w.heap.size = s) := ⟨_, rfl⟩
  have hs : w.heap.size = s := Hs.out
  have R0 : (((w.alloc (.cells #[.int .i64 0, .slice none 0 0] 24)).alloc (.cells #[.int .i64 1] 3)).alloc (.cells #[.int .i64 1, .slice (some ⟨s + 1, 0, none⟩) 1 1] 24)).heap[s]? = some (.cells #[.int .i64 0, .slice none 0 0] 24 (0, 0)) := by rw [← hs]; exact (Below.heap_alloc _ _ _ (by simp; omega)).trans ((Below.heap_alloc _ _ _ (by simp)).trans (heap_alloc_new w _))
  have R1 : (((w.alloc (.cells #[.int .i64 0, .slice none 0 0] 24)).alloc (.cells #[.int .i64 1] 3)).alloc (.cells #[.int .i64 1, .slice (some ⟨s + 1, 0, none⟩) 1 1] 24)).heap[s + 1]? = some (.cells #[.int .i64 1] 3 (0, 0)) := by
    rw [← hs]
    refine (Below.heap_alloc _ _ _ (by simp)).trans ?_
    have := heap_alloc_new (w.alloc (.cells #[.int .i64 0, .slice none 0 0] 24)) (.cells #[.int .i64 1] 3)
    simpa using this
  have R2 : (((w.alloc (.cells #[.int .i64 0, .slice none 0 0] 24)).alloc (.cells #[.int .i64 1] 3)).alloc (.cells #[.int .i64 1, .slice (some ⟨s + 1, 0, none⟩) 1 1] 24)).heap[s + 1 + 1]? = some (.cells #[.int .i64 1, .slice (some ⟨s + 1, 0, none⟩) 1 1] 24 (0, 0)) := by
    have := heap_alloc_new ((w.alloc (.cells #[.int .i64 0, .slice none 0 0] 24)).alloc (.cells #[.int .i64 1] 3)) (.cells #[.int .i64 1, .slice (some ⟨s + 1, 0, none⟩) 1 1] 24)
    rw [show ((w.alloc (.cells #[.int .i64 0, .slice none 0 0] 24)).alloc (.cells #[.int .i64 1] 3)).heap.size = s + 1 + 1 by simp; omega] at this
    exact this
  have hO : Own (((w.alloc (.cells #[.int .i64 0, .slice none 0 0] 24)).alloc (.cells #[.int .i64 1] 3)).alloc (.cells #[.int .i64 1, .slice (some ⟨s + 1, 0, none⟩) 1 1] 24)) (s + 1) 1 (fun j => syF (j / 1) (j % 1)) := ⟨_, R1, fun j hj => by
    obtain rfl : j = 0 := by omega
    rfl⟩
  have hb0 : Below s w (((w.alloc (.cells #[.int .i64 0, .slice none 0 0] 24)).alloc (.cells #[.int .i64 1] 3)).alloc (.cells #[.int .i64 1, .slice (some ⟨s + 1, 0, none⟩) 1 1] 24)) := by rw [← hs]; exact Below.next (Below.next (balloc _ _) (balloc _ _)) (balloc _ _)
  have hsz : s + 1 + 1 + 1 ≤ (((w.alloc (.cells #[.int .i64 0, .slice none 0 0] 24)).alloc (.cells #[.int .i64 1] 3)).alloc (.cells #[.int .i64 1, .slice (some ⟨s + 1, 0, none⟩) 1 1] 24)).heap.size := by simp; omega
  clear R1
  go_enter Tryd.func6, Tryd.ntmps6
  go_wp2
  go_loopw [5] (fun iv wr => ∃ (i n z g cp : Nat), iv = .int .i64 (i : Int) ∧ i ≤ k ∧ Hid (n = 2 ^ i ∧ z = n * n) ∧ wr.heap[s]? = some (.cells #[.int .i64 0, .slice none 0 0] 24 (0, 0)) ∧ wr.heap[s + 1 + 1]? = some (.cells #[.int .i64 (n : Int), .slice (some ⟨g, 0, none⟩) z cp] 24 (0, 0)) ∧ Own wr g z (fun j => syF (j / n) (j % n)) ∧ s + 1 + 1 + 1 ≤ wr.heap.size ∧ s < g ∧ Below s w wr) (fun iv _ => (k - intOf iv).toNat)
  case atStart => exact ⟨0, 1, 1, s + 1, 1, rfl, by omega, ⟨rfl, rfl⟩, R0, R2, hO, hsz, by omega, hb0⟩
  case round =>
    clear R0 R2 hO hsz hb0
    obtain ⟨i, n, z, g, cp, rfl, hi, HN, R0, R2, hO, hsz, hsg, hB⟩ := hrel
    have b0 : wr.cell? ⟨s + 1 + 1, 0, none⟩ = some (.int .i64 (n : Int)) := by rw [cell_of_row _ _ _ _ _ _ R2]; rfl
    by_cases hli : i < k
    · have hdi : decide ((i : Int) < (k : Int)) = true := by simp; omega
      have HDB : Hid (∀ a b, a < n → b < n → syF a (n + b) = syF a b ∧ syF (n + a) b = syF a b ∧ syF (n + a) (n + b) = - syF a b) := fun a b ha hb => sy_double (by omega) HN.out.1 ha hb
      have HN2 : Hid (2 * n = 2 ^ (i + 1)) := by show _ = _; rw [HN.out.1, Nat.pow_succ, Nat.mul_comm]
      have hnb : 1 ≤ n ∧ n ≤ 8 := by rw [HN.out.1]; exact ⟨Nat.two_pow_pos i, show 2 ^ i ≤ 2 ^ 3 from Nat.pow_le_pow_right (by decide) (by omega)⟩
      obtain ⟨hn1, hn8⟩ := hnb
      have HZ : Hid (z = n * n) := HN.out.2
      have hzz : n * n ≤ 64 := Nat.le_trans (Nat.mul_le_mul hn8 hn8) (by decide)
      obtain ⟨dn, Hdn⟩ : ∃ q, Hid (2 * n = q) := ⟨_, rfl⟩
      obtain ⟨fn, Hfn⟩ : ∃ q, Hid (4 * n = q) := ⟨_, rfl⟩
      obtain ⟨z4, Hz4⟩ : ∃ q, Hid (4 * n * n = q) := ⟨_, rfl⟩
      have hdn : (2 : Int) * (n : Int) = (dn : Int) := by rw [← Hdn.out]; simp
      have hfn : (4 : Int) * (n : Int) = (fn : Int) := by rw [← Hfn.out]; simp
      have hz4 : (fn : Int) * (n : Int) = (z4 : Int) := by rw [← Hz4.out, ← Hfn.out]; simp
      have hdn99 : dn ≤ 99 := by rw [← Hdn.out]; omega
      have hfn99 : fn ≤ 99 := by rw [← Hfn.out]; omega
      have HZ4 : Hid (z4 = 2 * n * (2 * n)) := by show _ = _; rw [← Hz4.out, Nat.mul_assoc, Nat.mul_assoc, Nat.mul_left_comm n 2 n, ← Nat.mul_assoc 2 2]
      have hz99 : z4 ≤ 999 := by rw [HZ4.out]; exact Nat.le_trans (Nat.mul_le_mul (show 2 * n ≤ 16 by omega) (show 2 * n ≤ 16 by omega)) (by decide)
      have hmk := run_makeN z4 (by omega)
      obtain ⟨w1, Hw1⟩ : ∃ w1 : World, Hid (w1 = wr) := ⟨_, rfl⟩
      have HR0 : Hid (w1.heap[s]? = some (.cells #[.int .i64 0, .slice none 0 0] 24 (0, 0))) := by rw [Hw1.out]; exact R0
      have HR2 : Hid (w1.heap[s + 1 + 1]? = some (.cells #[.int .i64 (n : Int), .slice (some ⟨g, 0, none⟩) z cp] 24 (0, 0))) := by rw [Hw1.out]; exact R2
      have HO : Hid (Own w1 g z (fun j => syF (j / n) (j % n))) := by rw [Hw1.out]; exact hO
      have HSZ : Hid (s + 1 + 1 + 1 ≤ w1.heap.size) := by rw [Hw1.out]; exact hsz
      have HB1 : Hid (Below s w w1) := by rw [Hw1.out]; exact hB
      obtain ⟨g2, Hg2⟩ : ∃ q, Hid (wr.heap.size = q) := ⟨_, rfl⟩
      have hg2 : wr.heap.size = g2 := Hg2.out
      have HG : Hid (w1.heap.size = g2) := by rw [Hw1.out]; exact hg2
      have o0 : Own ((wr.alloc (.cells (madeCells #[.int .i64 0] z4) 3)).alloc (.cells #[.int .i64 (dn : Int), .slice (some ⟨g2, 0, none⟩) z4 z4] 24)) g2 z4 (stS n syF (0 * n)) := by
        have h := (own_made0 wr z4).below (balloc _ (.cells #[.int .i64 (dn : Int), .slice (some ⟨g2, 0, none⟩) z4 z4] 24))
        rw [hg2] at h
        exact h.congr fun j _ => by rw [Nat.zero_mul, stS_zero]
      have t0 : ((wr.alloc (.cells (madeCells #[.int .i64 0] z4) 3)).alloc (.cells #[.int .i64 (dn : Int), .slice (some ⟨g2, 0, none⟩) z4 z4] 24)).heap[g2 + 1]? = some (.cells #[.int .i64 (dn : Int), .slice (some ⟨g2, 0, none⟩) z4 z4] 24 (0, 0)) := by
        have := heap_alloc_new (wr.alloc (.cells (madeCells #[.int .i64 0] z4) 3)) (.cells #[.int .i64 (dn : Int), .slice (some ⟨g2, 0, none⟩) z4 z4] 24)
        rw [show (wr.alloc (.cells (madeCells #[.int .i64 0] z4) 3)).heap.size = g2 + 1 by simp; omega] at this
        exact this
      have b1 : Below g2 w1 ((wr.alloc (.cells (madeCells #[.int .i64 0] z4) 3)).alloc (.cells #[.int .i64 (dn : Int), .slice (some ⟨g2, 0, none⟩) z4 z4] 24)) := by
        rw [Hw1.out, ← hg2]
        exact Below.next (balloc _ _) (balloc _ _)
      clear R0 R2 hO hsz hB
      go_wp2
      clear b0 hmk
      go_loopw [8] (fun av wr' => ∃ (a : Nat), av = .int .i64 (a : Int) ∧ a ≤ n ∧ Own wr' g2 z4 (stS n syF (a * n)) ∧ wr'.heap[g2 + 1]? = some (.cells #[.int .i64 (dn : Int), .slice (some ⟨g2, 0, none⟩) z4 z4] 24 (0, 0)) ∧ Below g2 w1 wr') (fun av _ => (n - intOf av).toNat)
      case atStart => exact ⟨0, rfl, by omega, o0, t0, b1⟩
      case round =>
        clear o0 t0 b1
        obtain ⟨a, rfl, ha, o0, t0, b1⟩ := hrel
        by_cases hla : a < n
        · have hda : decide ((a : Int) < (n : Int)) = true := by simp; omega
          go_wp2
          go_loopw [9] (fun bv wr' => ∃ (b : Nat), bv = .int .i64 (b : Int) ∧ b ≤ n ∧ Own wr' g2 z4 (stS n syF (a * n + b)) ∧ wr'.heap[g2 + 1]? = some (.cells #[.int .i64 (dn : Int), .slice (some ⟨g2, 0, none⟩) z4 z4] 24 (0, 0)) ∧ Below g2 w1 wr') (fun bv _ => (n - intOf bv).toNat)
          case atStart => exact ⟨0, rfl, by omega, o0, t0, b1⟩
          case round =>
            clear o0 t0 b1
            obtain ⟨b, rfl, hb, o0, t0, b1⟩ := hrel
            by_cases hlb : b < n
            · have hdb : decide ((b : Int) < (n : Int)) = true := by simp; omega
              have hsl : s + 1 + 1 + 1 ≤ g2 := by rw [← HG.out]; exact HSZ.out
              have hgl : g < g2 := by rw [← HG.out]; exact HO.out.lt
              have S2 := (b1.block (s + 1 + 1) (by omega)).trans HR2.out
              have sc : wr.cell? ⟨s + 1 + 1, 1, none⟩ = some (.slice (some ⟨g, 0, none⟩) z cp) := by rw [cell_of_row _ _ _ _ _ _ S2]; rfl
              have kz : a * n + b < z := by rw [HZ.out]; exact cell_ltH hla hlb
              have cx := (b1.cell (p := ⟨g, a * n + b, none⟩) hgl).trans (HO.out.cell _ kz)
              have dx := dm n (by omega) (a := a) hlb
              rw [dx.1, dx.2] at cx
              obtain ⟨d1', d2', d3'⟩ := HDB.out a b hla hlb
              have gx := syF_sg a b
              have HST : Hid (∀ q, q < z4 → up1 (up1 (up1 (up1 (stS n syF (a * n + b)) (a * (2 * n) + b) (syF a b)) (a * (2 * n) + (n + b)) (syF a b)) ((n + a) * (2 * n) + b) (syF a b)) ((n + a) * (2 * n) + (n + b)) (- syF a b) q = stS n syF (a * n + (b + 1)) q) := fun q hq => stS_step hla hlb (by rw [← HZ4.out]; exact hq) d1' d2' d3'
              have l0 : a * (2 * n) + b < z4 := by rw [HZ4.out]; exact cell_ltH (by omega) (by omega)
              have l1 : a * (2 * n) + (n + b) < z4 := by rw [HZ4.out]; exact cell_ltH (by omega) (by omega)
              have l2 : (n + a) * (2 * n) + b < z4 := by rw [HZ4.out]; exact cell_ltH (by omega) (by omega)
              have l3 : (n + a) * (2 * n) + (n + b) < z4 := by rw [HZ4.out]; exact cell_ltH (by omega) (by omega)
              obtain ⟨x, Hx⟩ : ∃ x, Hid (syF a b = x) := ⟨_, rfl⟩
              rw [Hx.out] at cx gx HST
              have gx1 : -1 ≤ x ∧ x ≤ 1 := by rcases gx with h | h <;> omega
              obtain ⟨gx2, gx3⟩ := gx1
              obtain ⟨nx, hnx⟩ : ∃ q, -x = q := ⟨_, rfl⟩
              rw [hnx] at HST
              have gn2 : -1 ≤ nx := by omega
              have gn3 : nx ≤ 1 := by omega
              obtain ⟨m, Hm⟩ : ∃ q, Hid (a * n = q) := ⟨_, rfl⟩
              have hm : (a : Int) * (n : Int) = (m : Int) := by rw [← Hm.out]; simp
              obtain ⟨mb, Hmb⟩ : ∃ q, Hid (m + b = q) := ⟨_, rfl⟩
              have hmb : (m : Int) + (b : Int) = (mb : Int) := by rw [← Hmb.out]; simp
              rw [Hm.out, Hmb.out] at cx kz
              have kz' : (mb : Int) < (z : Int) := by omega
              have z99 : z ≤ 99 := by rw [HZ.out]; omega
              obtain ⟨a2, Ha2⟩ : ∃ q, Hid (a * 2 = q) := ⟨_, rfl⟩
              have ha2 : (a : Int) * 2 = (a2 : Int) := by rw [← Ha2.out]; simp
              obtain ⟨u0, Hu0⟩ : ∃ q, Hid (a2 * n = q) := ⟨_, rfl⟩
              have hu0 : (a2 : Int) * (n : Int) = (u0 : Int) := by rw [← Hu0.out]; simp
              obtain ⟨p0, Hp0⟩ : ∃ q, Hid (u0 + b = q) := ⟨_, rfl⟩
              have hp0 : (u0 : Int) + (b : Int) = (p0 : Int) := by rw [← Hp0.out]; simp
              obtain ⟨u1, Hu1⟩ : ∃ q, Hid (u0 + n = q) := ⟨_, rfl⟩
              have hu1 : (u0 : Int) + (n : Int) = (u1 : Int) := by rw [← Hu1.out]; simp
              obtain ⟨p1, Hp1⟩ : ∃ q, Hid (u1 + b = q) := ⟨_, rfl⟩
              have hp1 : (u1 : Int) + (b : Int) = (p1 : Int) := by rw [← Hp1.out]; simp
              obtain ⟨na, Hna⟩ : ∃ q, Hid (n + a = q) := ⟨_, rfl⟩
              have hna : (n : Int) + (a : Int) = (na : Int) := by rw [← Hna.out]; simp
              obtain ⟨na2, Hna2⟩ : ∃ q, Hid (na * 2 = q) := ⟨_, rfl⟩
              have hna2 : (na : Int) * 2 = (na2 : Int) := by rw [← Hna2.out]; simp
              obtain ⟨u2, Hu2⟩ : ∃ q, Hid (na2 * n = q) := ⟨_, rfl⟩
              have hu2 : (na2 : Int) * (n : Int) = (u2 : Int) := by rw [← Hu2.out]; simp
              obtain ⟨p2, Hp2⟩ : ∃ q, Hid (u2 + b = q) := ⟨_, rfl⟩
              have hp2 : (u2 : Int) + (b : Int) = (p2 : Int) := by rw [← Hp2.out]; simp
              obtain ⟨u3, Hu3⟩ : ∃ q, Hid (u2 + n = q) := ⟨_, rfl⟩
              have hu3 : (u2 : Int) + (n : Int) = (u3 : Int) := by rw [← Hu3.out]; simp
              obtain ⟨p3, Hp3⟩ : ∃ q, Hid (u3 + b = q) := ⟨_, rfl⟩
              have hp3 : (u3 : Int) + (b : Int) = (p3 : Int) := by rw [← Hp3.out]; simp
              have E0 : a * (2 * n) + b = p0 := by rw [← Nat.mul_assoc, Ha2.out, Hu0.out, Hp0.out]
              have E1 : a * (2 * n) + (n + b) = p1 := by rw [← Nat.mul_assoc, Ha2.out, Hu0.out, ← Nat.add_assoc, Hu1.out, Hp1.out]
              have E2 : (n + a) * (2 * n) + b = p2 := by rw [← Nat.mul_assoc, Hna.out, Hna2.out, Hu2.out, Hp2.out]
              have E3 : (n + a) * (2 * n) + (n + b) = p3 := by rw [← Nat.mul_assoc, Hna.out, Hna2.out, Hu2.out, ← Nat.add_assoc, Hu3.out, Hp3.out]
              rw [E0] at l0
              rw [E1] at l1
              rw [E2] at l2
              rw [E3] at l3
              rw [E0, E1, E2, E3] at HST
              have L0 : (p0 : Int) < (z4 : Int) := by omega
              have L1 : (p1 : Int) < (z4 : Int) := by omega
              have L2 : (p2 : Int) < (z4 : Int) := by omega
              have L3 : (p3 : Int) < (z4 : Int) := by omega
              have s1 : a2 ≤ 99 := by rw [← Ha2.out]; omega
              have s2 : u0 ≤ 999 := by have := Hp0.out; omega
              have s3 : u1 ≤ 999 := by have := Hp1.out; omega
              have s4 : na ≤ 99 := by rw [← Hna.out]; omega
              have s5 : na2 ≤ 99 := by rw [← Hna2.out]; omega
              have s6 : u2 ≤ 999 := by have := Hp2.out; omega
              have s7 : u3 ≤ 999 := by have := Hp3.out; omega
              have s8 : m ≤ 999 := by have := Hmb.out; omega
              have c0 := o0.cell p0 l0
              have f0 := o0.frozen p0
              have e0 : wr.cell? ⟨g2 + 1, 1, none⟩ = some (.slice (some ⟨g2, 0, none⟩) z4 z4) := by rw [cell_of_row _ _ _ _ _ _ t0]; rfl
              have o1 := o0.set p0 x
              have t1 := (heap_setCell_other wr ⟨g2, p0, none⟩ (g2 + 1) (.int .i64 x) (by show g2 + 1 ≠ g2; omega)).trans t0
              have b2 := b1.setCell (p := ⟨g2, p0, none⟩) (by show g2 ≤ g2; omega) (.int .i64 x)
              have c1 := o1.cell p1 l1
              have f1 := o1.frozen p1
              have e1 : (wr.setCell ⟨g2, p0, none⟩ (.int .i64 x)).cell? ⟨g2 + 1, 1, none⟩ = some (.slice (some ⟨g2, 0, none⟩) z4 z4) := by rw [cell_of_row _ _ _ _ _ _ t1]; rfl
              have o2 := o1.set p1 x
              have t2 := (heap_setCell_other (wr.setCell ⟨g2, p0, none⟩ (.int .i64 x)) ⟨g2, p1, none⟩ (g2 + 1) (.int .i64 x) (by show g2 + 1 ≠ g2; omega)).trans t1
              have b3 := b2.setCell (p := ⟨g2, p1, none⟩) (by show g2 ≤ g2; omega) (.int .i64 x)
              have c2 := o2.cell p2 l2
              have f2 := o2.frozen p2
              have e2 : ((wr.setCell ⟨g2, p0, none⟩ (.int .i64 x)).setCell ⟨g2, p1, none⟩ (.int .i64 x)).cell? ⟨g2 + 1, 1, none⟩ = some (.slice (some ⟨g2, 0, none⟩) z4 z4) := by rw [cell_of_row _ _ _ _ _ _ t2]; rfl
              have o3 := o2.set p2 x
              have t3 := (heap_setCell_other ((wr.setCell ⟨g2, p0, none⟩ (.int .i64 x)).setCell ⟨g2, p1, none⟩ (.int .i64 x)) ⟨g2, p2, none⟩ (g2 + 1) (.int .i64 x) (by show g2 + 1 ≠ g2; omega)).trans t2
              have b4 := b3.setCell (p := ⟨g2, p2, none⟩) (by show g2 ≤ g2; omega) (.int .i64 x)
              have c3 := o3.cell p3 l3
              have f3 := o3.frozen p3
              have e3 : (((wr.setCell ⟨g2, p0, none⟩ (.int .i64 x)).setCell ⟨g2, p1, none⟩ (.int .i64 x)).setCell ⟨g2, p2, none⟩ (.int .i64 x)).cell? ⟨g2 + 1, 1, none⟩ = some (.slice (some ⟨g2, 0, none⟩) z4 z4) := by rw [cell_of_row _ _ _ _ _ _ t3]; rfl
              have o4 := o3.set p3 nx
              have t4 := (heap_setCell_other (((wr.setCell ⟨g2, p0, none⟩ (.int .i64 x)).setCell ⟨g2, p1, none⟩ (.int .i64 x)).setCell ⟨g2, p2, none⟩ (.int .i64 x)) ⟨g2, p3, none⟩ (g2 + 1) (.int .i64 nx) (by show g2 + 1 ≠ g2; omega)).trans t3
              have b5 := b4.setCell (p := ⟨g2, p3, none⟩) (by show g2 ≤ g2; omega) (.int .i64 nx)
              have HO5 : Hid _ := o4.congr HST.out
              have HT5 : Hid _ := t4
              have HB5 : Hid _ := b5
              clear S2 dx d1' d2' d3' gx HST E0 E1 E2 E3 o0 o1 o2 o3 o4 t0 t1 t2 t3 t4 b1 b2 b3 b4 b5
              go_wp2
              go_roundw
              case rel => exact ⟨b + 1, by go_num, by omega, HO5.out, HT5.out, HB5.out⟩
              case measure => simp [intOf]; omega
            · have hdb : decide ((b : Int) < (n : Int)) = false := by simp; omega
              have o1 := o0.congr (f' := stS n syF ((a + 1) * n)) (fun q _ => by rw [show b = n by omega, Nat.add_mul, Nat.one_mul])
              go_wp2
              go_roundw
              case rel => exact ⟨a + 1, by go_num, by omega, o1, t0, b1⟩
              case measure => simp [intOf]; omega
        · have hda : decide ((a : Int) < (n : Int)) = false := by simp; omega
          have hsl : s + 1 + 1 + 1 ≤ g2 := by rw [← HG.out]; exact HSZ.out
          have o1 := o0.congr (f' := fun j => syF (j / dn) (j % dn)) (fun q _ => by rw [show a = n by omega, stS_full syF (by omega), Hdn.out])
          have S2 := (b1.block (s + 1 + 1) (by omega)).trans HR2.out
          have S0 := (b1.block s (by omega)).trans HR0.out
          have tc0 : wr.cell? ⟨g2 + 1, 0, none⟩ = some (.int .i64 (dn : Int)) := by rw [cell_of_row _ _ _ _ _ _ t0]; rfl
          have tc1 : wr.cell? ⟨g2 + 1, 1, none⟩ = some (.slice (some ⟨g2, 0, none⟩) z4 z4) := by rw [cell_of_row _ _ _ _ _ _ t0]; rfl
          have sc0 : wr.cell? ⟨s + 1 + 1, 0, none⟩ = some (.int .i64 (n : Int)) := by rw [cell_of_row _ _ _ _ _ _ S2]; rfl
          have sc1 : wr.cell? ⟨s + 1 + 1, 1, none⟩ = some (.slice (some ⟨g, 0, none⟩) z cp) := by rw [cell_of_row _ _ _ _ _ _ S2]; rfl
          have f0 := frozen_of_row wr (s + 1 + 1) 0 _ _ S2
          have f1 := frozen_of_row wr (s + 1 + 1) 1 _ _ S2
          have n1 := heap_setCell_same wr (s + 1 + 1) 0 _ _ (.int .i64 (dn : Int)) S2
          have n2 := heap_setCell_same _ (s + 1 + 1) 1 _ _ (.slice (some ⟨g2, 0, none⟩) z4 z4) n1
          have k0 := (heap_setCell_other (wr.setCell ⟨s + 1 + 1, 0, none⟩ (.int .i64 (dn : Int))) ⟨s + 1 + 1, 1, none⟩ s (.slice (some ⟨g2, 0, none⟩) z4 z4) (by show s ≠ s + 1 + 1; omega)).trans ((heap_setCell_other wr ⟨s + 1 + 1, 0, none⟩ s (.int .i64 (dn : Int)) (by show s ≠ s + 1 + 1; omega)).trans S0)
          have o2 := (o1.other ⟨s + 1 + 1, 0, none⟩ (.int .i64 (dn : Int)) (by show g2 ≠ s + 1 + 1; omega)).other ⟨s + 1 + 1, 1, none⟩ (.slice (some ⟨g2, 0, none⟩) z4 z4) (by show g2 ≠ s + 1 + 1; omega)
          have B2 := ((HB1.out.trans (b1.mono (by omega))).setCell (p := ⟨s + 1 + 1, 0, none⟩) (by show s ≤ s + 1 + 1; omega) (.int .i64 (dn : Int))).setCell (p := ⟨s + 1 + 1, 1, none⟩) (by show s ≤ s + 1 + 1; omega) (.slice (some ⟨g2, 0, none⟩) z4 z4)
          have hsz2 : s + 1 + 1 + 1 ≤ ((wr.setCell ⟨s + 1 + 1, 0, none⟩ (.int .i64 (dn : Int))).setCell ⟨s + 1 + 1, 1, none⟩ (.slice (some ⟨g2, 0, none⟩) z4 z4)).heap.size := by have := o1.lt; simp; omega
          have HNN : Hid (dn = 2 ^ (i + 1) ∧ z4 = dn * dn) := ⟨by rw [← Hdn.out]; exact HN2.out, by rw [HZ4.out, Hdn.out]⟩
          clear o0 o1 t0 b1 S2 S0 n1
          go_wp2
          go_roundw
          case rel => exact ⟨i + 1, dn, z4, g2, z4, by go_num, by omega, HNN, k0, n2, o2, hsz2, by omega, B2⟩
          case measure => simp [intOf]; omega
    · have hdi : decide ((i : Int) < (k : Int)) = false := by simp; omega
      obtain rfl : n = NK := by rw [← HNK.out, HN.out.1, show i = k by omega]
      have HZZ : Hid (z = n * n) := HN.out.2
      have c1 : wr.cell? ⟨s + 1 + 1, 1, none⟩ = some (.slice (some ⟨g, 0, none⟩) z cp) := by rw [cell_of_row _ _ _ _ _ _ R2]; rfl
      have a2 : wr.cell? ⟨s, 0, none⟩ = some (.int .i64 0) := by rw [cell_of_row _ _ _ _ _ _ R0]; rfl
      have a3 : wr.cell? ⟨s, 1, none⟩ = some (.slice none 0 0) := by rw [cell_of_row _ _ _ _ _ _ R0]; rfl
      have f0 := frozen_of_row wr s 0 _ _ R0
      have f1 := frozen_of_row wr s 1 _ _ R0
      have hn1 := heap_setCell_same wr s 0 _ _ (.int .i64 (n : Int)) R0
      have hn2 := heap_setCell_same _ s 1 _ _ (.slice (some ⟨g, 0, none⟩) z cp) hn1
      have hS := ((hO.other ⟨s, 0, none⟩ (.int .i64 (n : Int)) (by show g ≠ s; omega)).other ⟨s, 1, none⟩ (.slice (some ⟨g, 0, none⟩) z cp) (by show g ≠ s; omega))
      have hS2 : OwnS _ (.slice (some ⟨g, 0, none⟩) z cp) (flI n syF z) := .inr ⟨g, cp, by rw [flI_len], by rw [flI_len]; exact hS.congr fun j hj => (flI_at hj).symm⟩
      have HS : Hid _ := hS2
      have hB2 := (hB.setCell (p := ⟨s, 0, none⟩) (by show s ≤ s; omega) (.int .i64 (n : Int))).setCell (p := ⟨s, 1, none⟩) (by show s ≤ s; omega) (.slice (some ⟨g, 0, none⟩) z cp)
      clear hS hS2 hO hn1
      go_wp2
      exact post_sq2 2 3 Tryd.results6 rfl hn2 rfl rfl ⟨⟨_, rfl, by rw [← HZZ.out]; exact HS.out⟩, by first | exact hB2 | (rw [hs]; exact hB2)⟩
end Go.Proofs.YtamdpcajfgbagaaDoor
