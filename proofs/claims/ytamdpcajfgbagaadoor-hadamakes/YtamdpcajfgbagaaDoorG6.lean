/- The walk of the document's SignsProduct. -/
import Derived.Test.YtamdpcajfgbagaaDoorG4
import Derived.Test.YtamdpcajfgbagaaDoorG0
import Derived.OwnWalk
import Derived.Deep.QuietTactic
import Derived.BigQuiet
namespace Go.Proofs.YtamdpcajfgbagaaDoor
open Go.RowKit

set_option maxRecDepth 100000 in
set_option maxHeartbeats 4000000 in
theorem SPro_full (n m : Nat) (L M : List Int) (u v : Value) (w : World) (hu : Sl w u L) (hv : Sl w v M) (G1 : GoodH n L) (G2 : GoodH m M) (hf : 8 * 3 < n * m) :
    Calls Tryd.prog 12 #[.agg #[.int .i64 (n : Int), u], .agg #[.int .i64 (m : Int), v]] w fun e w' => e = .returned (.tuple #[.agg #[.int .i64 0, .slice none 0 0], .int .i64 3]) ∧ Below w.heap.size w w' := by
  obtain ⟨aa, ao, ac, rfl, hal, hac⟩ := hu.form G1.len (Nat.mul_pos G1.pos G1.pos)
  obtain ⟨ba, bo, bc, rfl, hbl, hbc⟩ := hv.form G2.len (Nat.mul_pos G2.pos G2.pos)
  obtain ⟨za, Hza⟩ : ∃ z, Hid (n * n = z) := ⟨_, rfl⟩
  obtain ⟨zb, Hzb⟩ : ∃ z, Hid (m * m = z) := ⟨_, rfl⟩
  have za99 : za ≤ 999 := by rw [← Hza.out]; exact Nat.le_trans (Nat.mul_le_mul G1.le G1.le) (by decide)
  have zb99 : zb ≤ 999 := by rw [← Hzb.out]; exact Nat.le_trans (Nat.mul_le_mul G2.le G2.le) (by decide)
  have hnl := G1.le
  have hml := G2.le
  have hmp := G2.pos
  have hN99 : n * m ≤ 999 := Nat.le_trans (Nat.mul_le_mul G1.le G2.le) (by decide)
  obtain ⟨N, HN⟩ : ∃ N, Hid (n * m = N) := ⟨_, rfl⟩
  have hnm : (n : Int) * (m : Int) = (N : Int) := by rw [← HN.out]; simp
  rw [HN.out] at hf hN99
  rw [Hza.out, Hzb.out]
  have d24 : decide (24 < (N : Int)) = true := by simp; omega
  have HB : Hid (Below w.heap.size w (((w.alloc (.cells #[.int .i64 (n : Int), .slice (some ⟨aa, ao, none⟩) za ac] 24)).alloc (.cells #[.int .i64 (m : Int), .slice (some ⟨ba, bo, none⟩) zb bc] 24)).alloc (.cells #[.int .i64 0, .slice none 0 0] 24))) := Below.next (Below.next (balloc _ _) (balloc _ _)) (balloc _ _)
  have HR : Hid ((((w.alloc (.cells #[.int .i64 (n : Int), .slice (some ⟨aa, ao, none⟩) za ac] 24)).alloc (.cells #[.int .i64 (m : Int), .slice (some ⟨ba, bo, none⟩) zb bc] 24)).alloc (.cells #[.int .i64 0, .slice none 0 0] 24)).heap[w.heap.size + 1 + 1]? = some (.cells #[.int .i64 0, .slice none 0 0] 24 (0, 0))) := by
    show _ = _
    have := heap_alloc_new ((w.alloc (.cells #[.int .i64 (n : Int), .slice (some ⟨aa, ao, none⟩) za ac] 24)).alloc (.cells #[.int .i64 (m : Int), .slice (some ⟨ba, bo, none⟩) zb bc] 24)) (.cells #[.int .i64 0, .slice none 0 0] 24)
    simpa using this
  have q0 : (((w.alloc (.cells #[.int .i64 (n : Int), .slice (some ⟨aa, ao, none⟩) za ac] 24)).alloc (.cells #[.int .i64 (m : Int), .slice (some ⟨ba, bo, none⟩) zb bc] 24)).alloc (.cells #[.int .i64 0, .slice none 0 0] 24)).cell? ⟨w.heap.size, 0, none⟩ = some (.int .i64 (n : Int)) := by
    have h : (((w.alloc (.cells #[.int .i64 (n : Int), .slice (some ⟨aa, ao, none⟩) za ac] 24)).alloc (.cells #[.int .i64 (m : Int), .slice (some ⟨ba, bo, none⟩) zb bc] 24)).alloc (.cells #[.int .i64 0, .slice none 0 0] 24)).heap[w.heap.size]? = some (.cells #[.int .i64 (n : Int), .slice (some ⟨aa, ao, none⟩) za ac] 24 (0, 0)) := (Below.heap_alloc _ _ _ (by simp; omega)).trans ((Below.heap_alloc _ _ _ (by simp)).trans (heap_alloc_new w _))
    rw [cell_of_row _ _ _ _ _ _ h]; rfl
  clear hu hv G1 G2 hac hbc hf
  go_enter Tryd.func12, Tryd.ntmps12
  go_wp2
  exact post_sq2 4 5 Tryd.results12 rfl HR.out rfl rfl ⟨rfl, HB.out⟩
set_option maxRecDepth 100000 in
set_option maxHeartbeats 16000000 in
theorem SPro_ok (n m : Nat) (L M : List Int) (u v : Value) (w : World) (hu : Sl w u L) (hv : Sl w v M) (G1 : GoodH n L) (G2 : GoodH m M) (hf : n * m ≤ 8 * 3) :
    Calls Tryd.prog 12 #[.agg #[.int .i64 (n : Int), u], .agg #[.int .i64 (m : Int), v]] w fun e w' => (∃ y, e = .returned (.tuple #[.agg #[.int .i64 ((n * m : Nat) : Int), y], .int .i64 0]) ∧ OwnS w' y (flI (n * m) (prd m (mx n L) (mx m M)) ((n * m) * (n * m)))) ∧ Below w.heap.size w w' := by
  obtain ⟨i3, hi3, hz0, hz1, hz2⟩ := info3
  obtain ⟨aa, ao, ac, rfl, hal, hac⟩ := hu.form G1.len (Nat.mul_pos G1.pos G1.pos)
  obtain ⟨ba, bo, bc, rfl, hbl, hbc⟩ := hv.form G2.len (Nat.mul_pos G2.pos G2.pos)
  obtain ⟨za, Hza⟩ : ∃ z, Hid (n * n = z) := ⟨_, rfl⟩
  obtain ⟨zb, Hzb⟩ : ∃ z, Hid (m * m = z) := ⟨_, rfl⟩
  have za99 : za ≤ 999 := by rw [← Hza.out]; exact Nat.le_trans (Nat.mul_le_mul G1.le G1.le) (by decide)
  have zb99 : zb ≤ 999 := by rw [← Hzb.out]; exact Nat.le_trans (Nat.mul_le_mul G2.le G2.le) (by decide)
  have hnl := G1.le
  have hml := G2.le
  have hmp := G2.pos
  have hN99 : n * m ≤ 999 := Nat.le_trans (Nat.mul_le_mul G1.le G2.le) (by decide)
  obtain ⟨N, HN⟩ : ∃ N, Hid (n * m = N) := ⟨_, rfl⟩
  have hnm : (n : Int) * (m : Int) = (N : Int) := by rw [← HN.out]; simp
  have HA : Hid (∀ i j, i < n → j < n → i * n + j < za ∧ w.cell? ⟨aa, ao + (i * n + j), none⟩ = some (.int .i64 (mx n L i j)) ∧ Sg (mx n L i j)) := fun i j hi hj => ⟨by rw [← Hza.out]; exact cell_ltH hi hj, hac _ (cell_ltH hi hj), G1.had.one i j hi hj⟩
  have HB' : Hid (∀ i j, i < m → j < m → i * m + j < zb ∧ w.cell? ⟨ba, bo + (i * m + j), none⟩ = some (.int .i64 (mx m M i j)) ∧ Sg (mx m M i j)) := fun i j hi hj => ⟨by rw [← Hzb.out]; exact cell_ltH hi hj, hbc _ (cell_ltH hi hj), G2.had.one i j hi hj⟩
  have HDV : Hid (∀ i, i < N → i / m < n ∧ i % m < m) := fun i hi => ⟨div_lt' (by rw [HN.out]; exact hi), Nat.mod_lt _ hmp⟩
  have HT : Hid (∀ i j, prd m (mx n L) (mx m M) i j = mx n L (i / m) (j / m) * mx m M (i % m) (j % m)) := fun _ _ => rfl
  generalize prd m (mx n L) (mx m M) = t at *
  generalize mx n L = A at *
  generalize mx m M = B at *
  rw [HN.out] at hf hN99 ⊢
  rw [Hza.out, Hzb.out]
  have d24 : decide (24 < (N : Int)) = false := by simp; omega
  have NN99 : N * N ≤ 999 := Nat.le_trans (Nat.mul_le_mul hf hf) (by decide)
  obtain ⟨s, Hs⟩ : ∃ s, Hid (w.heap.size = s) := ⟨_, rfl⟩
  have hs : w.heap.size = s := Hs.out
  have R0 : ((((w.alloc (.cells #[.int .i64 (n : Int), .slice (some ⟨aa, ao, none⟩) za ac] 24)).alloc (.cells #[.int .i64 (m : Int), .slice (some ⟨ba, bo, none⟩) zb bc] 24)).alloc (.cells #[.int .i64 0, .slice none 0 0] 24)).alloc (.cells #[.int .i64 (N : Int), .slice none 0 0] 24)).heap[s]? = some (.cells #[.int .i64 (n : Int), .slice (some ⟨aa, ao, none⟩) za ac] 24 (0, 0)) := by rw [← hs]; exact (Below.heap_alloc _ _ _ (by simp; omega)).trans ((Below.heap_alloc _ _ _ (by simp; omega)).trans ((Below.heap_alloc _ _ _ (by simp)).trans (heap_alloc_new w _)))
  have R1 : ((((w.alloc (.cells #[.int .i64 (n : Int), .slice (some ⟨aa, ao, none⟩) za ac] 24)).alloc (.cells #[.int .i64 (m : Int), .slice (some ⟨ba, bo, none⟩) zb bc] 24)).alloc (.cells #[.int .i64 0, .slice none 0 0] 24)).alloc (.cells #[.int .i64 (N : Int), .slice none 0 0] 24)).heap[s + 1]? = some (.cells #[.int .i64 (m : Int), .slice (some ⟨ba, bo, none⟩) zb bc] 24 (0, 0)) := by
    rw [← hs]
    refine (Below.heap_alloc _ _ _ (by simp)).trans ((Below.heap_alloc _ _ _ (by simp)).trans ?_)
    have := heap_alloc_new (w.alloc (.cells #[.int .i64 (n : Int), .slice (some ⟨aa, ao, none⟩) za ac] 24)) (.cells #[.int .i64 (m : Int), .slice (some ⟨ba, bo, none⟩) zb bc] 24)
    simpa using this
  have R2 : ((((w.alloc (.cells #[.int .i64 (n : Int), .slice (some ⟨aa, ao, none⟩) za ac] 24)).alloc (.cells #[.int .i64 (m : Int), .slice (some ⟨ba, bo, none⟩) zb bc] 24)).alloc (.cells #[.int .i64 0, .slice none 0 0] 24)).alloc (.cells #[.int .i64 (N : Int), .slice none 0 0] 24)).heap[s + 1 + 1]? = some (.cells #[.int .i64 0, .slice none 0 0] 24 (0, 0)) := by
    rw [← hs]
    refine (Below.heap_alloc _ _ _ (by simp)).trans ?_
    have := heap_alloc_new ((w.alloc (.cells #[.int .i64 (n : Int), .slice (some ⟨aa, ao, none⟩) za ac] 24)).alloc (.cells #[.int .i64 (m : Int), .slice (some ⟨ba, bo, none⟩) zb bc] 24)) (.cells #[.int .i64 0, .slice none 0 0] 24)
    simpa using this
  have R3 : ((((w.alloc (.cells #[.int .i64 (n : Int), .slice (some ⟨aa, ao, none⟩) za ac] 24)).alloc (.cells #[.int .i64 (m : Int), .slice (some ⟨ba, bo, none⟩) zb bc] 24)).alloc (.cells #[.int .i64 0, .slice none 0 0] 24)).alloc (.cells #[.int .i64 (N : Int), .slice none 0 0] 24)).heap[s + 1 + 1 + 1]? = some (.cells #[.int .i64 (N : Int), .slice none 0 0] 24 (0, 0)) := by
    rw [← hs]
    have := heap_alloc_new (((w.alloc (.cells #[.int .i64 (n : Int), .slice (some ⟨aa, ao, none⟩) za ac] 24)).alloc (.cells #[.int .i64 (m : Int), .slice (some ⟨ba, bo, none⟩) zb bc] 24)).alloc (.cells #[.int .i64 0, .slice none 0 0] 24)) (.cells #[.int .i64 (N : Int), .slice none 0 0] 24)
    simpa using this
  have hb0 : Below s w ((((w.alloc (.cells #[.int .i64 (n : Int), .slice (some ⟨aa, ao, none⟩) za ac] 24)).alloc (.cells #[.int .i64 (m : Int), .slice (some ⟨ba, bo, none⟩) zb bc] 24)).alloc (.cells #[.int .i64 0, .slice none 0 0] 24)).alloc (.cells #[.int .i64 (N : Int), .slice none 0 0] 24)) := by rw [← hs]; exact Below.next (Below.next (Below.next (balloc _ _) (balloc _ _)) (balloc _ _)) (balloc _ _)
  have hsz : s + 1 + 1 + 1 + 1 ≤ ((((w.alloc (.cells #[.int .i64 (n : Int), .slice (some ⟨aa, ao, none⟩) za ac] 24)).alloc (.cells #[.int .i64 (m : Int), .slice (some ⟨ba, bo, none⟩) zb bc] 24)).alloc (.cells #[.int .i64 0, .slice none 0 0] 24)).alloc (.cells #[.int .i64 (N : Int), .slice none 0 0] 24)).heap.size := by simp; omega
  have q0 : (((w.alloc (.cells #[.int .i64 (n : Int), .slice (some ⟨aa, ao, none⟩) za ac] 24)).alloc (.cells #[.int .i64 (m : Int), .slice (some ⟨ba, bo, none⟩) zb bc] 24)).alloc (.cells #[.int .i64 0, .slice none 0 0] 24)).cell? ⟨s, 0, none⟩ = some (.int .i64 (n : Int)) := by
    rw [← hs]
    have h : (((w.alloc (.cells #[.int .i64 (n : Int), .slice (some ⟨aa, ao, none⟩) za ac] 24)).alloc (.cells #[.int .i64 (m : Int), .slice (some ⟨ba, bo, none⟩) zb bc] 24)).alloc (.cells #[.int .i64 0, .slice none 0 0] 24)).heap[w.heap.size]? = some (.cells #[.int .i64 (n : Int), .slice (some ⟨aa, ao, none⟩) za ac] 24 (0, 0)) := (Below.heap_alloc _ _ _ (by simp; omega)).trans ((Below.heap_alloc _ _ _ (by simp)).trans (heap_alloc_new w _))
    rw [cell_of_row _ _ _ _ _ _ h]; rfl
  clear hu hv G1 G2 hac hbc
  go_enter Tryd.func12, Tryd.ntmps12
  go_wp2
  go_loopw [8] (fun iv wr => ∃ (i K : Nat) (o : Value), iv = .int .i64 (i : Int) ∧ i ≤ N ∧ Hid (K = i * N) ∧ wr.heap[s]? = some (.cells #[.int .i64 (n : Int), .slice (some ⟨aa, ao, none⟩) za ac] 24 (0, 0)) ∧ wr.heap[s + 1]? = some (.cells #[.int .i64 (m : Int), .slice (some ⟨ba, bo, none⟩) zb bc] 24 (0, 0)) ∧ wr.heap[s + 1 + 1]? = some (.cells #[.int .i64 0, .slice none 0 0] 24 (0, 0)) ∧ wr.heap[s + 1 + 1 + 1]? = some (.cells #[.int .i64 (N : Int), o] 24 (0, 0)) ∧ wr.ownsRow (s + 1 + 1 + 1 + 1) 3 1 o K (vi (flI N t K)) ∧ s + 1 + 1 + 1 + 1 ≤ wr.heap.size ∧ Below s w wr) (fun iv _ => (N - intOf iv).toNat)
  case atStart => exact ⟨0, 0, _, rfl, by omega, (by omega : 0 = 0 * N), R0, R1, R2, R3, World.ownsRow_nil _ _ _ _, hsz, hb0⟩
  case round =>
    clear R0 R1 R2 R3 hsz hb0 q0
    obtain ⟨i, K, o, rfl, hi, HK, R0, R1, R2, R3, hW, hsz, hB⟩ := hrel
    by_cases hli : i < N
    · have hdi : decide ((i : Int) < (N : Int)) = true := by simp; omega
      go_wp2
      go_loopw [9] (fun jv wr => ∃ (j K : Nat) (o : Value), jv = .int .i64 (j : Int) ∧ j ≤ N ∧ Hid (K = i * N + j) ∧ wr.heap[s]? = some (.cells #[.int .i64 (n : Int), .slice (some ⟨aa, ao, none⟩) za ac] 24 (0, 0)) ∧ wr.heap[s + 1]? = some (.cells #[.int .i64 (m : Int), .slice (some ⟨ba, bo, none⟩) zb bc] 24 (0, 0)) ∧ wr.heap[s + 1 + 1]? = some (.cells #[.int .i64 0, .slice none 0 0] 24 (0, 0)) ∧ wr.heap[s + 1 + 1 + 1]? = some (.cells #[.int .i64 (N : Int), o] 24 (0, 0)) ∧ wr.ownsRow (s + 1 + 1 + 1 + 1) 3 1 o K (vi (flI N t K)) ∧ s + 1 + 1 + 1 + 1 ≤ wr.heap.size ∧ Below s w wr) (fun jv _ => (N - intOf jv).toNat)
      case atStart => exact ⟨0, K, o, rfl, by omega, HK, R0, R1, R2, R3, hW, hsz, hB⟩
      case round =>
        clear R0 R1 R2 R3 hsz hB hW HK
        obtain ⟨j, K, o, rfl, hj, HK, R0, R1, R2, R3, hW, hsz, hB⟩ := hrel
        by_cases hlj : j < N
        · have hdj : decide ((j : Int) < (N : Int)) = true := by simp; omega
          have hK99 : K ≤ 999 := by rw [HK.out]; have := cell_ltH hli hlj; omega
          have HK2 : Hid (K + 1 = i * N + (j + 1)) := by show _ = _; rw [HK.out]; omega
          have HFL : Hid (vi (flI N t (K + 1)) = vi (flI N t K) ++ [.int .i64 (t i j)]) := by show _ = _; rw [HK.out]; exact fl_succ t hlj
          have x0 : wr.cell? ⟨s, 0, none⟩ = some (.int .i64 (n : Int)) := by rw [cell_of_row _ _ _ _ _ _ R0]; rfl
          have x1 : wr.cell? ⟨s, 1, none⟩ = some (.slice (some ⟨aa, ao, none⟩) za ac) := by rw [cell_of_row _ _ _ _ _ _ R0]; rfl
          have y0 : wr.cell? ⟨s + 1, 0, none⟩ = some (.int .i64 (m : Int)) := by rw [cell_of_row _ _ _ _ _ _ R1]; rfl
          have y1 : wr.cell? ⟨s + 1, 1, none⟩ = some (.slice (some ⟨ba, bo, none⟩) zb bc) := by rw [cell_of_row _ _ _ _ _ _ R1]; rfl
          obtain ⟨iA, iB⟩ := HDV.out i hli
          obtain ⟨jA, jB⟩ := HDV.out j hlj
          obtain ⟨kA, cA, gA⟩ := HA.out _ _ iA jA
          obtain ⟨kB, cB, gB⟩ := HB'.out _ _ iB jB
          replace cA := (hB.cell (p := ⟨aa, ao + (i / m * n + j / m), none⟩) (by rw [← hs]; exact hal)).trans cA
          replace cB := (hB.cell (p := ⟨ba, bo + (i % m * m + j % m), none⟩) (by rw [← hs]; exact hbl)).trans cB
          have ht := HT.out i j
          have q1 : (i : Int) / (m : Int) = ((i / m : Nat) : Int) := by simp
          have q2 : (j : Int) / (m : Int) = ((j / m : Nat) : Int) := by simp
          have q3 : (i : Int) % (m : Int) = ((i % m : Nat) : Int) := by simp
          have q4 : (j : Int) % (m : Int) = ((j % m : Nat) : Int) := by simp
          have t1 : (i : Int).tdiv (m : Int) = ((i / m : Nat) : Int) := by rw [Int.tdiv_eq_ediv_of_nonneg (by omega)]; exact q1
          have t2 : (j : Int).tdiv (m : Int) = ((j / m : Nat) : Int) := by rw [Int.tdiv_eq_ediv_of_nonneg (by omega)]; exact q2
          have t3 : (i : Int).tmod (m : Int) = ((i % m : Nat) : Int) := by rw [Int.tmod_eq_emod_of_nonneg (by omega)]; exact q3
          have t4 : (j : Int).tmod (m : Int) = ((j % m : Nat) : Int) := by rw [Int.tmod_eq_emod_of_nonneg (by omega)]; exact q4
          have b1 : i / m ≤ i := Nat.div_le_self _ _
          have b2 : j / m ≤ j := Nat.div_le_self _ _
          have b3 : i % m ≤ i := Nat.mod_le _ _
          have b4 : j % m ≤ j := Nat.mod_le _ _
          generalize i / m = ra at *
          generalize j / m = ca at *
          generalize i % m = rb at *
          generalize j % m = cb at *
          obtain ⟨x, Hx⟩ : ∃ x, Hid (A ra ca = x) := ⟨_, rfl⟩
          obtain ⟨y, Hy⟩ : ∃ y, Hid (B rb cb = y) := ⟨_, rfl⟩
          rw [Hx.out] at cA gA ht
          rw [Hy.out] at cB gB ht
          have hp := sg_two gA gB
          obtain ⟨z, hz⟩ : ∃ z, x * y = z := ⟨_, rfl⟩
          rw [hz] at hp ht
          obtain ⟨hp1, hp2⟩ := hp
          have HTZ : Hid (t i j = z) := ht
          obtain ⟨ma, Hma⟩ : ∃ q, Hid (ra * n = q) := ⟨_, rfl⟩
          have hma : (ra : Int) * (n : Int) = (ma : Int) := by rw [← Hma.out]; simp
          rw [Hma.out] at kA cA
          obtain ⟨mb, Hmb⟩ : ∃ q, Hid (rb * m = q) := ⟨_, rfl⟩
          have hmb : (rb : Int) * (m : Int) = (mb : Int) := by rw [← Hmb.out]; simp
          rw [Hmb.out] at kB cB
          obtain ⟨pa, Hpa⟩ : ∃ q, Hid (ma + ca = q) := ⟨_, rfl⟩
          have hpa : (ma : Int) + (ca : Int) = (pa : Int) := by rw [← Hpa.out]; simp
          rw [Hpa.out] at kA cA
          obtain ⟨pb, Hpb⟩ : ∃ q, Hid (mb + cb = q) := ⟨_, rfl⟩
          have hpb : (mb : Int) + (cb : Int) = (pb : Int) := by rw [← Hpb.out]; simp
          rw [Hpb.out] at kB cB
          have ka : (pa : Int) < (za : Int) := by omega
          have kb : (pb : Int) < (zb : Int) := by omega
          have v1 := wrapN9 (q := ra) (by omega)
          have v2 := wrapN9 (q := ca) (by omega)
          have v3 := wrapN9 (q := rb) (by omega)
          have v4 := wrapN9 (q := cb) (by omega)
          have v5 := wrapN9 (q := ma) (by have := Hpa.out; omega)
          have v6 := wrapN9 (q := mb) (by have := Hpb.out; omega)
          have v7 := wrapN9 (q := pa) (by omega)
          have v8 := wrapN9 (q := pb) (by omega)
          have hmz : ¬ (m : Int) = 0 := by omega
          have hmn : ¬ m = 0 := by omega
          have c1 : wr.cell? ⟨s + 1 + 1 + 1, 1, none⟩ = some o := by rw [cell_of_row _ _ _ _ _ _ R3]; rfl
          obtain ⟨oa, ol, oc, rfl⟩ := own_slice hW
          obtain ⟨fl, Hfl⟩ : ∃ fl, Hid (vi (flI N t K) = fl) := ⟨_, rfl⟩
          rw [Hfl.out] at hW HFL
          have HFL2 : Hid (vi (flI N t (K + 1)) = fl ++ [.int .i64 z]) := by show _ = _; rw [HFL.out, HTZ.out]
          clear ht gA gB iA iB jA jB b1 b2 b3 b4 HFL
          go_wp2
          go_quiet (fail)
          obtain ⟨nq0, hq0⟩ : ∃ k : Nat, k = nq := ⟨_, rfl⟩
          subst hq0
          go_wp2
          go_quiet (fail)
          clear x0 x1 y0 y1 cA cB q1 q2 q3 q4 t1 t2 t3 t4
          have hWd : ((wr.drewN nq0).drewN nq).ownsRow (s + 1 + 1 + 1 + 1) 3 1 (.slice oa ol oc) K fl := hW
          go_wp2_with (first
            | (at_builtin; refine wpList_append_own _ rfl _ _ 22 rfl (s + 1 + 1 + 1 + 1) 3 i3 (.int .i64 0) 1 8 und22 hi3 hz0 hz1 hz2 rfl (by decide) _ K fl rfl (hWd.alloc _) ⟨wr.heap.size, 0, none⟩ 1 1 [.int .i64 z] rfl rfl ?c1 ?c2 ?c3 ?c4 ?c5 ?_)
            | go_in)
          case c1 =>
            intro j u hj
            match j, hj with
            | 0, hj =>
              simp at hj; subst hj; show World.cell? _ ⟨wr.heap.size, 0, none⟩ = _
              exact (cell_of_row _ wr.heap.size 0 _ _ _ (heap_alloc_new (wr.drewN (nq0 + nq)) (.cells #[.int .i64 z] 3))).trans rfl
          case c2 => intro u hu; simp at hu; subst hu; rfl
          case c3 => unfold maxLen; omega
          case c4 => omega
          case c5 => simp; omega
          intro v' w2 hown' hgrow _
          obtain ⟨pa, pl, pc, rfl⟩ := own_slice hown'
          have k0 := (hgrow.block (s) (by simp; omega) (fun e => own_diff hW R0 e.symm)).trans (((balloc (wr.drewN (nq0 + nq)) (.cells #[.int .i64 z] 3)).block (s) (show _ < wr.heap.size by omega)).trans R0)
          have k1 := (hgrow.block (s + 1) (by simp; omega) (fun e => own_diff hW R1 e.symm)).trans (((balloc (wr.drewN (nq0 + nq)) (.cells #[.int .i64 z] 3)).block (s + 1) (show _ < wr.heap.size by omega)).trans R1)
          have k2 := (hgrow.block (s + 1 + 1) (by simp; omega) (fun e => own_diff hW R2 e.symm)).trans (((balloc (wr.drewN (nq0 + nq)) (.cells #[.int .i64 z] 3)).block (s + 1 + 1) (show _ < wr.heap.size by omega)).trans R2)
          have k3 := (hgrow.block (s + 1 + 1 + 1) (by simp; omega) (fun e => own_diff hW R3 e.symm)).trans (((balloc (wr.drewN (nq0 + nq)) (.cells #[.int .i64 z] 3)).block (s + 1 + 1 + 1) (show _ < wr.heap.size by omega)).trans R3)
          have hB2 : Below s w w2 := ((bdrewN hB (nq0 + nq)).alloc (show s ≤ wr.heap.size by omega) (.cells #[.int .i64 z] 3)).grown hgrow (by simp; omega) (fun k hk => by have := (hW.lt k hk).1; omega)
          have f1 := frozen_of_row w2 (s + 1 + 1 + 1) 1 _ _ k3
          have q1 : w2.cell? ⟨s + 1 + 1 + 1, 1, none⟩ = some (.slice oa ol oc) := by rw [cell_of_row _ _ _ _ _ _ k3]; rfl
          have k0' := (heap_setCell_other w2 ⟨s + 1 + 1 + 1, 1, none⟩ (s) (.slice pa pl pc) (by show s ≠ s + 1 + 1 + 1; omega)).trans k0
          have k1' := (heap_setCell_other w2 ⟨s + 1 + 1 + 1, 1, none⟩ (s + 1) (.slice pa pl pc) (by show s + 1 ≠ s + 1 + 1 + 1; omega)).trans k1
          have k2' := (heap_setCell_other w2 ⟨s + 1 + 1 + 1, 1, none⟩ (s + 1 + 1) (.slice pa pl pc) (by show s + 1 + 1 ≠ s + 1 + 1 + 1; omega)).trans k2
          have k3' := heap_setCell_same w2 (s + 1 + 1 + 1) 1 _ _ (.slice pa pl pc) k3
          have hW2 := orow_other hown' ⟨s + 1 + 1 + 1, 1, none⟩ (.slice pa pl pc) (own_diff hown' k3)
          have hB3 := hB2.setCell (p := ⟨s + 1 + 1 + 1, 1, none⟩) (by show s ≤ s + 1 + 1 + 1; omega) (.slice pa pl pc)
          have hsz2 : s + 1 + 1 + 1 + 1 ≤ (w2.setCell ⟨s + 1 + 1 + 1, 1, none⟩ (.slice pa pl pc)).heap.size := by have := (Array.getElem?_eq_some_iff.1 k3).1; simp; omega
          rw [← HFL2.out] at hW2
          clear k0 k1 k2 k3 hown' hgrow hB2 c1
          go_wp2
          go_roundw
          case rel => exact ⟨j + 1, K + 1, _, by go_num, by omega, HK2, k0', k1', k2', k3', hW2, hsz2, hB3⟩
          case measure => simp [intOf]; omega
        · have hdj : decide ((j : Int) < (N : Int)) = false := by simp; omega
          have HK2 : Hid (K = (i + 1) * N) := by show _ = _; rw [HK.out, show j = N by omega, Nat.add_mul]; omega
          go_wp2
          go_roundw
          case rel => exact ⟨i + 1, K, o, by go_num, by omega, HK2, R0, R1, R2, R3, hW, hsz, hB⟩
          case measure => simp [intOf]; omega
    · have hdi : decide ((i : Int) < (N : Int)) = false := by simp; omega
      have hKn : K = N * N := by rw [HK.out, show i = N by omega]
      rw [hKn] at hW
      obtain ⟨oa, ol, oc, rfl⟩ := own_slice hW
      have c0 : wr.cell? ⟨s + 1 + 1 + 1, 0, none⟩ = some (.int .i64 (N : Int)) := by rw [cell_of_row _ _ _ _ _ _ R3]; rfl
      have c1 : wr.cell? ⟨s + 1 + 1 + 1, 1, none⟩ = some (.slice oa ol oc) := by rw [cell_of_row _ _ _ _ _ _ R3]; rfl
      have a2 : wr.cell? ⟨s + 1 + 1, 0, none⟩ = some (.int .i64 0) := by rw [cell_of_row _ _ _ _ _ _ R2]; rfl
      have a3 : wr.cell? ⟨s + 1 + 1, 1, none⟩ = some (.slice none 0 0) := by rw [cell_of_row _ _ _ _ _ _ R2]; rfl
      have f0 := frozen_of_row wr (s + 1 + 1) 0 _ _ R2
      have f1 := frozen_of_row wr (s + 1 + 1) 1 _ _ R2
      have hn1 := heap_setCell_same wr (s + 1 + 1) 0 _ _ (.int .i64 (N : Int)) R2
      have hn2 := heap_setCell_same _ (s + 1 + 1) 1 _ _ (.slice oa ol oc) hn1
      have hW2 := orow_other (orow_other hW ⟨s + 1 + 1, 0, none⟩ (.int .i64 (N : Int)) (own_diff hW R2)) ⟨s + 1 + 1, 1, none⟩ (.slice oa ol oc) (own_diff hW R2)
      have HS : Hid _ := OwnS.fl hW2
      have hB2 := (hB.setCell (p := ⟨s + 1 + 1, 0, none⟩) (by show s ≤ s + 1 + 1; omega) (.int .i64 (N : Int))).setCell (p := ⟨s + 1 + 1, 1, none⟩) (by show s ≤ s + 1 + 1; omega) (.slice oa ol oc)
      clear hW hW2 hKn hn1
      go_wp2
      exact post_sq2 4 5 Tryd.results12 rfl hn2 rfl rfl ⟨⟨_, rfl, HS.out⟩, by rw [hs]; exact hB2⟩
end Go.Proofs.YtamdpcajfgbagaaDoor
