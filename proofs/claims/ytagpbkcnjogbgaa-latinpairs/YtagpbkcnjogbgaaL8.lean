/- The walk of the document's OrthogonalOf. -/
import Derived.Test.YtagpbkcnjogbgaaL7
import Derived.Test.YtagpbkcnjogbgaaL5
namespace Go.Proofs.Ytagpbkcnjogbgaa
open Go.RowKit

theorem orth_iff {n : Nat} {L M : List Int} (h1 : GoodS n L) (h2 : GoodS n M) : Orth n (sq n L) (sq n M) ↔ ∀ i k, k < i → i < n * n → L.getD i 0 = L.getD k 0 → M.getD i 0 ≠ M.getD k 0 := by
  have hn := h1.pos
  constructor
  · intro h i k hk hi e1 e2
    have c1 : i / n < n := Nat.div_lt_of_lt_mul (by omega)
    have c2 : k / n < n := Nat.div_lt_of_lt_mul (by omega)
    have d1 : i / n * n + i % n = i := Nat.div_add_mod' i n
    have d2 : k / n * n + k % n = k := Nat.div_add_mod' k n
    have := h (i / n) (i % n) (k / n) (k % n) c1 (Nat.mod_lt _ hn) c2 (Nat.mod_lt _ hn) (by unfold sq; rw [d1, d2, e1]) (by unfold sq; rw [d1, d2, e2])
    rw [this.1, this.2, d2] at d1
    omega
  · intro h i j i' j' hi hj hi' hj' e1 e2
    have v1 := h1.val hi hj; have v2 := h1.val hi' hj'
    have v3 := h2.val hi hj; have v4 := h2.val hi' hj'
    have l1 := cell_lt hi hj
    have l2 := cell_lt hi' hj'
    rcases Nat.lt_trichotomy (i * n + j) (i' * n + j') with hlt | heq | hgt
    · exact (h _ _ hlt l2 (by rw [v1, v2, e1]) (by rw [v3, v4, e2])).elim
    · have a1 := divmod (i := i) hj; have a2 := divmod (i := i') hj'
      rw [heq] at a1
      exact ⟨a1.1.symm.trans a2.1, a1.2.symm.trans a2.2⟩
    · exact (h _ _ hgt l1 (by rw [v1, v2, e1]) (by rw [v3, v4, e2])).elim

set_option maxRecDepth 100000 in
set_option maxHeartbeats 8000000 in
theorem OrthogonalOf_any (n : Nat) (L M : List Int) (u v : Value) (w : World) (o : Bool) (hu : Sl w u L) (hv : Sl w v M) (G1 : GoodS n L) (G2 : GoodS n M) (ho : o = true ↔ Orth n (sq n L) (sq n M)) :
    Calls Try.prog 9 #[.agg #[.int .i64 (n : Int), u], .agg #[.int .i64 (n : Int), v]] w fun e w' => e = .returned (.bool o) ∧ Below w.heap.size w w' := by
  rw [orth_iff G1 G2] at ho
  have hpos : 0 < n * n := Nat.mul_pos G1.pos G1.pos
  have h8 := G1.le
  obtain ⟨a, ao, ac, rfl, ha, hca⟩ := hu.form G1.len hpos
  obtain ⟨b, bo, bc, rfl, hb, hcb⟩ := hv.form G2.len hpos
  obtain ⟨z, hz⟩ : ∃ z, z = n * n := ⟨_, rfl⟩
  have hz99 : z ≤ 99 := by rw [hz]; exact Nat.le_trans (Nat.mul_le_mul h8 h8) (by decide)
  rw [← hz] at ho hca hcb ⊢
  have HO : Hid (o = true ↔ ∀ i k, k < i → i < z → L.getD i 0 = L.getD k 0 → M.getD i 0 ≠ M.getD k 0) := ho
  have HA : Hid (∀ j, j < z → w.cell? ⟨a, ao + j, none⟩ = some (.int .i64 (L.getD j 0))) := hca
  have HBB : Hid (∀ j, j < z → w.cell? ⟨b, bo + j, none⟩ = some (.int .i64 (M.getD j 0))) := hcb
  clear hz ho hca hcb hu hv G1 G2 hpos
  go_enter Try.func9, Try.ntmps9
  go_wp2
  go_loopw [5] (fun i wr => ∃ j : Nat, i = .int .i64 (j : Int) ∧ j ≤ z ∧ Hid (∀ i k, k < i → i < j → L.getD i 0 = L.getD k 0 → M.getD i 0 ≠ M.getD k 0) ∧ wr.cell? ⟨w.heap.size, 1, none⟩ = some (.slice (some ⟨a, ao, none⟩) z ac) ∧ wr.cell? ⟨w.heap.size + 1, 1, none⟩ = some (.slice (some ⟨b, bo, none⟩) z bc) ∧ Below w.heap.size w wr) (fun i _ => (z - intOf i).toNat)
  case atStart =>
    refine ⟨0, rfl, by omega, (fun i k _ h => by omega : ∀ i k, k < i → i < 0 → _), ?_, ?_, Below.next (balloc _ _) (balloc _ _)⟩
    · exact ((balloc _ _).cell (p := ⟨w.heap.size, 1, none⟩) (by simp)).trans (by rw [cell_of_row _ _ _ _ _ _ (heap_alloc_new w _)]; rfl)
    · have := heap_alloc_new (w.alloc (.cells #[.int .i64 (n : Int), .slice (some ⟨a, ao, none⟩) z ac] 24)) (.cells #[.int .i64 (n : Int), .slice (some ⟨b, bo, none⟩) z bc] 24)
      rw [show (w.alloc (.cells #[.int .i64 (n : Int), .slice (some ⟨a, ao, none⟩) z ac] 24)).heap.size = w.heap.size + 1 from by simp] at this
      rw [cell_of_row _ _ _ _ _ _ this]; rfl
  case round =>
    obtain ⟨j, rfl, hj, HJ, hx, hy, hB⟩ := hrel
    by_cases hlt : j < z
    · have hdj : decide ((j : Int) < (z : Int)) = true := by simp; omega
      have hji : (j : Int) < z := by omega
      have hj0 : (0 : Int) ≤ (j : Int) := by omega
      obtain ⟨x, Hx⟩ : ∃ x, Hid (L.getD j 0 = x) := ⟨_, rfl⟩
      obtain ⟨x', Hx'⟩ : ∃ x, Hid (M.getD j 0 = x) := ⟨_, rfl⟩
      go_wp2
      go_loopw [6] (fun i wr => ∃ k : Nat, i = .int .i64 (k : Int) ∧ k ≤ j ∧ Hid (∀ t, t < k → x = L.getD t 0 → x' ≠ M.getD t 0) ∧ wr.cell? ⟨w.heap.size, 1, none⟩ = some (.slice (some ⟨a, ao, none⟩) z ac) ∧ wr.cell? ⟨w.heap.size + 1, 1, none⟩ = some (.slice (some ⟨b, bo, none⟩) z bc) ∧ Below w.heap.size w wr) (fun i _ => (j - intOf i).toNat)
      case atStart => exact ⟨0, rfl, by omega, (fun t h => by omega : ∀ t, t < 0 → _), hx, hy, hB⟩
      case round =>
        clear hx hy hB
        obtain ⟨k, rfl, hk, HK, hx, hy, hB⟩ := hrel
        by_cases hkl : k < j
        · have hdk : decide ((k : Int) < (j : Int)) = true := by simp; omega
          have hki : (k : Int) < z := by omega
          have hk0 : (0 : Int) ≤ (k : Int) := by omega
          have c1 := (hB.cell (p := ⟨a, ao + j, none⟩) ha).trans (HA.out j hlt)
          have c2 := (hB.cell (p := ⟨a, ao + k, none⟩) ha).trans (HA.out k (by omega))
          have c3 := (hB.cell (p := ⟨b, bo + j, none⟩) hb).trans (HBB.out j hlt)
          have c4 := (hB.cell (p := ⟨b, bo + k, none⟩) hb).trans (HBB.out k (by omega))
          obtain ⟨y, Hy⟩ : ∃ y, Hid (L.getD k 0 = y) := ⟨_, rfl⟩
          obtain ⟨y', Hy'⟩ : ∃ y, Hid (M.getD k 0 = y) := ⟨_, rfl⟩
          rw [Hx.out] at c1
          rw [Hy.out] at c2
          rw [Hx'.out] at c3
          rw [Hy'.out] at c4
          have HNO : Hid (x = y → x' = y' → o = false) := fun e1 e2 => by
            rw [Bool.eq_false_iff, ne_eq, HO.out]
            intro h
            exact h j k hkl hlt (by rw [Hx.out, Hy.out]; exact e1) (by rw [Hx'.out, Hy'.out]; exact e2)
          have HN : Hid (¬ (x = y ∧ x' = y') → ∀ t, t < k + 1 → x = L.getD t 0 → x' ≠ M.getD t 0) := fun hne t ht e e2 => by
            by_cases et : t = k
            · subst et
              exact hne ⟨e.trans Hy.out, e2.trans Hy'.out⟩
            · exact HK.out t (by omega) e e2
          clear HK
          by_cases hxy : x = y
          · have hbn : (x == y) = true := by simpa using hxy
            by_cases hq : x' = y'
            · have hqb : (x' == y') = true := by simpa using hq
              obtain rfl := HNO.out hxy hq
              clear hxy hq HN
              go_wp2
              go_quiet (fail)
              go_wp2
              go_ret
              exact ⟨rfl, bdrewN hB _⟩
            · have hqb : (x' == y') = false := by simpa using hq
              have HN2 : Hid (∀ t, t < k + 1 → x = L.getD t 0 → x' ≠ M.getD t 0) := HN.out fun h => hq h.2
              clear hxy hq HN
              go_wp2
              go_quiet (fail)
              go_wp2
              go_roundw
              case rel => exact ⟨k + 1, by go_num, by omega, HN2, hx, hy, bdrewN hB _⟩
              case measure => simp [intOf]; omega
          · have hbn : (x == y) = false := by simpa using hxy
            have HN2 : Hid (∀ t, t < k + 1 → x = L.getD t 0 → x' ≠ M.getD t 0) := HN.out fun h => hxy h.1
            clear hxy HN
            go_wp2
            go_quiet (fail)
            go_wp2
            go_roundw
            case rel => exact ⟨k + 1, by go_num, by omega, HN2, hx, hy, bdrewN hB _⟩
            case measure => simp [intOf]; omega
        · have hdk : decide ((k : Int) < (j : Int)) = false := by simp; omega
          obtain rfl : k = j := by omega
          have HJ2 : Hid (∀ i t, t < i → i < k + 1 → L.getD i 0 = L.getD t 0 → M.getD i 0 ≠ M.getD t 0) := fun i t h1 h2 e e2 => by
            by_cases ei : i = k
            · subst ei
              exact HK.out t h1 (Hx.out.symm.trans e) (Hx'.out.symm.trans e2)
            · exact HJ.out i t h1 (by omega) e e2
          clear HJ HK
          go_wp2
          go_roundw
          case rel => exact ⟨k + 1, by go_num, by omega, HJ2, hx, hy, hB⟩
          case measure => simp [intOf]; omega
    · have hdj : decide ((j : Int) < (z : Int)) = false := by simp; omega
      obtain rfl : j = z := by omega
      have ho : o = true := HO.out.2 HJ.out
      subst ho
      go_wp2
      go_ret
      exact ⟨rfl, hB⟩
end Go.Proofs.Ytagpbkcnjogbgaa
