/- The walk of the document's IntercalatesOf. -/
import Derived.Test.YtagpbkcnjogbgaaL1
namespace Go.Proofs.Ytagpbkcnjogbgaa
open Go.RowKit

def jF (s : Nat → Nat → Nat) (i k j l : Nat) : Nat := if (s k j = s i j ∨ s k j = s i l) ∧ (s k l = s i j ∨ s k l = s i l) then 1 else 0
def j4 (s : Nat → Nat → Nat) (i k j c : Nat) : Nat := Sm c fun l => if j < l then jF s i k j l else 0
def j3 (n : Nat) (s : Nat → Nat → Nat) (i k c : Nat) : Nat := Sm c fun j => j4 s i k j n
def j2 (n : Nat) (s : Nat → Nat → Nat) (i c : Nat) : Nat := Sm c fun k => if i < k then j3 n s i k n else 0
def j1 (n : Nat) (s : Nat → Nat → Nat) (c : Nat) : Nat := Sm c fun i => j2 n s i n
theorem j1_all (n : Nat) (s : Nat → Nat → Nat) : j1 n s n = icD n s := rfl
theorem j4_zero (s : Nat → Nat → Nat) (i k j : Nat) : j4 s i k j (j + 1) = 0 := sm_none fun l hl => if_neg (by omega)
theorem j2_zero (n : Nat) (s : Nat → Nat → Nat) (i : Nat) : j2 n s i (i + 1) = 0 := sm_none fun l hl => if_neg (by omega)

set_option maxRecDepth 100000 in
set_option maxHeartbeats 8000000 in
theorem IntercalatesOf_any (n : Nat) (L : List Int) (v : Value) (w : World) (hv : Sl w v L) (G : GoodS n L) :
    Calls Try.prog 12 #[.agg #[.int .i64 (n : Int), v]] w fun e w' => e = .returned (.int .i64 (icN n (sq n L) : Int)) ∧ Below w.heap.size w w' := by
  rw [← icD_eq G.lat, ← j1_all]
  have hpos : 0 < n * n := Nat.mul_pos G.pos G.pos
  have hn := G.le
  obtain ⟨a, off, cap, rfl, ha, hcell⟩ := hv.form G.len hpos
  obtain ⟨z, hz⟩ : ∃ z, z = n * n := ⟨_, rfl⟩
  have hz99 : z ≤ 99 := by rw [hz]; exact Nat.le_trans (Nat.mul_le_mul hn hn) (by decide)
  have HG : Hid (GoodS n L) := G
  obtain ⟨s, Hs⟩ : ∃ s, Hid (sq n L = s) := ⟨_, rfl⟩
  have HC : Hid (∀ i j, i < n → j < n → i * n + j < z ∧ w.cell? ⟨a, off + (i * n + j), none⟩ = some (.int .i64 (s i j : Int))) := fun i j hi hj => by
    have hl := cell_lt hi hj
    rw [← Hs.out]
    exact ⟨by rw [hz]; exact hl, by rw [hcell _ hl, G.val hi hj]⟩
  rw [← hz, Hs.out]
  have b0 := balloc w (.cells #[.int .i64 (n : Int), .slice (some ⟨a, off, none⟩) z cap] 24)
  have hx1 : (w.alloc (.cells #[.int .i64 (n : Int), .slice (some ⟨a, off, none⟩) z cap] 24)).cell? ⟨w.heap.size, 1, none⟩ = some (.slice (some ⟨a, off, none⟩) z cap) := by rw [cell_of_row _ _ _ _ _ _ (heap_alloc_new w _)]; rfl
  clear hcell hpos hv G hz
  go_enter Try.func12, Try.ntmps12
  go_wp2
  go_loopw [4, 5] (fun o i_ wr => ∃ i X : Nat, i_ = .int .i64 (i : Int) ∧ i ≤ n ∧ o = .int .i64 (X : Int) ∧ Hid (j1 n s i = X) ∧ X ≤ 1000 * i ∧ wr.cell? ⟨w.heap.size, 1, none⟩ = some (.slice (some ⟨a, off, none⟩) z cap) ∧ Below w.heap.size w wr) (fun _ i _ => (n - intOf i).toNat)
  case atStart => exact ⟨0, 0, rfl, by omega, rfl, (rfl : j1 n s 0 = 0), by omega, hx1, b0⟩
  case round =>
    clear hx1 b0
    obtain ⟨i, X, rfl, hi, rfl, HX, hXb, hx1, hB⟩ := hrel
    by_cases hil : i < n
    · have hdi : decide ((i : Int) < (n : Int)) = true := by simp; omega
      have HX0 : Hid (j1 n s i + j2 n s i (i + 1) = X) := by show _ = _; rw [j2_zero]; exact HX.out
      clear HX
      go_wp2
      go_loopw [4, 6] (fun o i_ wr => ∃ k X : Nat, i_ = .int .i64 (k : Int) ∧ i < k ∧ k ≤ n ∧ o = .int .i64 (X : Int) ∧ Hid (j1 n s i + j2 n s i k = X) ∧ X ≤ 1000 * i + 100 * k ∧ wr.cell? ⟨w.heap.size, 1, none⟩ = some (.slice (some ⟨a, off, none⟩) z cap) ∧ Below w.heap.size w wr) (fun _ i _ => (n - intOf i).toNat)
      case atStart => exact ⟨i + 1, X, by go_num, by omega, by omega, rfl, HX0, by omega, hx1, hB⟩
      case round =>
        clear HX0 hXb hx1 hB
        obtain ⟨k, X, rfl, hik, hk, rfl, HX, hXb, hx1, hB⟩ := hrel
        by_cases hkl : k < n
        · have hdk : decide ((k : Int) < (n : Int)) = true := by simp; omega
          go_wp2
          go_loopw [4, 7] (fun o i_ wr => ∃ j X : Nat, i_ = .int .i64 (j : Int) ∧ j ≤ n ∧ o = .int .i64 (X : Int) ∧ Hid (j1 n s i + j2 n s i k + j3 n s i k j = X) ∧ X ≤ 1000 * i + 100 * k + 10 * j ∧ wr.cell? ⟨w.heap.size, 1, none⟩ = some (.slice (some ⟨a, off, none⟩) z cap) ∧ Below w.heap.size w wr) (fun _ i _ => (n - intOf i).toNat)
          case atStart => exact ⟨0, X, rfl, by omega, rfl, HX, by omega, hx1, hB⟩
          case round =>
            clear HX hXb hx1 hB
            obtain ⟨j, X, rfl, hj, rfl, HX, hXb, hx1, hB⟩ := hrel
            by_cases hjl : j < n
            · have hdj : decide ((j : Int) < (n : Int)) = true := by simp; omega
              have HX0 : Hid (j1 n s i + j2 n s i k + j3 n s i k j + j4 s i k j (j + 1) = X) := by show _ = _; rw [j4_zero]; exact HX.out
              clear HX
              go_wp2
              go_loopw [4, 8] (fun o i_ wr => ∃ l X : Nat, i_ = .int .i64 (l : Int) ∧ j < l ∧ l ≤ n ∧ o = .int .i64 (X : Int) ∧ Hid (j1 n s i + j2 n s i k + j3 n s i k j + j4 s i k j l = X) ∧ X ≤ 1000 * i + 100 * k + 10 * j + l ∧ wr.cell? ⟨w.heap.size, 1, none⟩ = some (.slice (some ⟨a, off, none⟩) z cap) ∧ Below w.heap.size w wr) (fun _ i _ => (n - intOf i).toNat)
              case atStart => exact ⟨j + 1, X, by go_num, by omega, by omega, rfl, HX0, by omega, hx1, hB⟩
              case round =>
                clear HX0 hXb hx1 hB
                obtain ⟨l, X, rfl, hjl2, hl, rfl, HX, hXb, hx1, hB⟩ := hrel
                by_cases hll : l < n
                · have hdl : decide ((l : Int) < (n : Int)) = true := by simp; omega
                  obtain ⟨g1, c1⟩ := HC.out i j hil hjl
                  obtain ⟨g2, c2⟩ := HC.out i l hil hll
                  obtain ⟨g3, c3⟩ := HC.out k j hkl hjl
                  obtain ⟨g4, c4⟩ := HC.out k l hkl hll
                  replace c1 := (hB.cell (p := ⟨a, off + (i * n + j), none⟩) ha).trans c1
                  replace c2 := (hB.cell (p := ⟨a, off + (i * n + l), none⟩) ha).trans c2
                  replace c3 := (hB.cell (p := ⟨a, off + (k * n + j), none⟩) ha).trans c3
                  replace c4 := (hB.cell (p := ⟨a, off + (k * n + l), none⟩) ha).trans c4
                  have d1 : s k j ≠ s i j := fun e => by
                    rw [← Hs.out] at e
                    have := HG.out.lat.col j hjl k i hkl hil e; omega
                  have d2 : s k l ≠ s i l := fun e => by
                    rw [← Hs.out] at e
                    have := HG.out.lat.col l hll k i hkl hil e; omega
                  have HN : Hid (j1 n s i + j2 n s i k + j3 n s i k j + j4 s i k j (l + 1) = X + jF s i k j l) := by
                    have : j4 s i k j (l + 1) = j4 s i k j l + jF s i k j l := by
                      show Sm (l + 1) _ = _
                      rw [Sm_succ, if_pos hjl2]; rfl
                    show _ = _
                    rw [this, ← HX.out]; omega
                  have HF : Hid (jF s i k j l = if (s k j = s i j ∨ s k j = s i l) ∧ (s k l = s i j ∨ s k l = s i l) then 1 else 0) := rfl
                  have m1 : (i : Int) * (n : Int) = ((i * n : Nat) : Int) := by simp
                  have m2 : (k : Int) * (n : Int) = ((k * n : Nat) : Int) := by simp
                  generalize s i j = x1 at *
                  generalize s i l = x2 at *
                  generalize s k j = x3 at *
                  generalize s k l = x4 at *
                  generalize jF s i k j l = f at *
                  obtain ⟨qi, hqi⟩ : ∃ q, q = i * n := ⟨_, rfl⟩
                  obtain ⟨qk, hqk⟩ : ∃ q, q = k * n := ⟨_, rfl⟩
                  rw [← hqi] at c1 c2 m1 g1 g2
                  rw [← hqk] at c3 c4 m2 g3 g4
                  obtain ⟨p1, hp1⟩ : ∃ q, q = qi + j := ⟨_, rfl⟩
                  obtain ⟨p2, hp2⟩ : ∃ q, q = qi + l := ⟨_, rfl⟩
                  obtain ⟨p3, hp3⟩ : ∃ q, q = qk + j := ⟨_, rfl⟩
                  obtain ⟨p4, hp4⟩ : ∃ q, q = qk + l := ⟨_, rfl⟩
                  have e1 : (qi : Int) + (j : Int) = (p1 : Int) := by omega
                  have e2 : (qi : Int) + (l : Int) = (p2 : Int) := by omega
                  have e3 : (qk : Int) + (j : Int) = (p3 : Int) := by omega
                  have e4 : (qk : Int) + (l : Int) = (p4 : Int) := by omega
                  rw [← hp1] at c1 g1
                  rw [← hp2] at c2 g2
                  rw [← hp3] at c3 g3
                  rw [← hp4] at c4 g4
                  have r1 : (p1 : Int) < (z : Int) := by omega
                  have r2 : (p2 : Int) < (z : Int) := by omega
                  have r3 : (p3 : Int) < (z : Int) := by omega
                  have r4 : (p4 : Int) < (z : Int) := by omega
                  have t1 : qi ≤ 99 := by omega
                  have t2 : qk ≤ 99 := by omega
                  have y1 : ((x3 : Int) == (x1 : Int)) = false := by simp; omega
                  have y2 : ((x4 : Int) == (x2 : Int)) = false := by simp; omega
                  clear hqi hqk hp1 hp2 hp3 hp4 HX
                  by_cases h1 : x3 = x2
                  · have hb1 : ((x3 : Int) == (x2 : Int)) = true := by simp; omega
                    by_cases h2 : x4 = x1
                    · have hb2 : ((x4 : Int) == (x1 : Int)) = true := by simp; omega
                      obtain rfl : f = 1 := HF.out.trans (if_pos ⟨.inr h1, .inl h2⟩)
                      clear h1 h2 HF d1 d2
                      go_wp2
                      go_roundw
                      case rel => exact ⟨l + 1, X + 1, by go_num, by omega, by omega, by go_num, HN, by omega, hx1, hB⟩
                      case measure => simp [intOf]; omega
                    · have hb2 : ((x4 : Int) == (x1 : Int)) = false := by simp; omega
                      obtain rfl : f = 0 := HF.out.trans (if_neg fun h => h.2.elim h2 d2)
                      clear h1 h2 HF d1 d2
                      go_wp2
                      go_roundw
                      case rel => exact ⟨l + 1, X, by go_num, by omega, by omega, rfl, HN, by omega, hx1, hB⟩
                      case measure => simp [intOf]; omega
                  · have hb1 : ((x3 : Int) == (x2 : Int)) = false := by simp; omega
                    obtain rfl : f = 0 := HF.out.trans (if_neg fun h => h.1.elim d1 h1)
                    clear h1 HF d1 d2
                    go_wp2
                    go_roundw
                    case rel => exact ⟨l + 1, X, by go_num, by omega, by omega, rfl, HN, by omega, hx1, hB⟩
                    case measure => simp [intOf]; omega
                · have hdl : decide ((l : Int) < (n : Int)) = false := by simp; omega
                  obtain rfl : l = n := by omega
                  have HN : Hid (j1 l s i + j2 l s i k + j3 l s i k (j + 1) = X) := by
                    have : j3 l s i k (j + 1) = j3 l s i k j + j4 s i k j l := Sm_succ _ _
                    show _ = _
                    rw [this, ← HX.out]; omega
                  clear HX
                  go_wp2
                  go_roundw
                  case rel => exact ⟨j + 1, X, by go_num, by omega, rfl, HN, by omega, hx1, hB⟩
                  case measure => simp [intOf]; omega
            · have hdj : decide ((j : Int) < (n : Int)) = false := by simp; omega
              obtain rfl : j = n := by omega
              have HN : Hid (j1 j s i + j2 j s i (k + 1) = X) := by
                have : j2 j s i (k + 1) = j2 j s i k + j3 j s i k j := by
                  show Sm (k + 1) _ = _
                  rw [Sm_succ, if_pos hik]; rfl
                show _ = _
                rw [this, ← HX.out]; omega
              clear HX
              go_wp2
              go_roundw
              case rel => exact ⟨k + 1, X, by go_num, by omega, by omega, rfl, HN, by omega, hx1, hB⟩
              case measure => simp [intOf]; omega
        · have hdk : decide ((k : Int) < (n : Int)) = false := by simp; omega
          obtain rfl : k = n := by omega
          have HN : Hid (j1 k s (i + 1) = X) := by
            have : j1 k s (i + 1) = j1 k s i + j2 k s i k := Sm_succ _ _
            show _ = _
            rw [this, ← HX.out]
          clear HX
          go_wp2
          go_roundw
          case rel => exact ⟨i + 1, X, by go_num, by omega, rfl, HN, by omega, hx1, hB⟩
          case measure => simp [intOf]; omega
    · have hdi : decide ((i : Int) < (n : Int)) = false := by simp; omega
      obtain rfl : i = n := by omega
      have hX := HX.out
      subst hX
      go_wp2
      go_ret
      exact ⟨rfl, hB⟩
end Go.Proofs.Ytagpbkcnjogbgaa
