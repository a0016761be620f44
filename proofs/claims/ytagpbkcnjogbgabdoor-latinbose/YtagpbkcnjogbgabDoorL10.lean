/- The walk of intercalates. -/
import Derived.Test.YtagpbkcnjogbgabDoorL1
namespace Go.Proofs.YtagpbkcnjogbgabDoor
open Go.RowKit

def iF (s : Nat → Nat → Nat) (i k l j : Nat) : Nat := if s i j = s k l ∧ s i l = s k j then 1 else 0
def i4 (s : Nat → Nat → Nat) (i k l c : Nat) : Nat := Sm c fun j => iF s i k l j
def i3 (s : Nat → Nat → Nat) (i k r : Nat) : Nat := Sm r fun l => i4 s i k l l
def i2 (n : Nat) (s : Nat → Nat → Nat) (k c : Nat) : Nat := Sm c fun i => i3 s i k n
def i1 (n : Nat) (s : Nat → Nat → Nat) (c : Nat) : Nat := Sm c fun k => i2 n s k k
theorem i1_all (n : Nat) (s : Nat → Nat → Nat) : i1 n s n = icP n s := rfl

set_option maxRecDepth 100000 in
set_option maxHeartbeats 8000000 in
theorem intercalates_any (n : Nat) (s : Nat → Nat → Nat) (v : Value) (w : World) (hn : n ≤ 8) (hT : Teller v n n s w) :
    Calls Tryd.prog 22 #[.int .i64 (n : Int), v] w fun e w' => e = .returned (.int .i64 (icN n s : Int)) ∧ Below w.heap.size w w' := by
  rw [← icP_eq, ← i1_all]
  obtain ⟨g, lb, rfl, eg, hT⟩ := hT
  have HT : Hid (TellAt g lb n n s w) := hT
  clear hT
  go_enter Tryd.func22, Tryd.ntmps22
  go_wp2
  go_loopw [5, 11] (fun o i wr => ∃ k X : Nat, i = .int .i64 (k : Int) ∧ k ≤ n ∧ o = .int .i64 (X : Int) ∧ Hid (i1 n s k = X) ∧ X ≤ 1000 * k ∧ Below w.heap.size w wr) (fun _ i _ => (n - intOf i).toNat)
  case atStart => exact ⟨0, 0, rfl, by omega, rfl, (rfl : i1 n s 0 = 0), by omega, Below.refl _ _⟩
  case round =>
    obtain ⟨k, X, rfl, hk, rfl, HX, hXb, hB⟩ := hrel
    by_cases hkl : k < n
    · have hdk : decide ((k : Int) < (n : Int)) = true := by simp; omega
      go_wp2
      go_loopw [5, 15] (fun o i wr => ∃ t X : Nat, i = .int .i64 (t : Int) ∧ t ≤ k ∧ o = .int .i64 (X : Int) ∧ Hid (i1 n s k + i2 n s k t = X) ∧ X ≤ 1000 * k + 100 * t ∧ Below w.heap.size w wr) (fun _ i _ => (k - intOf i).toNat)
      case atStart => exact ⟨0, X, rfl, by omega, rfl, HX, by omega, hB⟩
      case round =>
        clear HX hXb hB
        obtain ⟨i, X, rfl, hi, rfl, HX, hXb, hB⟩ := hrel
        by_cases hil : i < k
        · have hdi : decide ((i : Int) < (k : Int)) = true := by simp; omega
          go_wp2
          go_loopw [5, 19] (fun o i_ wr => ∃ t X : Nat, i_ = .int .i64 (t : Int) ∧ t ≤ n ∧ o = .int .i64 (X : Int) ∧ Hid (i1 n s k + i2 n s k i + i3 s i k t = X) ∧ X ≤ 1000 * k + 100 * i + 10 * t ∧ Below w.heap.size w wr) (fun _ i _ => (n - intOf i).toNat)
          case atStart => exact ⟨0, X, rfl, by omega, rfl, HX, by omega, hB⟩
          case round =>
            clear HX hXb hB
            obtain ⟨l, X, rfl, hl, rfl, HX, hXb, hB⟩ := hrel
            by_cases hll : l < n
            · have hdl : decide ((l : Int) < (n : Int)) = true := by simp; omega
              go_wp2
              go_loopw [5, 23] (fun o i_ wr => ∃ t X : Nat, i_ = .int .i64 (t : Int) ∧ t ≤ l ∧ o = .int .i64 (X : Int) ∧ Hid (i1 n s k + i2 n s k i + i3 s i k l + i4 s i k l t = X) ∧ X ≤ 1000 * k + 100 * i + 10 * l + t ∧ Below w.heap.size w wr) (fun _ i _ => (l - intOf i).toNat)
              case atStart => exact ⟨0, X, rfl, by omega, rfl, HX, by omega, hB⟩
              case round =>
                clear HX hXb hB
                obtain ⟨j, X, rfl, hj, rfl, HX, hXb, hB⟩ := hrel
                by_cases hjl : j < l
                · have hdj : decide ((j : Int) < (l : Int)) = true := by simp; omega
                  have D1 := fun W (b : Below w.heap.size w W) => HT.out W b i j (by omega) (by omega)
                  have D2 := fun W (b : Below w.heap.size w W) => HT.out W b k l (by omega) (by omega)
                  have D3 := fun W (b : Below w.heap.size w W) => HT.out W b i l (by omega) (by omega)
                  have D4 := fun W (b : Below w.heap.size w W) => HT.out W b k j (by omega) (by omega)
                  have HN : Hid (i1 n s k + i2 n s k i + i3 s i k l + i4 s i k l (j + 1) = X + iF s i k l j) := by
                    have : i4 s i k l (j + 1) = i4 s i k l j + iF s i k l j := Sm_succ _ _
                    show _ = _
                    rw [this, ← HX.out]; omega
                  have HF : Hid (iF s i k l j = if s i j = s k l ∧ s i l = s k j then 1 else 0) := rfl
                  generalize s i j = x1 at D1 HF
                  generalize s k l = x2 at D2 HF
                  generalize s i l = x3 at D3 HF
                  generalize s k j = x4 at D4 HF
                  generalize iF s i k l j = f at HN HF
                  clear HX
                  by_cases h1 : x1 = x2
                  · have hb1 : ((x1 : Int) == (x2 : Int)) = true := by simp; omega
                    by_cases h2 : x3 = x4
                    · have hb2 : ((x3 : Int) == (x4 : Int)) = true := by simp; omega
                      obtain rfl : f = 1 := HF.out.trans (if_pos ⟨h1, h2⟩)
                      clear h1 h2 HF
                      go_wp2_with (first
                        | (go_at_fn g; refine (D1 _ hB).mono ?_; rintro e w1 ⟨rfl, b1⟩; clear D1; replace b1 := Below.next hB b1)
                        | (go_at_fn g; refine (D2 _ b1).mono ?_; rintro e w2 ⟨rfl, b2⟩; clear D2; replace b2 := Below.next b1 b2)
                        | (go_at_fn g; refine (D3 _ b2).mono ?_; rintro e w3 ⟨rfl, b3⟩; clear D3; replace b3 := Below.next b2 b3)
                        | (go_at_fn g; refine (D4 _ b3).mono ?_; rintro e w4 ⟨rfl, b4⟩; clear D4; replace b4 := Below.next b3 b4))
                      go_roundw
                      case rel => exact ⟨j + 1, X + 1, by go_num, by omega, by go_num, HN, by omega, b4⟩
                      case measure => simp [intOf]; omega
                    · have hb2 : ((x3 : Int) == (x4 : Int)) = false := by simp; omega
                      obtain rfl : f = 0 := HF.out.trans (if_neg fun h => h2 h.2)
                      clear h1 h2 HF
                      go_wp2_with (first
                        | (go_at_fn g; refine (D1 _ hB).mono ?_; rintro e w1 ⟨rfl, b1⟩; clear D1; replace b1 := Below.next hB b1)
                        | (go_at_fn g; refine (D2 _ b1).mono ?_; rintro e w2 ⟨rfl, b2⟩; clear D2; replace b2 := Below.next b1 b2)
                        | (go_at_fn g; refine (D3 _ b2).mono ?_; rintro e w3 ⟨rfl, b3⟩; clear D3; replace b3 := Below.next b2 b3)
                        | (go_at_fn g; refine (D4 _ b3).mono ?_; rintro e w4 ⟨rfl, b4⟩; clear D4; replace b4 := Below.next b3 b4))
                      go_roundw
                      case rel => exact ⟨j + 1, X, by go_num, by omega, rfl, HN, by omega, b4⟩
                      case measure => simp [intOf]; omega
                  · have hb1 : ((x1 : Int) == (x2 : Int)) = false := by simp; omega
                    obtain rfl : f = 0 := HF.out.trans (if_neg fun h => h1 h.1)
                    clear h1 HF D3 D4
                    go_wp2_with (first
                      | (go_at_fn g; refine (D1 _ hB).mono ?_; rintro e w1 ⟨rfl, b1⟩; clear D1; replace b1 := Below.next hB b1)
                      | (go_at_fn g; refine (D2 _ b1).mono ?_; rintro e w2 ⟨rfl, b2⟩; clear D2; replace b2 := Below.next b1 b2))
                    go_roundw
                    case rel => exact ⟨j + 1, X, by go_num, by omega, rfl, HN, by omega, b2⟩
                    case measure => simp [intOf]; omega
                · have hdj : decide ((j : Int) < (l : Int)) = false := by simp; omega
                  obtain rfl : j = l := by omega
                  have HN : Hid (i1 n s k + i2 n s k i + i3 s i k (j + 1) = X) := by
                    have : i3 s i k (j + 1) = i3 s i k j + i4 s i k j j := Sm_succ _ _
                    show _ = _
                    rw [this, ← HX.out]; omega
                  clear HX
                  go_wp2
                  go_roundw
                  case rel => exact ⟨j + 1, X, by go_num, by omega, rfl, HN, by omega, hB⟩
                  case measure => simp [intOf]; omega
            · have hdl : decide ((l : Int) < (n : Int)) = false := by simp; omega
              obtain rfl : l = n := by omega
              have HN : Hid (i1 l s k + i2 l s k (i + 1) = X) := by
                have : i2 l s k (i + 1) = i2 l s k i + i3 s i k l := Sm_succ _ _
                show _ = _
                rw [this, ← HX.out]; omega
              clear HX
              go_wp2
              go_roundw
              case rel => exact ⟨i + 1, X, by go_num, by omega, rfl, HN, by omega, hB⟩
              case measure => simp [intOf]; omega
        · have hdi : decide ((i : Int) < (k : Int)) = false := by simp; omega
          obtain rfl : i = k := by omega
          have HN : Hid (i1 n s (i + 1) = X) := by
            have : i1 n s (i + 1) = i1 n s i + i2 n s i i := Sm_succ _ _
            show _ = _
            rw [this, ← HX.out]
          clear HX
          go_wp2
          go_roundw
          case rel => exact ⟨i + 1, X, by go_num, by omega, rfl, HN, by omega, hB⟩
          case measure => simp [intOf]; omega
    · have hdk : decide ((k : Int) < (n : Int)) = false := by simp; omega
      obtain rfl : k = n := by omega
      have hX := HX.out
      subst hX
      go_wp2
      go_ret
      exact ⟨rfl, hB⟩
end Go.Proofs.YtagpbkcnjogbgabDoor
