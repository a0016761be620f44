/- The walks of setOf and holding. -/
import Derived.Test.YtgpkhfpejopacaaDoorDGo
import Derived.Test.YtgpkhfpejopacaaDoorE1
/- The walk of checkBlock. -/
namespace Go.Proofs.YtgpkhfpejopacaaDoor
open Go.RowKit

set_option maxHeartbeats 4000000 in
theorem checkBlock_any (p : Int) (b : List Int) (u : Value) (w : World) (hu : Sl w u b) (hbl : b.length ≤ maxLen) :
    Calls Tryd.prog 76 #[.int .i64 p, u] w fun e w' => e = .returned (.int .i64 (bF p b : Int)) ∧ Below w.heap.size w w' := by
  unfold maxLen at hbl
  obtain ⟨ua, uc, rfl, hub⟩ := hu
  have HUB : Hid (∀ j, j < b.length → ∃ g o, ua = some ⟨g, o, none⟩ ∧ ∀ W, Below w.heap.size w W → W.cell? ⟨g, o + j, none⟩ = some (.int .i64 (b.getD j 0))) := fun j hj => by
    obtain ⟨g, o, e, hc⟩ := hub j hj
    exact ⟨g, o, e, fun W bW => (bW.cell (World.block_lt_of_cell? _ _ hc)).trans hc⟩
  obtain ⟨w1, Hw1⟩ : ∃ w1 : World, Hid (w1 = w) := ⟨_, rfl⟩
  rw [← Hw1.out] at HUB
  have HBN : Hid (∀ n, b.length = n → b.length = n) := fun _ h => h
  obtain ⟨z, HZ⟩ : ∃ z, Hid (bF p b = z) := ⟨_, rfl⟩
  rw [HZ.out]
  generalize hbn : b.length = bn at *
  clear hub
  go_enter Tryd.func76, Tryd.ntmps76
  go_wp2
  go_loopw [10] (fun jv wr' => ∃ j : Nat, jv = .int .i64 (j : Int) ∧ j ≤ bn ∧ Hid (∀ m, m < j → 0 ≤ b.getD m 0 ∧ b.getD m 0 < p) ∧ Below w1.heap.size w1 wr') (fun jv _ => (bn - intOf jv).toNat)
  case atStart => exact ⟨0, rfl, by omega, (show ∀ m, m < 0 → _ from fun m h => by omega), by rw [Hw1.out]; exact Below.refl _ _⟩
  case round =>
    obtain ⟨j, rfl, hj, HJ, hB2⟩ := hrel
    by_cases hlj : j < bn
    · have hdj : decide ((j : Int) < (bn : Int)) = true := by simp; omega
      have hji : (j : Int) < (bn : Int) := by omega
      obtain ⟨g, o, rfl, hcj0⟩ := HUB.out j hlj
      have hcj := hcj0 _ hB2
      obtain ⟨x, Hx⟩ : ∃ x, Hid (x = b.getD j 0) := ⟨_, (rfl : b.getD j 0 = b.getD j 0)⟩
      rw [← Hx.out] at hcj
      by_cases hneg : x < 0
      · have hb1 : bF p b = 1 := bF_out (j := j) (by omega) (by rw [← Hx.out]; omega)
        obtain rfl : z = 1 := by rw [← HZ.out, hb1]
        have hdx : decide (x < 0) = true := decide_eq_true hneg
        clear hneg hb1 hcj0
        go_wp2
        go_ret
        exact ⟨rfl, by rw [← Hw1.out]; exact hB2⟩
      · have hdx : decide (x < 0) = false := decide_eq_false hneg
        by_cases hge : p ≤ x
        · have hb1 : bF p b = 1 := bF_out (j := j) (by omega) (by rw [← Hx.out]; omega)
          obtain rfl : z = 1 := by rw [← HZ.out, hb1]
          have hdx2 : decide (p ≤ x) = true := decide_eq_true hge
          clear hneg hge hb1 hcj0
          go_wp2
          go_ret
          exact ⟨rfl, by rw [← Hw1.out]; exact hB2⟩
        · have hdx2 : decide (p ≤ x) = false := decide_eq_false hge
          have HJ2 : Hid (∀ m, m < j + 1 → 0 ≤ b.getD m 0 ∧ b.getD m 0 < p) := fun m hm => by
            by_cases e : m = j
            · subst e; rw [← Hx.out]; omega
            · exact HJ.out m (by omega)
          clear hneg hge HJ hcj0
          go_wp2
          go_roundw
          case rel => exact ⟨j + 1, by go_num, by omega, HJ2, hB2⟩
          case measure => simp [intOf]; omega
    · have hdj : decide ((j : Int) < (bn : Int)) = false := by simp; omega
      obtain rfl : j = bn := by omega
      clear hlj
      go_wp2
      go_loopw [7] (fun jv wr' => ∃ k : Nat, jv = .int .i64 (k : Int) ∧ 1 ≤ k ∧ (k ≤ j ∨ k = 1) ∧ Hid (∀ m, 1 ≤ m → m < k → m < j → b.getD (m - 1) 0 < b.getD m 0) ∧ Below w1.heap.size w1 wr') (fun jv _ => (j + 1 - intOf jv).toNat)
      case atStart => exact ⟨1, rfl, by omega, .inr rfl, (show ∀ m, 1 ≤ m → m < 1 → _ from fun m h h' => by omega), hB2⟩
      case round =>
        clear hB2
        obtain ⟨k, rfl, hk1, hkj, HK, hB3⟩ := hrel
        by_cases hlk : k < j
        · have hdk : decide ((k : Int) < (j : Int)) = true := by simp; omega
          have hki : (k : Int) < (j : Int) := by omega
          obtain ⟨k', Hk'⟩ : ∃ k', Hid (k = k' + 1) := ⟨k - 1, (by omega : k = k - 1 + 1)⟩
          have hsub : (k : Int) - 1 = (k' : Int) := by have := Hk'.out; omega
          have hk'i : (k' : Int) < (j : Int) := by have := Hk'.out; omega
          obtain ⟨g, o, rfl, hc0⟩ := HUB.out k hlk
          obtain ⟨g2, o2, e2, hc1⟩ := HUB.out k' (by have := Hk'.out; omega)
          obtain ⟨rfl, rfl⟩ : g = g2 ∧ o = o2 := by
            simp only [Option.some.injEq, Addr.mk.injEq] at e2
            exact ⟨e2.1, e2.2.1⟩
          have hck := hc0 _ hB3
          have hck' := hc1 _ hB3
          obtain ⟨x, Hx⟩ : ∃ x, Hid (x = b.getD k 0) := ⟨_, (rfl : b.getD k 0 = b.getD k 0)⟩
          obtain ⟨y, Hy⟩ : ∃ y, Hid (y = b.getD k' 0) := ⟨_, (rfl : b.getD k' 0 = b.getD k' 0)⟩
          rw [← Hx.out] at hck
          rw [← Hy.out] at hck'
          clear e2 hc0 hc1
          by_cases hle : x ≤ y
          · have hb1 : bF p b = 2 := bF_fall (j := k) (by rw [hbn]; exact HJ.out) hk1 (by omega) (by rw [← Hx.out, show k - 1 = k' by have := Hk'.out; omega, ← Hy.out]; exact hle)
            obtain rfl : z = 2 := by rw [← HZ.out, hb1]
            have hdx : decide (x ≤ y) = true := decide_eq_true hle
            clear hle hb1
            go_wp2
            go_quiet (fail)
            go_wp2
            go_ret
            exact ⟨rfl, by rw [← Hw1.out]; exact bdrewN hB3 _⟩
          · have hdx : decide (x ≤ y) = false := decide_eq_false hle
            have HK2 : Hid (∀ m, 1 ≤ m → m < k + 1 → m < j → b.getD (m - 1) 0 < b.getD m 0) := fun m h1 h2 h3 => by
              by_cases e : m = k
              · subst e; rw [show m - 1 = k' by have := Hk'.out; omega, ← Hx.out, ← Hy.out]; omega
              · exact HK.out m h1 (by omega) h3
            clear hle HK
            go_wp2
            go_quiet (fail)
            go_wp2
            go_roundw
            case rel => exact ⟨k + 1, by go_num, by omega, .inl (by omega), HK2, bdrewN hB3 _⟩
            case measure => simp [intOf]; omega
        · have hdk : decide ((k : Int) < (j : Int)) = false := by simp; omega
          have hb0 : bF p b = 0 := bF_ok (by rw [hbn]; exact HJ.out) (fun m h1 h2 => HK.out m h1 (by omega) (by omega))
          obtain rfl : z = 0 := by rw [← HZ.out, hb0]
          clear hb0
          go_wp2
          go_ret
          exact ⟨rfl, by rw [← Hw1.out]; exact hB3⟩

end Go.Proofs.YtgpkhfpejopacaaDoor

namespace Go.Proofs.YtgpkhfpejopacaaDoor
open Go.RowKit

theorem sb_take {b : List Nat} {j : Nat} (hj : j < b.length) : sb (b.take (j + 1)) = sb (b.take j) ||| 2 ^ b.getD j 0 := by
  rw [← sb_snoc, List.take_succ_eq_append_getElem hj, List.getD_eq_getElem?_getD, List.getElem?_eq_getElem hj]
  rfl
theorem take_lt {b : List Nat} {n : Nat} (h : ∀ x ∈ b, x < n) (j : Nat) : ∀ x ∈ b.take j, x < n := fun x hx => h x (List.mem_of_mem_take hx)
theorem getD_in {b : List Nat} {j : Nat} (hj : j < b.length) : b.getD j 0 ∈ b := by
  rw [List.getD_eq_getElem?_getD, List.getElem?_eq_getElem hj]; exact List.getElem_mem hj

set_option maxHeartbeats 4000000 in
theorem setOf_any (b : List Nat) (u : Value) (w : World) (hu : Sl w u (b.map Int.ofNat)) (hb : b.length ≤ 99) (hl : ∀ x ∈ b, x < 64) :
    Calls Tryd.prog 77 #[u] w fun e w' => e = .returned (.int .u64 (sb b : Int)) ∧ w' = w := by
  obtain ⟨a, cap, rfl, hc⟩ := hu
  have HC : Hid (∀ j, j < b.length → ∃ g off, a = some ⟨g, off, none⟩ ∧ w.cell? ⟨g, off + j, none⟩ = some (.int .i64 ((b.getD j 0 : Nat) : Int))) := fun j hj => by
    obtain ⟨g, off, e, h⟩ := hc j (by simpa using hj)
    exact ⟨g, off, e, by rw [h, ofNat_at b hj]⟩
  have HL : Hid (∀ x ∈ b, x < 64) := hl
  have HS : Hid (∀ j, j < b.length → sb (b.take (j + 1)) = sb (b.take j) ||| 2 ^ b.getD j 0) := fun j hj => sb_take hj
  rw [List.length_map]
  generalize hn : b.length = n at *
  clear hc hl
  go_enter Tryd.func77, Tryd.ntmps77
  go_wp2
  go_loopw [3, 8] (fun s iv wr => ∃ (j : Nat), iv = .int .i64 (j : Int) ∧ s = .int .u64 ((sb (b.take j) : Nat) : Int) ∧ j ≤ n ∧ wr = w) (fun _ iv _ => (n - intOf iv).toNat)
  case atStart => exact ⟨0, rfl, rfl, by omega, rfl⟩
  case round =>
    obtain ⟨j, rfl, rfl, hj, rfl⟩ := hrel
    by_cases hlt : j < n
    · have hd : decide ((j : Int) < (n : Int)) = true := by simp; omega
      have hji : (j : Int) < (n : Int) := by omega
      obtain ⟨g, off, rfl, hcj⟩ := HC.out j hlt
      have hx := HL.out _ (getD_in (b := b) (j := j) (by omega))
      have hor : bits .or .u64 ((sb (b.take j) : Nat) : Int) ((2 ^ b.getD j 0 : Nat) : Int) = ((sb (b.take (j + 1)) : Nat) : Int) := by
        rw [HS.out j hlt]
        exact orN (sb_lt (take_lt HL.out j)) (pow_lt64 hx)
      obtain ⟨x, Hx⟩ : ∃ x, Hid (x = b.getD j 0) := ⟨_, rfl⟩
      obtain ⟨S, HSj⟩ : ∃ S, Hid (S = sb (b.take j)) := ⟨_, rfl⟩
      obtain ⟨T, HT⟩ : ∃ T, Hid (T = sb (b.take (j + 1))) := ⟨_, rfl⟩
      rw [← Hx.out] at hcj hx hor
      rw [← HSj.out, ← HT.out] at hor
      rw [← HSj.out]
      have O := only_any x hx wr
      obtain ⟨P2, HP⟩ : ∃ P2, Hid (P2 = 2 ^ x) := ⟨_, (rfl : 2 ^ x = 2 ^ x)⟩
      rw [← HP.out] at hor O
      go_wp2_with (go_at_call 80; refine O.mono ?_; rintro e w' ⟨rfl, rfl⟩)
      go_roundw
      case rel => exact ⟨j + 1, by go_num, by rw [HT.out], by omega, by trivial⟩
      case measure => simp [intOf]; omega
    · have hd : decide ((j : Int) < (n : Int)) = false := by simp; omega
      obtain rfl : j = n := by omega
      rw [List.take_of_length_le (by omega)]
      clear HS
      go_wp2
      go_ret
      exact ⟨rfl, rfl⟩

end Go.Proofs.YtgpkhfpejopacaaDoor
