/- The walks of setOf and holding. -/
import Derived.Test.YtamdpcajfgbagaaE2
namespace Go.Proofs.Ytamdpcajfgbagaa
open Go.RowKit

theorem sb_take {b : List Nat} {j : Nat} (hj : j < b.length) : sb (b.take (j + 1)) = sb (b.take j) ||| 2 ^ b.getD j 0 := by
  rw [← sb_snoc, List.take_succ_eq_append_getElem hj, List.getD_eq_getElem?_getD, List.getElem?_eq_getElem hj]
  rfl
theorem take_lt {b : List Nat} {n : Nat} (h : ∀ x ∈ b, x < n) (j : Nat) : ∀ x ∈ b.take j, x < n := fun x hx => h x (List.mem_of_mem_take hx)
theorem getD_in {b : List Nat} {j : Nat} (hj : j < b.length) : b.getD j 0 ∈ b := by
  rw [List.getD_eq_getElem?_getD, List.getElem?_eq_getElem hj]; exact List.getElem_mem hj

set_option maxHeartbeats 4000000 in
theorem setOf_any (b : List Nat) (u : Value) (w : World) (hu : Sl w u (b.map Int.ofNat)) (hb : b.length ≤ 99) (hl : ∀ x ∈ b, x < 64) :
    Calls Try.prog 34 #[u] w fun e w' => e = .returned (.int .u64 (sb b : Int)) ∧ w' = w := by
  obtain ⟨a, cap, rfl, hc⟩ := hu
  have HC : Hid (∀ j, j < b.length → ∃ g off, a = some ⟨g, off, none⟩ ∧ w.cell? ⟨g, off + j, none⟩ = some (.int .i64 ((b.getD j 0 : Nat) : Int))) := fun j hj => by
    obtain ⟨g, off, e, h⟩ := hc j (by simpa using hj)
    exact ⟨g, off, e, by rw [h, ofNat_at b hj]⟩
  have HL : Hid (∀ x ∈ b, x < 64) := hl
  have HS : Hid (∀ j, j < b.length → sb (b.take (j + 1)) = sb (b.take j) ||| 2 ^ b.getD j 0) := fun j hj => sb_take hj
  rw [List.length_map]
  generalize hn : b.length = n at *
  clear hc hl
  go_enter Try.func34, Try.ntmps34
  go_wp2
  go_loopw [3, 8] (fun s iv wr => ∃ (j : Nat), iv = .int .i64 (j : Int) ∧ s = .int .u64 ((sb (b.take j) : Nat) : Int) ∧ j ≤ n ∧ wr = w) (fun _ iv _ => (n - intOf iv).toNat)
  case atStart => exact ⟨0, rfl, rfl, by omega, rfl⟩
  case round =>
    obtain ⟨j, rfl, rfl, hj, rfl⟩ := hrel
    by_cases hlt : j < n
    · have hd : decide ((j : Int) < (n : Int)) = true := by simp; omega
      have hji : (j : Int) < (n : Int) := by omega
      obtain ⟨g, off, rfl, hcj⟩ := HC.out j hlt
      have hx := HL.out _ (getD_in (b := b) (j := j) (by omega))
      have hor : bits .or .u64 ((sb (b.take j) : Nat) : Int) ((2 ^ b.getD j 0 : Nat) : Int) = ((sb (b.take (j + 1)) : Nat) : Int) := by
        rw [HS.out j hlt]
        exact orN (sb_lt (take_lt HL.out j)) (pow_lt64 hx)
      obtain ⟨x, Hx⟩ : ∃ x, Hid (x = b.getD j 0) := ⟨_, rfl⟩
      obtain ⟨S, HSj⟩ : ∃ S, Hid (S = sb (b.take j)) := ⟨_, rfl⟩
      obtain ⟨T, HT⟩ : ∃ T, Hid (T = sb (b.take (j + 1))) := ⟨_, rfl⟩
      rw [← Hx.out] at hcj hx hor
      rw [← HSj.out, ← HT.out] at hor
      rw [← HSj.out]
      have O := only_any x hx wr
      obtain ⟨P2, HP⟩ : ∃ P2, Hid (P2 = 2 ^ x) := ⟨_, (rfl : 2 ^ x = 2 ^ x)⟩
      rw [← HP.out] at hor O
      go_wp2_with (go_at_call 41; refine O.mono ?_; rintro e w' ⟨rfl, rfl⟩)
      go_roundw
      case rel => exact ⟨j + 1, by go_num, by rw [HT.out], by omega, by trivial⟩
      case measure => simp [intOf]; omega
    · have hd : decide ((j : Int) < (n : Int)) = false := by simp; omega
      obtain rfl : j = n := by omega
      rw [List.take_of_length_le (by omega)]
      clear HS
      go_wp2
      go_ret
      exact ⟨rfl, rfl⟩

end Go.Proofs.Ytamdpcajfgbagaa
