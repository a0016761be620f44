/- The walks of the document's once, LatinFault. -/
import Derived.Test.YtncnaaohihmjnaaL3
import Derived.Deep.QuietTactic
import Derived.BigQuiet
namespace Go.Proofs.Ytncnaaohihmjnaa
open Go.RowKit

theorem wrap99 {q : Nat} (h : q ≤ 99) : IntKind.i64.wrap (q : Int) = (q : Int) := by rw [IntKind.wrap_i64]; omega

set_option maxRecDepth 100000 in
set_option maxHeartbeats 8000000 in
theorem onceD_any (n : Nat) (L : List Int) (v : Value) (w : World) (o : Bool) (h1 : 1 ≤ n) (h8 : n ≤ 8) (hv : Sl w v L) (hl : L.length ≤ 99) (ho : o = onB n L) :
    Calls Try.prog 29 #[.int .i64 (n : Int), v] w fun e w' => e = .returned (.bool o) ∧ Below w.heap.size w w' := by
  obtain ⟨a, cap, rfl, hc⟩ := hv
  have HO : Hid (o = onB n L) := ho
  obtain ⟨z, hz⟩ : ∃ z, z = L.length := ⟨_, rfl⟩
  have HZ : Hid (z = L.length) := hz
  have HC : Hid (∀ j, j < z → ∃ b off, a = some ⟨b, off, none⟩ ∧ w.cell? ⟨b, off + j, none⟩ = some (.int .i64 (L.getD j 0))) := by rw [hz]; exact hc
  rw [← hz] at hl ⊢
  have hn0 : (n : Int) ≠ 0 := by omega
  have hnn : ¬ n = 0 := by omega
  have hnp : (0 : Int) < n := by omega
  clear hc hz ho
  go_enter Try.func29, Try.ntmps29
  go_wp2
  go_loopw [5] (fun i wr => ∃ j : Nat, i = .int .i64 (j : Int) ∧ j ≤ z ∧ Hid (∀ i k, k < i → i < j → L.getD i 0 = L.getD k 0 → i / n ≠ k / n ∧ i % n ≠ k % n) ∧ Below w.heap.size w wr) (fun i _ => (z - intOf i).toNat)
  case atStart => exact ⟨0, rfl, by omega, (fun i k _ h => by omega : ∀ i k, k < i → i < 0 → _), Below.refl _ _⟩
  case round =>
    obtain ⟨j, rfl, hj, HJ, hB⟩ := hrel
    by_cases hlt : j < z
    · have hdj : decide ((j : Int) < (z : Int)) = true := by simp; omega
      have hji : (j : Int) < z := by omega
      have hj0 : (0 : Int) ≤ (j : Int) := by omega
      obtain ⟨b, off, rfl, hcj⟩ := HC.out j hlt
      have hb := block_lt_of_cell hcj
      have HX : Hid (∀ k, k < z → w.cell? ⟨b, off + k, none⟩ = some (.int .i64 (L.getD k 0))) := fun k hk => by
        obtain ⟨b', o', e, h⟩ := HC.out k hk
        simp only [Option.some.injEq, Addr.mk.injEq, and_true] at e
        obtain ⟨rfl, rfl⟩ := e
        exact h
      obtain ⟨x, hx⟩ : ∃ x, x = L.getD j 0 := ⟨_, rfl⟩
      have Hx : Hid (x = L.getD j 0) := hx
      rw [← hx] at hcj
      have hdiv : (j : Int) / (n : Int) = ((j / n : Nat) : Int) := by simp
      have hmod : (j : Int) % (n : Int) = ((j % n : Nat) : Int) := by simp
      obtain ⟨qj, Hqj⟩ : ∃ q, Hid (j / n = q) := ⟨_, rfl⟩
      obtain ⟨rj, Hrj⟩ : ∃ q, Hid (j % n = q) := ⟨_, rfl⟩
      have hqj99 : qj ≤ 99 := by rw [← Hqj.out]; exact Nat.le_trans (Nat.div_le_self _ _) (by omega)
      have hwqj : IntKind.i64.wrap (qj : Int) = (qj : Int) := wrap99 hqj99
      have hrj99 : rj ≤ 99 := by rw [← Hrj.out]; exact Nat.le_trans (Nat.mod_le _ _) (by omega)
      have hwrj : IntKind.i64.wrap (rj : Int) = (rj : Int) := wrap99 hrj99
      rw [Hqj.out] at hdiv
      rw [Hrj.out] at hmod
      clear hx
      go_wp2
      go_loopw [6] (fun i wr => ∃ k : Nat, i = .int .i64 (k : Int) ∧ k ≤ j ∧ Hid (∀ t, t < k → x = L.getD t 0 → qj ≠ t / n ∧ rj ≠ t % n) ∧ Below w.heap.size w wr) (fun i _ => (j - intOf i).toNat)
      case atStart => exact ⟨0, rfl, by omega, (fun t h => by omega : ∀ t, t < 0 → _), hB⟩
      case round =>
        clear hB
        obtain ⟨k, rfl, hk, HK, hB⟩ := hrel
        by_cases hkl : k < j
        · have hdk : decide ((k : Int) < (j : Int)) = true := by simp; omega
          have hki : (k : Int) < z := by omega
          have hk0 : (0 : Int) ≤ (k : Int) := by omega
          have hck := (hB.cell (p := ⟨b, off + k, none⟩) hb).trans (HX.out k (by omega))
          have hcj2 := (hB.cell (p := ⟨b, off + j, none⟩) hb).trans hcj
          obtain ⟨y, hy⟩ : ∃ y, y = L.getD k 0 := ⟨_, rfl⟩
          have Hy : Hid (y = L.getD k 0) := hy
          rw [← hy] at hck
          have hdiv2 : (k : Int) / (n : Int) = ((k / n : Nat) : Int) := by simp
          have hmod2 : (k : Int) % (n : Int) = ((k % n : Nat) : Int) := by simp
          obtain ⟨qk, Hqk⟩ : ∃ q, Hid (k / n = q) := ⟨_, rfl⟩
          obtain ⟨rk, Hrk⟩ : ∃ q, Hid (k % n = q) := ⟨_, rfl⟩
          have hqk99 : qk ≤ 99 := by rw [← Hqk.out]; exact Nat.le_trans (Nat.div_le_self _ _) (by omega)
          have hwqk : IntKind.i64.wrap (qk : Int) = (qk : Int) := wrap99 hqk99
          have hrk99 : rk ≤ 99 := by rw [← Hrk.out]; exact Nat.le_trans (Nat.mod_le _ _) (by omega)
          have hwrk : IntKind.i64.wrap (rk : Int) = (rk : Int) := wrap99 hrk99
          rw [Hqk.out] at hdiv2
          rw [Hrk.out] at hmod2
          have hno : x = y → (qj = qk ∨ rj = rk) → o = false := fun e1 e2 => by
            rw [HO.out, Bool.eq_false_iff, ne_eq, onB_iff]
            intro h
            have := h j k hkl (by rw [← HZ.out]; exact hlt) (by rw [← Hx.out, ← Hy.out]; exact e1)
            rw [Hqj.out, Hqk.out, Hrj.out, Hrk.out] at this
            rcases e2 with e2 | e2
            · exact this.1 e2
            · exact this.2 e2
          have HNO : Hid (x = y → (qj = qk ∨ rj = rk) → o = false) := hno
          have HN : Hid (¬ (x = y ∧ (qj = qk ∨ rj = rk)) → ∀ t, t < k + 1 → x = L.getD t 0 → qj ≠ t / n ∧ rj ≠ t % n) := fun hne t ht e => by
            by_cases et : t = k
            · subst et
              rw [Hqk.out, Hrk.out]
              rw [← Hy.out] at e
              exact ⟨fun e2 => hne ⟨e, .inl e2⟩, fun e2 => hne ⟨e, .inr e2⟩⟩
            · exact HK.out t (by omega) e
          clear hy hno HK
          by_cases hxy : x = y
          · have hbn : (x == y) = true := by simpa using hxy
            by_cases hq : qj = qk
            · have hqb : ((qj : Int) == (qk : Int)) = true := by simp; omega
              obtain rfl := HNO.out hxy (.inl hq)
              clear hxy hq HN
              go_wp2
              go_quiet (fail)
              go_wp2
              go_ret
              exact ⟨rfl, bdrewN hB _⟩
            · have hqb : ((qj : Int) == (qk : Int)) = false := by simp; omega
              by_cases hr : rj = rk
              · have hrb : ((rj : Int) == (rk : Int)) = true := by simp; omega
                obtain rfl := HNO.out hxy (.inr hr)
                clear hxy hq hr HN
                go_wp2
                go_quiet (fail)
                go_wp2
                go_ret
                exact ⟨rfl, bdrewN hB _⟩
              · have hrb : ((rj : Int) == (rk : Int)) = false := by simp; omega
                have HN2 : Hid (∀ t, t < k + 1 → x = L.getD t 0 → qj ≠ t / n ∧ rj ≠ t % n) := HN.out fun h => h.2.elim hq hr
                clear hxy hq hr HN
                go_wp2
                go_quiet (fail)
                go_wp2
                go_roundw
                case rel => exact ⟨k + 1, by go_num, by omega, HN2, bdrewN hB _⟩
                case measure => simp [intOf]; omega
          · have hbn : (x == y) = false := by simpa using hxy
            have HN2 : Hid (∀ t, t < k + 1 → x = L.getD t 0 → qj ≠ t / n ∧ rj ≠ t % n) := HN.out fun h => hxy h.1
            clear hxy HN
            go_wp2
            go_quiet (fail)
            go_wp2
            go_roundw
            case rel => exact ⟨k + 1, by go_num, by omega, HN2, bdrewN hB _⟩
            case measure => simp [intOf]; omega
        · have hdk : decide ((k : Int) < (j : Int)) = false := by simp; omega
          obtain rfl : k = j := by omega
          have HJ2 : Hid (∀ i t, t < i → i < k + 1 → L.getD i 0 = L.getD t 0 → i / n ≠ t / n ∧ i % n ≠ t % n) := fun i t h1 h2 e => by
            by_cases ei : i = k
            · subst ei
              rw [Hqj.out, Hrj.out]
              exact HK.out t h1 (by rw [Hx.out]; exact e)
            · exact HJ.out i t h1 (by omega) e
          clear HJ HK
          go_wp2
          go_roundw
          case rel => exact ⟨k + 1, by go_num, by omega, HJ2, hB⟩
          case measure => simp [intOf]; omega
    · have hdj : decide ((j : Int) < (z : Int)) = false := by simp; omega
      obtain rfl : j = z := by omega
      have ho : o = true := by rw [HO.out, onB_iff, ← HZ.out]; exact HJ.out
      subst ho
      go_wp2
      go_ret
      exact ⟨rfl, hB⟩
end Go.Proofs.Ytncnaaohihmjnaa
