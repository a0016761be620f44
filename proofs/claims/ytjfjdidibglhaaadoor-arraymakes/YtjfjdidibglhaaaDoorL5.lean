/- The walk of the document's LatinFault. -/
import Derived.Test.YtjfjdidibglhaaaDoorL3
import Derived.Deep.QuietTactic
import Derived.BigQuiet
/- The walks of the document's once, LatinFault. -/
namespace Go.Proofs.YtjfjdidibglhaaaDoor
open Go.RowKit

theorem wrap99 {q : Nat} (h : q ≤ 99) : IntKind.i64.wrap (q : Int) = (q : Int) := by rw [IntKind.wrap_i64]; omega

set_option maxRecDepth 100000 in
set_option maxHeartbeats 8000000 in
theorem onceD_any (n : Nat) (L : List Int) (v : Value) (w : World) (o : Bool) (h1 : 1 ≤ n) (h8 : n ≤ 8) (hv : Sl w v L) (hl : L.length ≤ 99) (ho : o = onB n L) :
    Calls Tryd.prog 37 #[.int .i64 (n : Int), v] w fun e w' => e = .returned (.bool o) ∧ Below w.heap.size w w' := by
  obtain ⟨a, cap, rfl, hc⟩ := hv
  have HO : Hid (o = onB n L) := ho
  obtain ⟨z, hz⟩ : ∃ z, z = L.length := ⟨_, rfl⟩
  have HZ : Hid (z = L.length) := hz
  have HC : Hid (∀ j, j < z → ∃ b off, a = some ⟨b, off, none⟩ ∧ w.cell? ⟨b, off + j, none⟩ = some (.int .i64 (L.getD j 0))) := by rw [hz]; exact hc
  rw [← hz] at hl ⊢
  have hn0 : (n : Int) ≠ 0 := by omega
  have hnn : ¬ n = 0 := by omega
  have hnp : (0 : Int) < n := by omega
  clear hc hz ho
  go_enter Tryd.func37, Tryd.ntmps37
  go_wp2
  go_loopw [5] (fun i wr => ∃ j : Nat, i = .int .i64 (j : Int) ∧ j ≤ z ∧ Hid (∀ i k, k < i → i < j → L.getD i 0 = L.getD k 0 → i / n ≠ k / n ∧ i % n ≠ k % n) ∧ Below w.heap.size w wr) (fun i _ => (z - intOf i).toNat)
  case atStart => exact ⟨0, rfl, by omega, (fun i k _ h => by omega : ∀ i k, k < i → i < 0 → _), Below.refl _ _⟩
  case round =>
    obtain ⟨j, rfl, hj, HJ, hB⟩ := hrel
    by_cases hlt : j < z
    · have hdj : decide ((j : Int) < (z : Int)) = true := by simp; omega
      have hji : (j : Int) < z := by omega
      have hj0 : (0 : Int) ≤ (j : Int) := by omega
      obtain ⟨b, off, rfl, hcj⟩ := HC.out j hlt
      have hb := block_lt_of_cell hcj
      have HX : Hid (∀ k, k < z → w.cell? ⟨b, off + k, none⟩ = some (.int .i64 (L.getD k 0))) := fun k hk => by
        obtain ⟨b', o', e, h⟩ := HC.out k hk
        simp only [Option.some.injEq, Addr.mk.injEq, and_true] at e
        obtain ⟨rfl, rfl⟩ := e
        exact h
      obtain ⟨x, hx⟩ : ∃ x, x = L.getD j 0 := ⟨_, rfl⟩
      have Hx : Hid (x = L.getD j 0) := hx
      rw [← hx] at hcj
      have hdiv : (j : Int) / (n : Int) = ((j / n : Nat) : Int) := by simp
      have hmod : (j : Int) % (n : Int) = ((j % n : Nat) : Int) := by simp
      obtain ⟨qj, Hqj⟩ : ∃ q, Hid (j / n = q) := ⟨_, rfl⟩
      obtain ⟨rj, Hrj⟩ : ∃ q, Hid (j % n = q) := ⟨_, rfl⟩
      have hqj99 : qj ≤ 99 := by rw [← Hqj.out]; exact Nat.le_trans (Nat.div_le_self _ _) (by omega)
      have hwqj : IntKind.i64.wrap (qj : Int) = (qj : Int) := wrap99 hqj99
      have hrj99 : rj ≤ 99 := by rw [← Hrj.out]; exact Nat.le_trans (Nat.mod_le _ _) (by omega)
      have hwrj : IntKind.i64.wrap (rj : Int) = (rj : Int) := wrap99 hrj99
      rw [Hqj.out] at hdiv
      rw [Hrj.out] at hmod
      clear hx
      go_wp2
      go_loopw [6] (fun i wr => ∃ k : Nat, i = .int .i64 (k : Int) ∧ k ≤ j ∧ Hid (∀ t, t < k → x = L.getD t 0 → qj ≠ t / n ∧ rj ≠ t % n) ∧ Below w.heap.size w wr) (fun i _ => (j - intOf i).toNat)
      case atStart => exact ⟨0, rfl, by omega, (fun t h => by omega : ∀ t, t < 0 → _), hB⟩
      case round =>
        clear hB
        obtain ⟨k, rfl, hk, HK, hB⟩ := hrel
        by_cases hkl : k < j
        · have hdk : decide ((k : Int) < (j : Int)) = true := by simp; omega
          have hki : (k : Int) < z := by omega
          have hk0 : (0 : Int) ≤ (k : Int) := by omega
          have hck := (hB.cell (p := ⟨b, off + k, none⟩) hb).trans (HX.out k (by omega))
          have hcj2 := (hB.cell (p := ⟨b, off + j, none⟩) hb).trans hcj
          obtain ⟨y, hy⟩ : ∃ y, y = L.getD k 0 := ⟨_, rfl⟩
          have Hy : Hid (y = L.getD k 0) := hy
          rw [← hy] at hck
          have hdiv2 : (k : Int) / (n : Int) = ((k / n : Nat) : Int) := by simp
          have hmod2 : (k : Int) % (n : Int) = ((k % n : Nat) : Int) := by simp
          obtain ⟨qk, Hqk⟩ : ∃ q, Hid (k / n = q) := ⟨_, rfl⟩
          obtain ⟨rk, Hrk⟩ : ∃ q, Hid (k % n = q) := ⟨_, rfl⟩
          have hqk99 : qk ≤ 99 := by rw [← Hqk.out]; exact Nat.le_trans (Nat.div_le_self _ _) (by omega)
          have hwqk : IntKind.i64.wrap (qk : Int) = (qk : Int) := wrap99 hqk99
          have hrk99 : rk ≤ 99 := by rw [← Hrk.out]; exact Nat.le_trans (Nat.mod_le _ _) (by omega)
          have hwrk : IntKind.i64.wrap (rk : Int) = (rk : Int) := wrap99 hrk99
          rw [Hqk.out] at hdiv2
          rw [Hrk.out] at hmod2
          have hno : x = y → (qj = qk ∨ rj = rk) → o = false := fun e1 e2 => by
            rw [HO.out, Bool.eq_false_iff, ne_eq, onB_iff]
            intro h
            have := h j k hkl (by rw [← HZ.out]; exact hlt) (by rw [← Hx.out, ← Hy.out]; exact e1)
            rw [Hqj.out, Hqk.out, Hrj.out, Hrk.out] at this
            rcases e2 with e2 | e2
            · exact this.1 e2
            · exact this.2 e2
          have HNO : Hid (x = y → (qj = qk ∨ rj = rk) → o = false) := hno
          have HN : Hid (¬ (x = y ∧ (qj = qk ∨ rj = rk)) → ∀ t, t < k + 1 → x = L.getD t 0 → qj ≠ t / n ∧ rj ≠ t % n) := fun hne t ht e => by
            by_cases et : t = k
            · subst et
              rw [Hqk.out, Hrk.out]
              rw [← Hy.out] at e
              exact ⟨fun e2 => hne ⟨e, .inl e2⟩, fun e2 => hne ⟨e, .inr e2⟩⟩
            · exact HK.out t (by omega) e
          clear hy hno HK
          by_cases hxy : x = y
          · have hbn : (x == y) = true := by simpa using hxy
            by_cases hq : qj = qk
            · have hqb : ((qj : Int) == (qk : Int)) = true := by simp; omega
              obtain rfl := HNO.out hxy (.inl hq)
              clear hxy hq HN
              go_wp2
              go_quiet (fail)
              go_wp2
              go_ret
              exact ⟨rfl, bdrewN hB _⟩
            · have hqb : ((qj : Int) == (qk : Int)) = false := by simp; omega
              by_cases hr : rj = rk
              · have hrb : ((rj : Int) == (rk : Int)) = true := by simp; omega
                obtain rfl := HNO.out hxy (.inr hr)
                clear hxy hq hr HN
                go_wp2
                go_quiet (fail)
                go_wp2
                go_ret
                exact ⟨rfl, bdrewN hB _⟩
              · have hrb : ((rj : Int) == (rk : Int)) = false := by simp; omega
                have HN2 : Hid (∀ t, t < k + 1 → x = L.getD t 0 → qj ≠ t / n ∧ rj ≠ t % n) := HN.out fun h => h.2.elim hq hr
                clear hxy hq hr HN
                go_wp2
                go_quiet (fail)
                go_wp2
                go_roundw
                case rel => exact ⟨k + 1, by go_num, by omega, HN2, bdrewN hB _⟩
                case measure => simp [intOf]; omega
          · have hbn : (x == y) = false := by simpa using hxy
            have HN2 : Hid (∀ t, t < k + 1 → x = L.getD t 0 → qj ≠ t / n ∧ rj ≠ t % n) := HN.out fun h => hxy h.1
            clear hxy HN
            go_wp2
            go_quiet (fail)
            go_wp2
            go_roundw
            case rel => exact ⟨k + 1, by go_num, by omega, HN2, bdrewN hB _⟩
            case measure => simp [intOf]; omega
        · have hdk : decide ((k : Int) < (j : Int)) = false := by simp; omega
          obtain rfl : k = j := by omega
          have HJ2 : Hid (∀ i t, t < i → i < k + 1 → L.getD i 0 = L.getD t 0 → i / n ≠ t / n ∧ i % n ≠ t % n) := fun i t h1 h2 e => by
            by_cases ei : i = k
            · subst ei
              rw [Hqj.out, Hrj.out]
              exact HK.out t h1 (by rw [Hx.out]; exact e)
            · exact HJ.out i t h1 (by omega) e
          clear HJ HK
          go_wp2
          go_roundw
          case rel => exact ⟨k + 1, by go_num, by omega, HJ2, hB⟩
          case measure => simp [intOf]; omega
    · have hdj : decide ((j : Int) < (z : Int)) = false := by simp; omega
      obtain rfl : j = z := by omega
      have ho : o = true := by rw [HO.out, onB_iff, ← HZ.out]; exact HJ.out
      subst ho
      go_wp2
      go_ret
      exact ⟨rfl, hB⟩
end Go.Proofs.YtjfjdidibglhaaaDoor

namespace Go.Proofs.YtjfjdidibglhaaaDoor
open Go.RowKit

set_option maxHeartbeats 4000000 in
theorem LatinFault_low (s : Int) (v : Value) (w : World) (h : s < 1) :
    Calls Tryd.prog 23 #[.agg #[.int .i64 s, v]] w fun e w' => e = .returned (.int .i64 1) ∧ Below w.heap.size w w' := by
  have hd : decide (s < 1) = true := decide_eq_true h
  go_enter Tryd.func23, Tryd.ntmps23
  go_wp2
  go_ret
  exact ⟨rfl, balloc w _⟩
set_option maxHeartbeats 4000000 in
theorem LatinFault_high (s : Int) (v : Value) (w : World) (h : 8 < s) :
    Calls Tryd.prog 23 #[.agg #[.int .i64 s, v]] w fun e w' => e = .returned (.int .i64 1) ∧ Below w.heap.size w w' := by
  have hd : decide (s < 1) = false := decide_eq_false (by omega)
  have hd2 : decide (8 < s) = true := decide_eq_true h
  go_enter Tryd.func23, Tryd.ntmps23
  go_wp2
  go_ret
  exact ⟨rfl, balloc w _⟩
set_option maxHeartbeats 4000000 in
theorem LatinFault_shape (n : Nat) (L : List Int) (v : Value) (w : World) (h1 : 1 ≤ n) (h8 : n ≤ 8) (hv : Sl w v L) (hl : L.length ≠ n * n) :
    Calls Tryd.prog 23 #[.agg #[.int .i64 (n : Int), v]] w fun e w' => e = .returned (.int .i64 2) ∧ Below w.heap.size w w' := by
  have hd : decide ((n : Int) < 1) = false := by simp; omega
  have hd2 : decide ((8 : Int) < n) = false := by simp; omega
  obtain ⟨a, cap, rfl, _⟩ := hv
  obtain ⟨z, hz⟩ : ∃ z, z = n * n := ⟨_, rfl⟩
  have hz99 : z ≤ 99 := by rw [hz]; exact Nat.le_trans (Nat.mul_le_mul h8 h8) (by decide)
  have hmul : (n : Int) * (n : Int) = (z : Int) := by rw [hz]; simp
  have hne : ((L.length : Int) != (z : Int)) = true := by simp; omega
  generalize L.length = q at *
  clear hz hl
  go_enter Tryd.func23, Tryd.ntmps23
  go_wp2
  go_ret
  exact ⟨rfl, balloc w _⟩
set_option maxRecDepth 100000 in
set_option maxHeartbeats 8000000 in
theorem LatinFault_main (n : Nat) (L : List Int) (v : Value) (w : World) (h1 : 1 ≤ n) (h8 : n ≤ 8) (hv : Sl w v L) (hl : L.length = n * n) :
    Calls Tryd.prog 23 #[.agg #[.int .i64 (n : Int), v]] w fun e w' => e = .returned (.int .i64 (lF n L : Int)) ∧ Below w.heap.size w w' := by
  have hd : decide ((n : Int) < 1) = false := by simp; omega
  have hd2 : decide ((8 : Int) < n) = false := by simp; omega
  have hpos : 0 < n * n := Nat.mul_pos h1 h1
  have HV : Hid (Sl w v L) := hv
  obtain ⟨a, off, cap, rfl, ha, hcell⟩ := hv.form hl hpos
  obtain ⟨u, hu⟩ : ∃ u, u = lF n L := ⟨_, rfl⟩
  have HU : Hid (u = lF n L) := hu
  rw [← hu]
  obtain ⟨z, hz⟩ : ∃ z, z = n * n := ⟨_, rfl⟩
  have hz99 : z ≤ 99 := by rw [hz]; exact Nat.le_trans (Nat.mul_le_mul h8 h8) (by decide)
  have hmul : (n : Int) * (n : Int) = (z : Int) := by rw [hz]; simp
  have hne : ((z : Int) != (z : Int)) = false := by simp
  have HL : Hid (L.length = n * n) := hl
  have HZ : Hid (z = n * n) := hz
  have HC : Hid (∀ j, j < z → w.cell? ⟨a, off + j, none⟩ = some (.int .i64 (L.getD j 0))) := by rw [hz]; exact hcell
  rw [← hz] at HV ⊢
  have b0 := balloc w (.cells #[.int .i64 (n : Int), .slice (some ⟨a, off, none⟩) z cap] 49)
  have hx0 : (w.alloc (.cells #[.int .i64 (n : Int), .slice (some ⟨a, off, none⟩) z cap] 49)).cell? ⟨w.heap.size, 0, none⟩ = some (.int .i64 (n : Int)) := by rw [cell_of_row _ _ _ _ _ _ (heap_alloc_new w _)]; rfl
  have hx1 : (w.alloc (.cells #[.int .i64 (n : Int), .slice (some ⟨a, off, none⟩) z cap] 49)).cell? ⟨w.heap.size, 1, none⟩ = some (.slice (some ⟨a, off, none⟩) z cap) := by rw [cell_of_row _ _ _ _ _ _ (heap_alloc_new w _)]; rfl
  clear hcell hl hz hu hv hpos
  go_enter Tryd.func23, Tryd.ntmps23
  go_wp2
  go_loopw [3] (fun i wr => ∃ j : Nat, i = .int .i64 (j : Int) ∧ j ≤ z ∧ Hid (∀ q, q < j → 0 ≤ L.getD q 0 ∧ L.getD q 0 < n) ∧ wr.cell? ⟨w.heap.size, 0, none⟩ = some (.int .i64 (n : Int)) ∧ wr.cell? ⟨w.heap.size, 1, none⟩ = some (.slice (some ⟨a, off, none⟩) z cap) ∧ Below w.heap.size w wr) (fun i _ => (z - intOf i).toNat)
  case atStart => exact ⟨0, rfl, by omega, (fun q h => by omega : ∀ q, q < 0 → _), hx0, hx1, b0⟩
  case round =>
    clear hx0 hx1 b0
    obtain ⟨j, rfl, hj, HJ, hx0, hx1, b0⟩ := hrel
    by_cases hlt : j < z
    · have hdj : decide ((j : Int) < (z : Int)) = true := by simp; omega
      have hji : (j : Int) < z := by omega
      have hj0 : (0 : Int) ≤ (j : Int) := by omega
      have hcj := (b0.cell (p := ⟨a, off + j, none⟩) ha).trans (HC.out j hlt)
      obtain ⟨x, hx⟩ : ∃ x, x = L.getD j 0 := ⟨_, rfl⟩
      rw [← hx] at hcj
      by_cases hneg : x < 0
      · have hu1 : u = 1 := by rw [HU.out]; exact lF_out h1 h8 HL.out (by rw [← HZ.out]; exact hlt) (by rw [← hx]; omega)
        subst hu1
        have hdx : decide (x < 0) = true := decide_eq_true hneg
        clear HJ hx hneg
        go_wp2
        go_quiet (fail)
        go_wp2
        go_ret
        exact ⟨rfl, bdrewN b0 _⟩
      · have hdx : decide (x < 0) = false := decide_eq_false hneg
        by_cases hbig : (n : Int) ≤ x
        · have hu1 : u = 1 := by rw [HU.out]; exact lF_out h1 h8 HL.out (by rw [← HZ.out]; exact hlt) (by rw [← hx]; omega)
          subst hu1
          have hdx2 : decide ((n : Int) ≤ x) = true := decide_eq_true hbig
          clear HJ hx hneg hbig
          go_wp2
          go_quiet (fail)
          go_wp2
          go_ret
          exact ⟨rfl, bdrewN b0 _⟩
        · have hdx2 : decide ((n : Int) ≤ x) = false := decide_eq_false hbig
          have HJ2 : Hid (∀ q, q < j + 1 → 0 ≤ L.getD q 0 ∧ L.getD q 0 < n) := fun q hq => by
            by_cases e : q = j
            · subst e; rw [← hx]; omega
            · exact HJ.out q (by omega)
          clear HJ hx hneg hbig
          go_wp2
          go_quiet (fail)
          go_wp2
          go_roundw
          case rel => exact ⟨j + 1, by go_num, by omega, HJ2, hx0, hx1, bdrewN b0 _⟩
          case measure => simp [intOf]; omega
    · have hdj : decide ((j : Int) < (z : Int)) = false := by simp; omega
      obtain rfl : j = z := by omega
      have hon := lF_on h1 h8 HL.out (by rw [← HZ.out]; exact HJ.out)
      rw [← HU.out] at hon
      have C := onceD_any n L _ wr (onB n L) h1 h8 (HV.out.below b0) (by rw [HL.out, ← HZ.out]; exact hz99) rfl
      generalize onB n L = o at *
      cases o with
      | true =>
        have hu0 : u = 0 := hon
        subst hu0
        clear hon HJ HU
        go_wp2_with (go_at_call 37; refine C.mono ?_; rintro e w1 ⟨rfl, b1⟩)
        go_ret
        exact ⟨rfl, Below.next b0 b1⟩
      | false =>
        have hu0 : u = 6 := hon
        subst hu0
        clear hon HJ HU
        go_wp2_with (go_at_call 37; refine C.mono ?_; rintro e w1 ⟨rfl, b1⟩)
        go_ret
        exact ⟨rfl, Below.next b0 b1⟩
theorem LatinFault_any (s : Int) (L : List Int) (v : Value) (w : World) (hv : Sl w v L) (_hll : L.length ≤ maxLen) :
    Calls Tryd.prog 23 #[.agg #[.int .i64 s, v]] w fun e w' => e = .returned (.int .i64 (lF s L : Int)) ∧ Below w.heap.size w w' := by
  by_cases h : s < 1 ∨ 8 < s
  · rw [lF_far h]
    rcases h with h | h
    · exact LatinFault_low s v w h
    · exact LatinFault_high s v w h
  · obtain ⟨n, rfl⟩ : ∃ n : Nat, s = n := ⟨s.toNat, by omega⟩
    by_cases hl : L.length = n * n
    · exact LatinFault_main n L v w (by omega) (by omega) hv hl
    · rw [lF_shape (by omega) (by omega) hl]; exact LatinFault_shape n L v w (by omega) (by omega) hv hl
end Go.Proofs.YtjfjdidibglhaaaDoor
