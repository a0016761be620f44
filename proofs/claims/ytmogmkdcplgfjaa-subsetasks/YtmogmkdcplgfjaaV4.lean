/- The document's ApartOf and CrossOf, walked. -/
import Derived.Test.YtmogmkdcplgfjaaV2
namespace Go.Proofs.Ytmogmkdcplgfjaa
open Go.RowKit

theorem andM {a b : Nat} (ha : a < 4096) (hb : b < 4096) : bits .and .i64 (a : Int) (b : Int) = ((a &&& b : Nat) : Int) := by
  have hx : a &&& b < 2 ^ 12 := Nat.and_lt_two_pow a (by omega)
  have h1 : (BitVec.ofInt (8 * 8) (a : Int)).toNat = a := by
    rw [BitVec.ofInt_natCast, BitVec.toNat_ofNat]; exact Nat.mod_eq_of_lt (by omega)
  have h2 : (BitVec.ofInt (8 * 8) (b : Int)).toNat = b := by
    rw [BitVec.ofInt_natCast, BitVec.toNat_ofNat]; exact Nat.mod_eq_of_lt (by omega)
  show IntKind.i64.wrap ((BitVec.ofInt (8 * 8) (a : Int) &&& BitVec.ofInt (8 * 8) (b : Int)).toNat : Int) = _
  rw [BitVec.toNat_and, h1, h2, IntKind.wrap_i64]
  omega
/-- Of two places: what is asked of them. -/
def twB (p : Nat → Nat → Bool) (d : Nat) (M : List Nat) : Bool := (List.range M.length).all fun i => (List.range (i + d)).all fun j => p (M.getD i 0) (M.getD j 0)
theorem tw_no {p : Nat → Nat → Bool} {d : Nat} {M : List Nat} {i j : Nat} (hi : i < M.length) (hj : j < i + d) (h : p (M.getD i 0) (M.getD j 0) = false) : twB p d M = false := by
  cases e : twB p d M with
  | false => rfl
  | true =>
    have := List.all_eq_true.1 (List.all_eq_true.1 e i (List.mem_range.2 hi)) j (List.mem_range.2 hj)
    rw [h] at this; cases this
theorem tw_yes {p : Nat → Nat → Bool} {d : Nat} {M : List Nat} (h : ∀ i, i < M.length → ∀ j, j < i + d → p (M.getD i 0) (M.getD j 0) = true) : twB p d M = true :=
  List.all_eq_true.2 fun i hi => List.all_eq_true.2 fun j hj => h i (List.mem_range.1 hi) j (List.mem_range.1 hj)
theorem tw_at {p : Nat → Nat → Bool} {d : Nat} {M : List Nat} (h : twB p d M = true) {i j : Nat} (hi : i < M.length) (hj : j < i + d) : p (M.getD i 0) (M.getD j 0) = true :=
  List.all_eq_true.1 (List.all_eq_true.1 h i (List.mem_range.2 hi)) j (List.mem_range.2 hj)
def apP (a b : Nat) : Bool := !(a &&& b == a || a &&& b == b)
def crP (a b : Nat) : Bool := !(a &&& b == 0)
set_option maxRecDepth 100000 in
set_option maxHeartbeats 8000000 in
theorem ApartOf_any (M : List Nat) (v : Value) (w : World) (hv : Wd w v M) (hl : M.length ≤ 4096) (h4 : ∀ i, i < M.length → M.getD i 0 < 4096) :
    Calls Try.prog 21 #[v] w fun e w' => e = .returned (.bool (twB apP 0 M)) ∧ Below w.heap.size w w' := by
  obtain ⟨z, Hz⟩ : ∃ z, Hid (twB apP 0 M = z) := ⟨_, rfl⟩
  obtain ⟨a, c, rfl, -, hA⟩ := hv
  have HA : Hid (∀ W, Below w.heap.size w W → ∀ i, i < M.length → ∃ b off, a = some ⟨b, off, none⟩ ∧ W.cell? ⟨b, off + i, none⟩ = some (.int .i64 ((M.getD i 0 : Nat) : Int))) := fun W bW i hi => by
    obtain ⟨b, o, e, hc⟩ := hA i hi
    exact ⟨b, o, e, (bW.cell (World.block_lt_of_cell? _ _ hc)).trans hc⟩
  have HB : Hid (∀ i, i < M.length → ∀ j, j < i + 0 → apP (M.getD i 0) (M.getD j 0) = false → z = false) := fun i hi j hj h => by rw [← Hz.out]; exact tw_no hi hj h
  have HG : Hid ((∀ i, i < M.length → ∀ j, j < i + 0 → apP (M.getD i 0) (M.getD j 0) = true) → z = true) := fun h => by rw [← Hz.out]; exact tw_yes h
  have H4 : Hid (∀ i, i < M.length → M.getD i 0 < 4096) := h4
  rw [Hz.out]
  obtain ⟨n, Hn⟩ : ∃ n, Hid (M.length = n) := ⟨_, rfl⟩
  rw [Hn.out] at HA HB HG H4 hl ⊢
  clear hA h4
  go_enter Try.func21, Try.ntmps21
  go_wp2
  go_loopw [3] (fun iv wr => ∃ (i : Nat), iv = .int .i64 (i : Int) ∧ i ≤ n ∧ Hid (∀ s, s < i → ∀ j, j < s + 0 → apP (M.getD s 0) (M.getD j 0) = true) ∧ Below w.heap.size w wr) (fun iv _ => (n - intOf iv).toNat)
  case atStart => exact ⟨0, rfl, by omega, (show ∀ s, s < 0 → _ from fun s h => by omega), Below.refl _ _⟩
  case round =>
    obtain ⟨i, rfl, hi, HI, hB⟩ := hrel
    by_cases hlt : i < n
    · have hdi : decide ((i : Int) < (n : Int)) = true := by simp; omega
      have hii : (i : Int) < (n : Int) := by omega
      go_wp2
      go_loopw [4] (fun jv wr => ∃ (j : Nat), jv = .int .i64 (j : Int) ∧ j ≤ i + 0 ∧ Hid (∀ s, s < j → apP (M.getD i 0) (M.getD s 0) = true) ∧ Below w.heap.size w wr) (fun jv _ => (i + 0 - intOf jv).toNat)
      case atStart => exact ⟨0, rfl, by omega, (show ∀ s, s < 0 → _ from fun s h => by omega), hB⟩
      case round =>
        clear hB
        obtain ⟨j, rfl, hj, HJ, hB⟩ := hrel
        by_cases hjl : j < i + 0
        · have hdj : decide (j < i) = true := by simp; omega
          have hjn : (j : Int) < (n : Int) := by omega
          obtain ⟨b1, o1, rfl, c1⟩ := HA.out wr hB i hlt
          obtain ⟨b2, o2, e2, c2⟩ := HA.out wr hB j (by omega)
          cases e2
          have hno := HB.out i hlt j hjl
          have hx4 := H4.out i hlt
          have hy4 := H4.out j (by omega)
          obtain ⟨x, hx⟩ : ∃ x, Hid (M.getD i 0 = x) := ⟨_, rfl⟩
          obtain ⟨y, hy⟩ : ∃ y, Hid (M.getD j 0 = y) := ⟨_, rfl⟩
          rw [hx.out] at c1 hx4 hno
          rw [hy.out] at c2 hy4 hno
          obtain ⟨u, hu⟩ : ∃ u, Hid (x &&& y = u) := ⟨_, rfl⟩
          have eu : bits .and .i64 (x : Int) (y : Int) = (u : Int) := by rw [andM hx4 hy4, hu.out]
          have huu : IntKind.i64.wrap (u : Int) = (u : Int) := IntWalk.i64_in _ (by have : x &&& y ≤ x := Nat.and_le_left; rw [hu.out] at this; omega)
          by_cases e1 : u = x
          · have he1 : ((u : Int) == (x : Int)) = true := by simp; omega
            have HZ : Hid (z = false) := hno (by unfold apP; rw [hu.out]; simp; omega)
            clear hno e1
            go_wp2
            go_quiet (fail)
            go_wp2
            go_ret
            exact ⟨by rw [HZ.out]; rfl, bdrewN hB _⟩
          · have he1 : ((u : Int) == (x : Int)) = false := by simp; omega
            by_cases e2 : u = y
            · have he2 : ((u : Int) == (y : Int)) = true := by simp; omega
              have HZ : Hid (z = false) := hno (by unfold apP; rw [hu.out]; simp; omega)
              clear hno e1 e2
              go_wp2
              go_quiet (fail)
              go_wp2
              go_ret
              exact ⟨by rw [HZ.out]; rfl, bdrewN hB _⟩
            · have he2 : ((u : Int) == (y : Int)) = false := by simp; omega
              have HJ2 : Hid (∀ s, s < j + 1 → apP (M.getD i 0) (M.getD s 0) = true) := fun s hs => by
                by_cases e : s = j
                · rw [e, hx.out, hy.out]; unfold apP; rw [hu.out]; simp; omega
                · exact HJ.out s (by omega)
              clear hno HJ e1 e2
              go_wp2
              go_quiet (fail)
              go_wp2
              go_roundw
              case rel => exact ⟨j + 1, by go_num, by omega, HJ2, bdrewN hB _⟩
              case measure => simp [intOf]; omega
        · have hdj : decide (j < i) = false := by simp; omega
          have HI2 : Hid (∀ s, s < i + 1 → ∀ j, j < s + 0 → apP (M.getD s 0) (M.getD j 0) = true) := fun s hs t ht => by
            by_cases e : s = i
            · rw [e]; exact HJ.out t (by omega)
            · exact HI.out s (by omega) t ht
          clear HI HJ
          go_wp2
          go_roundw
          case rel => exact ⟨i + 1, by go_num, by omega, HI2, hB⟩
          case measure => simp [intOf]; omega
    · have hdi : decide ((i : Int) < (n : Int)) = false := by simp; omega
      have HZ : Hid (z = true) := HG.out fun s hs => HI.out s (by omega)
      go_wp2
      go_ret
      exact ⟨by rw [HZ.out]; rfl, hB⟩
set_option maxRecDepth 100000 in
set_option maxHeartbeats 8000000 in
theorem CrossOf_any (M : List Nat) (v : Value) (w : World) (hv : Wd w v M) (hl : M.length ≤ 4096) (h4 : ∀ i, i < M.length → M.getD i 0 < 4096) :
    Calls Try.prog 22 #[v] w fun e w' => e = .returned (.bool (twB crP 1 M)) ∧ Below w.heap.size w w' := by
  obtain ⟨z, Hz⟩ : ∃ z, Hid (twB crP 1 M = z) := ⟨_, rfl⟩
  obtain ⟨a, c, rfl, -, hA⟩ := hv
  have HA : Hid (∀ W, Below w.heap.size w W → ∀ i, i < M.length → ∃ b off, a = some ⟨b, off, none⟩ ∧ W.cell? ⟨b, off + i, none⟩ = some (.int .i64 ((M.getD i 0 : Nat) : Int))) := fun W bW i hi => by
    obtain ⟨b, o, e, hc⟩ := hA i hi
    exact ⟨b, o, e, (bW.cell (World.block_lt_of_cell? _ _ hc)).trans hc⟩
  have HB : Hid (∀ i, i < M.length → ∀ j, j < i + 1 → crP (M.getD i 0) (M.getD j 0) = false → z = false) := fun i hi j hj h => by rw [← Hz.out]; exact tw_no hi hj h
  have HG : Hid ((∀ i, i < M.length → ∀ j, j < i + 1 → crP (M.getD i 0) (M.getD j 0) = true) → z = true) := fun h => by rw [← Hz.out]; exact tw_yes h
  have H4 : Hid (∀ i, i < M.length → M.getD i 0 < 4096) := h4
  rw [Hz.out]
  obtain ⟨n, Hn⟩ : ∃ n, Hid (M.length = n) := ⟨_, rfl⟩
  rw [Hn.out] at HA HB HG H4 hl ⊢
  clear hA h4
  go_enter Try.func22, Try.ntmps22
  go_wp2
  go_loopw [3] (fun iv wr => ∃ (i : Nat), iv = .int .i64 (i : Int) ∧ i ≤ n ∧ Hid (∀ s, s < i → ∀ j, j < s + 1 → crP (M.getD s 0) (M.getD j 0) = true) ∧ Below w.heap.size w wr) (fun iv _ => (n - intOf iv).toNat)
  case atStart => exact ⟨0, rfl, by omega, (show ∀ s, s < 0 → _ from fun s h => by omega), Below.refl _ _⟩
  case round =>
    obtain ⟨i, rfl, hi, HI, hB⟩ := hrel
    by_cases hlt : i < n
    · have hdi : decide ((i : Int) < (n : Int)) = true := by simp; omega
      have hii : (i : Int) < (n : Int) := by omega
      go_wp2
      go_loopw [4] (fun jv wr => ∃ (j : Nat), jv = .int .i64 (j : Int) ∧ j ≤ i + 1 ∧ Hid (∀ s, s < j → crP (M.getD i 0) (M.getD s 0) = true) ∧ Below w.heap.size w wr) (fun jv _ => (i + 1 - intOf jv).toNat)
      case atStart => exact ⟨0, rfl, by omega, (show ∀ s, s < 0 → _ from fun s h => by omega), hB⟩
      case round =>
        clear hB
        obtain ⟨j, rfl, hj, HJ, hB⟩ := hrel
        by_cases hjl : j < i + 1
        · have hdj : decide (j ≤ i) = true := by simp; omega
          have hjn : (j : Int) < (n : Int) := by omega
          obtain ⟨b1, o1, rfl, c1⟩ := HA.out wr hB i hlt
          obtain ⟨b2, o2, e2, c2⟩ := HA.out wr hB j (by omega)
          cases e2
          have hno := HB.out i hlt j hjl
          have hx4 := H4.out i hlt
          have hy4 := H4.out j (by omega)
          obtain ⟨x, hx⟩ : ∃ x, Hid (M.getD i 0 = x) := ⟨_, rfl⟩
          obtain ⟨y, hy⟩ : ∃ y, Hid (M.getD j 0 = y) := ⟨_, rfl⟩
          rw [hx.out] at c1 hx4 hno
          rw [hy.out] at c2 hy4 hno
          obtain ⟨u, hu⟩ : ∃ u, Hid (x &&& y = u) := ⟨_, rfl⟩
          have eu : bits .and .i64 (x : Int) (y : Int) = (u : Int) := by rw [andM hx4 hy4, hu.out]
          have huu : IntKind.i64.wrap (u : Int) = (u : Int) := IntWalk.i64_in _ (by have : x &&& y ≤ x := Nat.and_le_left; rw [hu.out] at this; omega)
          by_cases e1 : u = 0
          · have he1 : ((u : Int) == 0) = true := by simp; omega
            have HZ : Hid (z = false) := hno (by unfold crP; rw [hu.out]; simp; omega)
            clear hno e1
            go_wp2
            go_quiet (fail)
            go_wp2
            go_ret
            exact ⟨by rw [HZ.out]; rfl, bdrewN hB _⟩
          · have he1 : ((u : Int) == 0) = false := by simp; omega
            have HJ2 : Hid (∀ s, s < j + 1 → crP (M.getD i 0) (M.getD s 0) = true) := fun s hs => by
              by_cases e : s = j
              · rw [e, hx.out, hy.out]; unfold crP; rw [hu.out]; simp; omega
              · exact HJ.out s (by omega)
            clear hno HJ e1
            go_wp2
            go_quiet (fail)
            go_wp2
            go_roundw
            case rel => exact ⟨j + 1, by go_num, by omega, HJ2, bdrewN hB _⟩
            case measure => simp [intOf]; omega
        · have hdj : decide (j ≤ i) = false := by simp; omega
          have HI2 : Hid (∀ s, s < i + 1 → ∀ j, j < s + 1 → crP (M.getD s 0) (M.getD j 0) = true) := fun s hs t ht => by
            by_cases e : s = i
            · rw [e]; exact HJ.out t (by omega)
            · exact HI.out s (by omega) t ht
          clear HI HJ
          go_wp2
          go_roundw
          case rel => exact ⟨i + 1, by go_num, by omega, HI2, hB⟩
          case measure => simp [intOf]; omega
    · have hdi : decide ((i : Int) < (n : Int)) = false := by simp; omega
      have HZ : Hid (z = true) := HG.out fun s hs => HI.out s (by omega)
      go_wp2
      go_ret
      exact ⟨by rw [HZ.out]; rfl, hB⟩
end Go.Proofs.Ytmogmkdcplgfjaa
