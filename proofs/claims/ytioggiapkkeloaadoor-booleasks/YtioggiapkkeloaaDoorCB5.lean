/- The walks of the document's BentOf, ImmuneOf. -/
import Derived.Test.YtioggiapkkeloaaDoorCB4
import Derived.Deep.QuietTactic
import Derived.BigQuiet
namespace Go.Proofs.YtioggiapkkeloaaDoor
open Go.RowKit

theorem wrapZ {z : Int} (h1 : -99999 ≤ z) (h2 : z ≤ 99999) : IntKind.i64.wrap z = z := by rw [IntKind.wrap_i64]; omega
def flB (N : Nat) (S : Nat → Int) : Bool := (List.range N).all fun a => S a == S 0 || S a == - S 0
theorem flB_iff {N : Nat} {S : Nat → Int} : flB N S = true ↔ Flat N S := by
  unfold flB Flat
  rw [List.all_eq_true]
  exact ⟨fun h a ha => by simpa using h a (List.mem_range.2 ha), fun h a ha => by simpa using h a (List.mem_range.1 ha)⟩
theorem flB_no {N : Nat} {S : Nat → Int} {a : Nat} (ha : a < N) (h : ¬ (S a = S 0 ∨ S a = - S 0)) : flB N S = false := by
  cases e : flB N S
  · rfl
  · exact (h (flB_iff.1 e a ha)).elim
set_option maxRecDepth 100000 in
set_option maxHeartbeats 8000000 in
theorem BentOf_any (N : Nat) (l : List Int) (v : Value) (w : World) (hv : Sl w v l) (h1 : 1 ≤ N) (h2 : N ≤ 999) (hl : l.length = N) (hb : ∀ a, a < N → -999 ≤ tf l a ∧ tf l a ≤ 999) :
    Calls Tryd.prog 23 #[v] w fun e w' => e = .returned (.bool (flB N (tf l))) ∧ Below w.heap.size w w' := by
  obtain ⟨b, off, cap, rfl, ha, hcell⟩ := hv.form hl h1
  have HC : Hid (∀ j, j < N → w.cell? ⟨b, off + j, none⟩ = some (.int .i64 (tf l j))) := hcell
  have HB : Hid (∀ a, a < N → -999 ≤ tf l a ∧ tf l a ≤ 999) := hb
  have HY : Hid ((∀ a, a < N → tf l a = tf l 0 ∨ tf l a = - tf l 0) → flB N (tf l) = true) := fun h => flB_iff.2 h
  have HN : Hid (∀ a, a < N → ¬ (tf l a = tf l 0 ∨ tf l a = - tf l 0) → flB N (tf l) = false) := fun a ha h => flB_no ha h
  generalize flB N (tf l) = B at *
  generalize tf l = S at *
  have c0 := hcell 0 h1
  rw [Nat.add_zero] at c0
  have hs0 := hb 0 h1
  obtain ⟨s0, hs⟩ : ∃ s, S 0 = s := ⟨_, rfl⟩
  have c0' : w.cell? ⟨b, off, none⟩ = some (.int .i64 s0) := by
    have := HC.out 0 h1
    rw [hs, Nat.add_zero] at this
    exact this
  rw [hs] at HY HN hs0
  obtain ⟨nz, hnz⟩ : ∃ q, -s0 = q := ⟨_, rfl⟩
  rw [hnz] at HY HN
  have wn := wrapZ (z := nz) (by omega) (by omega)
  have HS0 : Hid (S 0 = s0) := hs
  have HC0 : Hid (w.cell? ⟨b, off, none⟩ = some (.int .i64 s0)) := c0'
  clear hv hcell hb c0 c0' hs hl
  go_enter Tryd.func23, Tryd.ntmps23
  go_wp2
  go_loopw [3] (fun iv wr => ∃ (i : Nat), iv = .int .i64 (i : Int) ∧ 1 ≤ i ∧ i ≤ N ∧ Hid (∀ a, a < i → S a = s0 ∨ S a = nz) ∧ Below w.heap.size w wr) (fun iv _ => (N - intOf iv).toNat)
  case atStart => exact ⟨1, rfl, by omega, h1, (fun a h => by (obtain rfl : a = 0 := by omega); exact .inl HS0.out : ∀ a, a < 1 → S a = s0 ∨ S a = nz), Below.refl _ _⟩
  case round =>
    obtain ⟨i, rfl, hi1, hi, HI, hB⟩ := hrel
    by_cases hlt : i < N
    · have hdi : decide ((i : Int) < (N : Int)) = true := by simp; omega
      have hii : (i : Int) < (N : Int) := by omega
      have h0N : (0 : Int) < (N : Int) := by omega
      have ci := (hB.cell (p := ⟨b, off + i, none⟩) ha).trans (HC.out i hlt)
      have cz := (hB.cell (p := ⟨b, off, none⟩) ha).trans HC0.out
      have cz' : wr.cell? ⟨b, off + 0, none⟩ = some (.int .i64 s0) := cz
      have HN2 := HN.out i hlt
      obtain ⟨x, hx⟩ : ∃ x, S i = x := ⟨_, rfl⟩
      rw [hx] at ci HN2
      have HX : Hid (S i = x) := hx
      have HNN : Hid (¬ (x = s0 ∨ x = nz) → B = false) := HN2
      clear hx HN2
      have HI2 : Hid ((x = s0 ∨ x = nz) → ∀ a, a < i + 1 → S a = s0 ∨ S a = nz) := fun h a ha => by
        by_cases e : a = i
        · subst e; rw [HX.out]; exact h
        · exact HI.out a (by omega)
      by_cases e0 : x = s0
      · have e1 : (x != s0) = false := by simp [e0]
        have HI3 : Hid (∀ a, a < i + 1 → S a = s0 ∨ S a = nz) := HI2.out (.inl e0)
        clear e0 HI2 HI HNN
        go_wp2
        go_quiet (fail)
        go_wp2
        go_roundw
        case rel => exact ⟨i + 1, by go_num, by omega, by omega, HI3, bdrewN hB _⟩
        case measure => simp [intOf]; omega
      · have e1 : (x != s0) = true := by simp [e0]
        by_cases e2 : x = nz
        · have e3 : (x != nz) = false := by simp [e2]
          have HI3 : Hid (∀ a, a < i + 1 → S a = s0 ∨ S a = nz) := HI2.out (.inr e2)
          clear e0 e2 HI2 HI HNN
          go_wp2
          go_quiet (fail)
          go_wp2
          go_roundw
          case rel => exact ⟨i + 1, by go_num, by omega, by omega, HI3, bdrewN hB _⟩
          case measure => simp [intOf]; omega
        · have e3 : (x != nz) = true := by simp [e2]
          obtain rfl : B = false := HNN.out (fun h => by rcases h with h | h; exact e0 h; exact e2 h)
          clear e0 e2 HI2 HI HNN
          go_wp2
          go_quiet (fail)
          go_wp2
          go_ret
          exact ⟨rfl, bdrewN hB _⟩
    · have hdi : decide ((i : Int) < (N : Int)) = false := by simp; omega
      obtain rfl : B = true := HY.out fun a ha => HI.out a (by omega)
      go_wp2
      go_ret
      exact ⟨rfl, hB⟩
theorem im_found {n m a : Nat} {S : Nat → Int} (hn : n ≤ 8) (hm : 1 ≤ m) (hmn : m ≤ n) (h : imB n S (m - 1) = true) (ha : a < 2 ^ n) (hw : wt a = m) (hS : S a ≠ 0) : imN n S n = m - 1 := by
  have h1 := imN_most h (m := n) (by omega)
  have h2 := imN_is S hn n
  apply Classical.byContradiction
  intro hc
  have h3 := imB_iff.1 (imB_down h2 (show m ≤ imN n S n by omega)) a ha (fun e => by rw [e, wt_nil] at hw; omega) (by omega)
  exact hS h3
theorem im_next {n m : Nat} {S : Nat → Int} (h : imB n S (m - 1) = true) (hm : 1 ≤ m) (k : ∀ a, a < 2 ^ n → a ≠ 0 → wt a = m → S a = 0) : imB n S m = true := imB_iff.2 fun a ha h0 hw => by
  by_cases e : wt a = m
  · exact k a ha h0 e
  · exact imB_iff.1 h a ha h0 (by omega)
theorem im_all {n : Nat} {S : Nat → Int} (h : imB n S n = true) : imN n S n = n := by
  have := imN_most h (m := n) (Nat.le_refl _)
  have := imN_le n S n
  omega
set_option maxRecDepth 100000 in
set_option maxHeartbeats 8000000 in
theorem ImmuneOf_any (n : Nat) (l : List Int) (v : Value) (w : World) (hv : Sl w v l) (hn : n ≤ 8) (hl : l.length = 2 ^ n) :
    Calls Tryd.prog 24 #[v] w fun e w' => e = .returned (.int .i64 (imN n (tf l) n : Int)) ∧ w' = w := by
  obtain ⟨p1, p2⟩ := pow256 hn
  have CB := BitsOf_any (2 ^ n) w (by unfold maxLen; omega)
  rw [btZ_is hn rfl] at CB
  have HFo : Hid (∀ m a, 1 ≤ m → m ≤ n → imB n (tf l) (m - 1) = true → a < 2 ^ n → wt a = m → tf l a ≠ 0 → imN n (tf l) n = m - 1) := fun m a h1 h2 h3 h4 h5 h6 => im_found hn h1 h2 h3 h4 h5 h6
  have HNx : Hid (∀ m, imB n (tf l) (m - 1) = true → 1 ≤ m → (∀ a, a < 2 ^ n → a ≠ 0 → wt a = m → tf l a = 0) → imB n (tf l) m = true) := fun m h h1 k => im_next h h1 k
  have HAl : Hid (imB n (tf l) n = true → imN n (tf l) n = n) := im_all
  have HI0 : Hid (imB n (tf l) (1 - 1) = true) := imB_zero _ hn
  obtain ⟨z, Hz⟩ : ∃ z : Nat, Hid (2 ^ n = z) := ⟨_, rfl⟩
  rw [Hz.out] at p1 p2 hl CB HFo HNx
  obtain ⟨b, off, cap, rfl, ha, hcell⟩ := hv.form hl p1
  have HC : Hid (∀ j, j < z → w.cell? ⟨b, off + j, none⟩ = some (.int .i64 (tf l j))) := hcell
  have CW := fun u (hu : u < z) => Weight_any u w (by omega)
  have HW : Hid (∀ u, u < z → Calls Tryd.prog 32 #[.int .i64 (u : Int)] w fun e w' => e = .returned (.int .i64 (wt u : Int)) ∧ w' = w) := CW
  obtain ⟨Y, HY⟩ : ∃ y, Hid (imN n (tf l) n = y) := ⟨_, rfl⟩
  rw [HY.out] at HFo HAl ⊢
  clear hv hcell hl CW
  go_enter Tryd.func24, Tryd.ntmps24
  go_wp2_with (go_at_call 14; refine CB.mono ?_; rintro e w1 ⟨rfl, hw⟩; replace hw := hw.symm; subst hw; clear CB)
  go_loopw [4] (fun mv wr => ∃ (m : Nat), mv = .int .i64 (m : Int) ∧ 1 ≤ m ∧ m ≤ n + 1 ∧ Hid (imB n (tf l) (m - 1) = true) ∧ wr = w) (fun mv _ => (n + 1 - intOf mv).toNat)
  case atStart => exact ⟨1, rfl, by omega, by omega, HI0, rfl⟩
  case round =>
    obtain ⟨m, rfl, hm1, hm, HI, hw⟩ := hrel
    replace hw := hw.symm
    subst hw
    by_cases hlm : m ≤ n
    · have hdm : decide ((m : Int) ≤ (n : Int)) = true := by simp; omega
      go_wp2
      go_loopw [5] (fun av wr => ∃ (a : Nat), av = .int .i64 (a : Int) ∧ 1 ≤ a ∧ a ≤ z ∧ Hid (∀ x, x < a → x ≠ 0 → wt x = m → tf l x = 0) ∧ wr = w) (fun av _ => (z - intOf av).toNat)
      case atStart => exact ⟨1, rfl, by omega, p1, (fun x h h0 => by omega : ∀ x, x < 1 → x ≠ 0 → wt x = m → tf l x = 0), rfl⟩
      case round =>
        obtain ⟨a, rfl, ha1, haz, HA, hw⟩ := hrel
        replace hw := hw.symm
        subst hw
        by_cases hla : a < z
        · have hda : decide ((a : Int) < (z : Int)) = true := by simp; omega
          have haz' : (a : Int) < (z : Int) := by omega
          have C := HW.out a hla
          have ca := HC.out a hla
          have hwl := wt_le a
          obtain ⟨t, Ht⟩ : ∃ t, Hid (wt a = t) := ⟨_, rfl⟩
          rw [Ht.out] at C hwl
          obtain ⟨x, Hx⟩ : ∃ x, Hid (tf l a = x) := ⟨_, rfl⟩
          rw [Hx.out] at ca
          by_cases e : t = m
          · have e1 : ((t : Int) == (m : Int)) = true := by simp [e]
            by_cases x0 : x = 0
            · have e2 : (x != 0) = false := by simp [x0]
              have HA2 : Hid (∀ q, q < a + 1 → q ≠ 0 → wt q = m → tf l q = 0) := fun q hq h0 hw => by
                by_cases eq : q = a
                · subst eq; rw [Hx.out]; exact x0
                · exact HA.out q (by omega) h0 hw
              clear e x0 HA
              go_wp2_with (go_at_call 32; refine C.mono ?_; rintro e w1 ⟨rfl, hw⟩; replace hw := hw.symm; subst hw; clear C)
              go_roundw
              case rel => exact ⟨a + 1, by go_num, by omega, by omega, HA2, trivial⟩
              case measure => simp [intOf]; omega
            · have e2 : (x != 0) = true := by simp [x0]
              have hf := HFo.out m a hm1 hlm HI.out hla (by rw [Ht.out]; exact e) (by rw [Hx.out]; exact x0)
              have hsub : (m : Int) - 1 = (Y : Int) := by omega
              clear e x0 HA hf
              go_wp2_with (go_at_call 32; refine C.mono ?_; rintro e w1 ⟨rfl, hw⟩; replace hw := hw.symm; subst hw; clear C)
              go_ret
              exact ⟨rfl, rfl⟩
          · have e1 : ((t : Int) == (m : Int)) = false := by simp; omega
            have HA2 : Hid (∀ q, q < a + 1 → q ≠ 0 → wt q = m → tf l q = 0) := fun q hq h0 hw => by
              by_cases eq : q = a
              · subst eq; exact (e (Ht.out.symm.trans hw)).elim
              · exact HA.out q (by omega) h0 hw
            clear e HA
            go_wp2_with (go_at_call 32; refine C.mono ?_; rintro e w1 ⟨rfl, hw⟩; replace hw := hw.symm; subst hw; clear C)
            go_roundw
            case rel => exact ⟨a + 1, by go_num, by omega, by omega, HA2, trivial⟩
            case measure => simp [intOf]; omega
        · have hda : decide ((a : Int) < (z : Int)) = false := by simp; omega
          have HI2 : Hid (imB n (tf l) (m + 1 - 1) = true) := HNx.out m HI.out hm1 fun q hq h0 hw => HA.out q (by omega) h0 hw
          go_wp2
          go_roundw
          case rel => exact ⟨m + 1, by go_num, by omega, by omega, HI2, trivial⟩
          case measure => simp [intOf]; omega
    · have hdm : decide ((m : Int) ≤ (n : Int)) = false := by simp; omega
      have hdm' : decide (m ≤ n) = false := by simp; omega
      obtain rfl : Y = n := HAl.out (by have := HI.out; rw [show m - 1 = n by omega] at this; exact this)
      go_wp2
      go_ret
      exact ⟨rfl, rfl⟩
end Go.Proofs.YtioggiapkkeloaaDoor
