/- The document's TourFault and Beats, walked. -/
import Derived.Test.YtgkfddcmngodgaaTrF
import Derived.Test.YtgkfddcmngodgaaTrK
import Derived.Test.YtgkfddcmngodgaaDOw
namespace Go.Proofs.Ytgkfddcmngodgaa
open Go.RowKit

theorem sq_cells (s : Int) (u : Value) (w : World) : ∀ W, Below (w.alloc (.cells #[.int .i64 s, u] 24)).heap.size (w.alloc (.cells #[.int .i64 s, u] 24)) W → W.cell? ⟨w.heap.size, 0, none⟩ = some (.int .i64 s) ∧ W.cell? ⟨w.heap.size, 1, none⟩ = some u := fun W b => by
  have k := (b.block w.heap.size (by simp)).trans (heap_alloc_new w (.cells #[.int .i64 s, u] 24))
  exact ⟨by rw [cell_of_row _ _ _ _ _ _ k]; rfl, by rw [cell_of_row _ _ _ _ _ _ k]; rfl⟩
/-- A table's cells as they are read. -/
theorem sl_all {w : World} {v : Value} {l : List Int} (h : Sl w v l) (h0 : 0 < l.length) : ∃ b o c, v = .slice (some ⟨b, o, none⟩) l.length c ∧ ∀ W, Below w.heap.size w W → ∀ j, j < l.length → W.cell? ⟨b, o + j, none⟩ = some (.int .i64 (l.getD j 0)) := by
  obtain ⟨b, o, c, e, _, hk⟩ := h.form rfl h0
  exact ⟨b, o, c, e, fun W hW j hj => (hW.cell (World.block_lt_of_cell? _ _ (hk j hj))).trans (hk j hj)⟩
set_option maxRecDepth 100000 in
set_option maxHeartbeats 16000000 in
theorem TourFault_any (s : Int) (l : List Int) (v : Value) (w : World) (hv : Sl w v l) :
    Calls Try.prog 9 #[.agg #[.int .i64 s, v]] w fun e w' => e = .returned (.int .i64 (tF s l : Int)) ∧ Below w.heap.size w w' := by
  obtain ⟨z, Hz⟩ : ∃ z, Hid (tF s l = z) := ⟨_, rfl⟩
  have b1 := balloc w (.cells #[.int .i64 s, v] 24)
  have HX := sq_cells s v w
  by_cases h1 : s < 1 ∨ 9 < s
  · have HZ : Hid (z = 1) := by show _ = _; rw [← Hz.out]; unfold tF; rw [if_pos h1]
    obtain ⟨x0, x1⟩ := HX _ (Below.refl _ _)
    obtain ⟨a, cap, rfl, -⟩ := hv
    rw [Hz.out, HZ.out]
    generalize l.length = m at *
    clear HX Hz
    by_cases ha : s < 1
    · have hd : decide (s < 1) = true := by simpa using ha
      go_enter Try.func9, Try.ntmps9
      go_wp2
      go_ret
      exact ⟨rfl, b1⟩
    · have hd : decide (s < 1) = false := by simpa using ha
      have hd2 : decide (9 < s) = true := by simp; omega
      go_enter Try.func9, Try.ntmps9
      go_wp2
      go_ret
      exact ⟨rfl, b1⟩
  · obtain ⟨n, rfl⟩ : ∃ n : Nat, s = n := ⟨s.toNat, by omega⟩
    have hd : decide ((n : Int) < 1) = false := by simp; omega
    have hd2 : decide ((9 : Int) < (n : Int)) = false := by simp; omega
    have hn1 : 1 ≤ n := by omega
    have hn9 : n ≤ 9 := by omega
    obtain ⟨q, Hq⟩ : ∃ q, Hid (n * n = q) := ⟨_, rfl⟩
    have hq81 : q ≤ 81 := by rw [← Hq.out]; exact Nat.mul_le_mul hn9 hn9
    have hq1 : 1 ≤ q := by rw [← Hq.out]; exact Nat.mul_le_mul hn1 hn1
    have hqn : (n : Int) * (n : Int) = (q : Int) := by rw [← Hq.out]; simp
    obtain ⟨m, Hm⟩ : ∃ m, Hid (l.length = m) := ⟨_, rfl⟩
    by_cases h2 : m = q
    · subst h2
      obtain ⟨b, o, c, rfl, hC⟩ := sl_all hv (by rw [Hm.out]; omega)
      rw [Hm.out] at HX b1 hC ⊢
      have HZ : Hid (TfZ n l z) := by
        show TfZ n l z
        rw [← Hz.out]
        exact tfZ_of h1 (by rw [Hm.out, Hq.out])
      rw [Hz.out]
      obtain ⟨w0, Hw0⟩ : ∃ w0, Hid (w.alloc (.cells #[.int .i64 (n : Int), .slice (some ⟨b, o, none⟩) m c] 24) = w0) := ⟨_, rfl⟩
      rw [Hw0.out] at b1 HX
      have HX2 : Hid (∀ W, Below w0.heap.size w0 W → W.cell? ⟨w.heap.size, 0, none⟩ = some (.int .i64 (n : Int)) ∧ W.cell? ⟨w.heap.size, 1, none⟩ = some (.slice (some ⟨b, o, none⟩) m c)) := HX
      have HC : Hid (∀ W, Below w0.heap.size w0 W → ∀ j, j < m → W.cell? ⟨b, o + j, none⟩ = some (.int .i64 (l.getD j 0))) := fun W bW j hj => hC W (Below.next b1 bW) j hj
      have HB0 : Hid (∀ W, Below w0.heap.size w0 W → Below w.heap.size w W) := fun W b => Below.next b1 b
      have hne : ((m : Int) != (m : Int)) = false := by simp
      obtain ⟨x0, x1⟩ := HX2.out w0 (Below.refl _ _)
      rw [← Hw0.out] at x0 x1
      clear HX hC hv b1 h1 Hz
      go_enter Try.func9, Try.ntmps9
      go_wp2
      rw [Hw0.out]
      go_loopw [4] (fun iv wr => ∃ i : Nat, iv = .int .i64 (i : Int) ∧ i ≤ m ∧ Hid (∀ j, j < i → l.getD j 0 = 0 ∨ l.getD j 0 = 1) ∧ Below w0.heap.size w0 wr) (fun iv _ => (m - intOf iv).toNat)
      case atStart => exact ⟨0, rfl, by omega, (show ∀ j, j < 0 → _ from fun j h => by omega), Below.refl _ _⟩
      case round =>
        clear x0 x1
        obtain ⟨i, rfl, hi, HI, hB⟩ := hrel
        obtain ⟨x0, x1⟩ := HX2.out wr hB
        by_cases hlt : i < m
        · have hdi : decide ((i : Int) < (m : Int)) = true := by simp; omega
          have hii : (i : Int) < (m : Int) := by omega
          have hc := HC.out wr hB i hlt
          obtain ⟨x, Hx⟩ : ∃ x, Hid (l.getD i 0 = x) := ⟨_, rfl⟩
          rw [Hx.out] at hc
          by_cases hx0 : x = 0
          · have hn0 : (x != 0) = false := by simp [hx0]
            have HI2 : Hid (∀ j, j < i + 1 → l.getD j 0 = 0 ∨ l.getD j 0 = 1) := fun j hj => by
              by_cases e : j = i
              · rw [e, Hx.out]; exact .inl hx0
              · exact HI.out j (by omega)
            clear hx0
            go_wp2
            go_roundw
            case rel => exact ⟨i + 1, by go_num, by omega, HI2, hB⟩
            case measure => simp [intOf]; omega
          · have hn0 : (x != 0) = true := by simp [hx0]
            by_cases hx1 : x = 1
            · have hn1' : (x != 1) = false := by simp [hx1]
              have HI2 : Hid (∀ j, j < i + 1 → l.getD j 0 = 0 ∨ l.getD j 0 = 1) := fun j hj => by
                by_cases e : j = i
                · rw [e, Hx.out]; exact .inr hx1
                · exact HI.out j (by omega)
              clear hx0 hx1
              go_wp2
              go_roundw
              case rel => exact ⟨i + 1, by go_num, by omega, HI2, hB⟩
              case measure => simp [intOf]; omega
            · have hn1' : (x != 1) = true := by simp [hx1]
              have HZ1 : Hid (z = 1) := HZ.out.cel i (by rw [Hm.out]; exact hlt) (by rw [Hx.out]; exact hx0) (by rw [Hx.out]; exact hx1)
              clear hx0 hx1
              go_wp2
              go_ret
              exact ⟨by rw [HZ1.out]; rfl, HB0.out _ hB⟩
        · have hdi : decide ((i : Int) < (m : Int)) = false := by simp; omega
          have hdin : decide (i < m) = false := by simp; omega
          have HCE : Hid (∀ j, j < l.length → l.getD j 0 = 0 ∨ l.getD j 0 = 1) := fun j hj => HI.out j (by have := Hm.out; omega)
          clear HI hi
          go_wp2
          clear hdi hdin hlt x0 x1
          go_loopw [5] (fun av wr => ∃ a : Nat, av = .int .i64 (a : Int) ∧ a ≤ n ∧ Hid (∀ i j, i < a → j ≤ i → badT n l i j = false) ∧ Below w0.heap.size w0 wr) (fun av _ => (n - intOf av).toNat)
          case atStart => exact ⟨0, rfl, by omega, (show ∀ i j, i < 0 → _ from fun i j h => by omega), hB⟩
          case round =>
            clear hB
            obtain ⟨a, rfl, ha, HA, hB⟩ := hrel
            by_cases hlt : a < n
            · have hda : decide ((a : Int) < (n : Int)) = true := by simp; omega
              have haa : (a : Int) < (n : Int) := by omega
              go_wp2
              go_loopw [6] (fun bv wr => ∃ d : Nat, bv = .int .i64 (d : Int) ∧ d ≤ a + 1 ∧ Hid (∀ j, j < d → badT n l a j = false) ∧ Below w0.heap.size w0 wr) (fun bv _ => (a + 1 - intOf bv).toNat)
              case atStart => exact ⟨0, rfl, by omega, (show ∀ j, j < 0 → _ from fun j h => by omega), hB⟩
              case round =>
                clear hB
                obtain ⟨d, rfl, hda1, HD, hB⟩ := hrel
                obtain ⟨x0, x1⟩ := HX2.out wr hB
                by_cases hld : d ≤ a
                · have hdd : decide ((d : Int) ≤ (a : Int)) = true := by simp; omega
                  have hdj : (d : Int) ≤ (a : Int) := by omega
                  obtain ⟨p, Hp⟩ : ∃ p, Hid (a * n + d = p) := ⟨_, rfl⟩
                  obtain ⟨r, Hr⟩ : ∃ r, Hid (d * n + a = r) := ⟨_, rfl⟩
                  have hpm : p < m := by rw [← Hp.out, ← Hq.out]; exact idx_lt hlt (by omega)
                  have hrm : r < m := by rw [← Hr.out, ← Hq.out]; exact idx_lt (by omega) hlt
                  have hc1 := HC.out wr hB p hpm
                  have hc2 := HC.out wr hB r hrm
                  obtain ⟨an, Han⟩ : ∃ an, Hid (a * n = an) := ⟨_, rfl⟩
                  obtain ⟨dn, Hdn⟩ : ∃ dn, Hid (d * n = dn) := ⟨_, rfl⟩
                  have ea : (a : Int) * (n : Int) = (an : Int) := by rw [← Han.out]; simp
                  have ed : (d : Int) * (n : Int) = (dn : Int) := by rw [← Hdn.out]; simp
                  have ep : (an : Int) + (d : Int) = (p : Int) := by rw [← Hp.out, Han.out]; simp
                  have er : (dn : Int) + (a : Int) = (r : Int) := by rw [← Hr.out, Hdn.out]; simp
                  have hz1 := HCE.out p (by rw [Hm.out]; exact hpm)
                  have hz2 := HCE.out r (by rw [Hm.out]; exact hrm)
                  obtain ⟨x, Hx⟩ : ∃ x, Hid (l.getD p 0 = x) := ⟨_, rfl⟩
                  obtain ⟨y, Hy⟩ : ∃ y, Hid (l.getD r 0 = y) := ⟨_, rfl⟩
                  rw [Hx.out] at hc1 hz1
                  rw [Hy.out] at hc2 hz2
                  obtain ⟨t, Ht⟩ : ∃ t, Hid (x + y = t) := ⟨_, rfl⟩
                  have et : IntKind.i64.wrap (x + y) = t := by rw [IntKind.wrap_i64]; have := Ht.out; omega
                  have HBT : Hid (badT n l a d = ((a == d && t != 0) || (a != d && t != 1))) := by
                    show _ = _
                    unfold badT
                    rw [Hp.out, Hr.out, Hx.out, Hy.out, Ht.out]
                  clear hz1 hz2
                  by_cases had : a = d
                  · have hae : ((a : Int) == (d : Int)) = true := by simp [had]
                    have hane : ((a : Int) != (d : Int)) = false := by simp [had]
                    by_cases ht : t = 0
                    · have htb : (t != 0) = false := by simp [ht]
                      have HD2 : Hid (∀ j, j < d + 1 → badT n l a j = false) := fun j hj => by
                        by_cases e : j = d
                        · rw [e, HBT.out]; simp [had, ht]
                        · exact HD.out j (by omega)
                      clear HBT HA HD had ht
                      go_wp2
                      go_quiet (fail)
                      go_wp2
                      go_roundw
                      case rel => exact ⟨d + 1, by go_num, by omega, HD2, bdrewN hB _⟩
                      case measure => simp [intOf]; omega
                    · have htb : (t != 0) = true := by simp [ht]
                      have HZ4 : Hid (z = 4) := HZ.out.two HCE.out a d hlt hld (by rw [HBT.out]; simp [had, ht])
                      clear HBT HA HD had ht
                      go_wp2
                      go_quiet (fail)
                      go_wp2
                      go_ret
                      exact ⟨by rw [HZ4.out]; rfl, HB0.out _ (bdrewN hB _)⟩
                  · have hae : ((a : Int) == (d : Int)) = false := by simp; omega
                    have hane : ((a : Int) != (d : Int)) = true := by simp; omega
                    by_cases ht : t = 1
                    · have htb : (t != 1) = false := by simp [ht]
                      have HD2 : Hid (∀ j, j < d + 1 → badT n l a j = false) := fun j hj => by
                        by_cases e : j = d
                        · rw [e, HBT.out]; simp [had, ht]
                        · exact HD.out j (by omega)
                      clear HBT HA HD had ht
                      go_wp2
                      go_quiet (fail)
                      go_wp2
                      go_roundw
                      case rel => exact ⟨d + 1, by go_num, by omega, HD2, bdrewN hB _⟩
                      case measure => simp [intOf]; omega
                    · have htb : (t != 1) = true := by simp [ht]
                      have HZ4 : Hid (z = 4) := HZ.out.two HCE.out a d hlt hld (by rw [HBT.out]; simp [had, ht])
                      clear HBT HA HD had ht
                      go_wp2
                      go_quiet (fail)
                      go_wp2
                      go_ret
                      exact ⟨by rw [HZ4.out]; rfl, HB0.out _ (bdrewN hB _)⟩
                · have hdd : decide ((d : Int) ≤ (a : Int)) = false := by simp; omega
                  have hddn : decide (d ≤ a) = false := by simp; omega
                  have HA2 : Hid (∀ i j, i < a + 1 → j ≤ i → badT n l i j = false) := fun i j hi hj => by
                    by_cases e : i = a
                    · rw [e]; exact HD.out j (by omega)
                    · exact HA.out i j (by omega) hj
                  clear HD HA
                  go_wp2
                  go_roundw
                  case rel => exact ⟨a + 1, by go_num, by omega, HA2, hB⟩
                  case measure => simp [intOf]; omega
            · have hda : decide ((a : Int) < (n : Int)) = false := by simp; omega
              have hdan : decide (a < n) = false := by simp; omega
              have HZ0 : Hid (z = 0) := HZ.out.ok HCE.out fun i j hi hj => HA.out i j (by omega) hj
              clear HA
              go_wp2
              go_ret
              exact ⟨by rw [HZ0.out]; rfl, HB0.out _ hB⟩
    · have HZ : Hid (z = 2) := by
        show _ = _
        rw [← Hz.out]
        unfold tF
        rw [if_neg h1, if_pos (by rw [Hm.out, hqn]; omega)]
      obtain ⟨x0, x1⟩ := HX _ (Below.refl _ _)
      obtain ⟨a, cap, rfl, -⟩ := hv
      rw [Hz.out, HZ.out]
      rw [Hm.out] at *
      have hne : ((m : Int) != (q : Int)) = true := by simp; omega
      clear HX h1
      go_enter Try.func9, Try.ntmps9
      go_wp2
      go_ret
      exact ⟨rfl, b1⟩
end Go.Proofs.Ytgkfddcmngodgaa
