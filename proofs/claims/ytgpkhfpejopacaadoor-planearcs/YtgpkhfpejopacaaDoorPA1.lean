/- The walk of the document's lined; what it tells. -/
import Derived.Test.YtgpkhfpejopacaaDoorDTo
import Derived.Test.YtgpkhfpejopacaaDoorPlT
namespace Go.Proofs.YtgpkhfpejopacaaDoor
open Go.RowKit

theorem mt_len (s b : List Nat) : mt s b ≤ s.length := List.countP_le_length
set_option maxRecDepth 100000 in
set_option maxHeartbeats 8000000 in
theorem lined_any (v : Nat) (B : List (List Nat)) (s : List Nat) (u sv : Value) (w : World) (G : GoodD v B) (hu : Rw w u (toZ B)) (hs : Sl w sv (s.map Int.ofNat)) (hs40 : s.length ≤ 99) :
    Calls Tryd.prog 46 #[.agg #[.int .i64 (v : Int), u], sv] w fun e w' => e = .returned (.bool (liB B s)) ∧ Below w.heap.size w w' := by
  obtain ⟨a, cap, rfl, hD⟩ := drow_of hu
  have h200 := G.few
  have HD : Hid (DRow w a B) := hD
  have HAT : Hid (∀ i, i < B.length → ∃ b, B[i]? = some b) := fun i hi => ⟨_, List.getElem?_eq_getElem hi⟩
  have HY : Hid (∀ (i : Nat) (b : List Nat), B[i]? = some b → 2 < mt s b → liB B s = true) := fun i b h h2 => liB_yes h h2
  have HN : Hid ((∀ (i : Nat) (b : List Nat), i < B.length → B[i]? = some b → ¬ 2 < mt s b) → liB B s = false) := fun h => liB_no fun i b hb => h i b (List.getElem?_eq_some_iff.1 hb).1 hb
  have HTo : Hid (∀ (W : World) (b : List Nat) (bv : Value), b.length ≤ 40 → Below w.heap.size w W → Sl W bv (b.map Int.ofNat) → Calls Tryd.prog 62 #[sv, bv] W fun e w' => e = .returned (.int .i64 ((mt s b : Nat) : Int)) ∧ w' = W) := fun W b bv hb hW hbv => Together_any s b sv bv W (hs.below hW) hbv hs40 (by omega)
  have HML : Hid (∀ b, mt s b ≤ 99) := fun b => Nat.le_trans (mt_len s b) hs40
  have HBL : Hid (∀ b ∈ B, b.length ≤ 40) := fun b hb => G.len hb
  have HC : Hid (∀ W, Below (w.alloc (.cells #[.int .i64 (v : Int), .slice a B.length cap] 29)).heap.size (w.alloc (.cells #[.int .i64 (v : Int), .slice a B.length cap] 29)) W → W.cell? ⟨w.heap.size, 0, none⟩ = some (.int .i64 (v : Int)) ∧ W.cell? ⟨w.heap.size, 1, none⟩ = some (.slice a B.length cap)) := des_box (v : Int) (.slice a B.length cap) w
  obtain ⟨w0, Hw0⟩ : ∃ w0, Hid (w0 = w.alloc (.cells #[.int .i64 (v : Int), .slice a B.length cap] 29)) := ⟨_, rfl⟩
  rw [← Hw0.out] at HC
  have HB0 : Hid (Below w.heap.size w w0) := by rw [Hw0.out]; exact balloc _ _
  obtain ⟨z, Hz⟩ : ∃ z, Hid (liB B s = z) := ⟨_, rfl⟩
  rw [Hz.out] at HY HN ⊢
  obtain ⟨x0, x1⟩ := HC.out _ (Below.refl _ _)
  rw [Hw0.out] at x0 x1
  generalize hBn : B.length = n at *
  clear hD hu hs
  go_enter Tryd.func46, Tryd.ntmps46
  go_wp2
  go_loopw [5] (fun iv wr => ∃ i : Nat, iv = .int .i64 (i : Int) ∧ i ≤ n ∧ Hid (∀ (j : Nat) (b : List Nat), j < i → B[j]? = some b → ¬ 2 < mt s b) ∧ Below w0.heap.size w0 wr) (fun iv _ => (n - intOf iv).toNat)
  case atStart => exact ⟨0, rfl, by omega, (show ∀ (j : Nat) (b : List Nat), j < 0 → _ from fun j b h => by omega), by rw [Hw0.out]; exact Below.refl _ _⟩
  case round =>
    clear x0 x1
    obtain ⟨i, rfl, hi, HI, hB⟩ := hrel
    obtain ⟨x0, x1⟩ := HC.out _ hB
    have hBw := Below.next HB0.out hB
    by_cases hlt : i < n
    · have hdi : decide ((i : Int) < (n : Int)) = true := by simp; omega
      have hii : (i : Int) < (n : Int) := by omega
      obtain ⟨b, hb⟩ := HAT.out i hlt
      obtain ⟨bb, off, ua, uc, rfl, hrow⟩ := HD.out i b hb
      obtain ⟨hr0, hr1⟩ := hrow _ hBw
      have hml := HML.out b
      have hbl := HBL.out b (List.mem_of_getElem? hb)
      have C := HTo.out wr b _ hbl hBw hr1
      have hy := HY.out i b hb
      have HI2 : Hid (¬ 2 < mt s b → ∀ (j : Nat) (c : List Nat), j < i + 1 → B[j]? = some c → ¬ 2 < mt s c) := fun h j c hj hc => by
        by_cases e : j = i
        · subst e
          rw [hb] at hc
          cases hc
          exact h
        · exact HI.out j c (by omega) hc
      obtain ⟨t, Ht⟩ : ∃ t, Hid (mt s b = t) := ⟨_, rfl⟩
      rw [Ht.out] at C hml hy HI2
      generalize b.length = bl at *
      clear hb hr1 hrow HI
      by_cases h2 : 2 < t
      · obtain rfl := hy h2
        have hd2 : decide (2 < (t : Int)) = true := by simp; omega
        have hd2' : decide (2 < t) = true := by simpa using h2
        clear hy HI2
        go_wp2_with (go_at_call 62; refine C.mono ?_; rintro e w1 ⟨rfl, hw⟩; replace hw := hw.symm; subst hw; clear C)
        go_ret
        exact ⟨rfl, hBw⟩
      · have hd2 : decide (2 < (t : Int)) = false := by simp; omega
        have hd2' : decide (2 < t) = false := by simpa using h2
        have HI3 : Hid (∀ (j : Nat) (c : List Nat), j < i + 1 → B[j]? = some c → ¬ 2 < mt s c) := HI2.out h2
        clear hy HI2
        go_wp2_with (go_at_call 62; refine C.mono ?_; rintro e w1 ⟨rfl, hw⟩; replace hw := hw.symm; subst hw; clear C)
        go_roundw
        case rel => exact ⟨i + 1, by go_num, by omega, HI3, hB⟩
        case measure => simp [intOf]; omega
    · have hdi : decide ((i : Int) < (n : Int)) = false := by simp; omega
      obtain rfl := HN.out fun j b hj hb => HI.out j b (by omega) hb
      go_wp2
      go_ret
      exact ⟨rfl, hBw⟩

end Go.Proofs.YtgpkhfpejopacaaDoor
