/- The walk of the document's TripleFault. -/
import Derived.Test.YtdeofjmgjhfkcaaC1
namespace Go.Proofs.Ytdeofjmgjhfkcaa
open Go.RowKit

def cnT (B : List (List Nat)) (x y i : Nat) : Nat := (B.take i).countP fun b => b.contains x && b.contains y
theorem cnT_all (B : List (List Nat)) (x y : Nat) : cnT B x y B.length = nb B [x, y] := by
  unfold cnT nb
  rw [List.take_length]
  exact List.countP_congr fun b _ => by simp
theorem cnT_succ {B : List (List Nat)} {x y i : Nat} {b : List Nat} (h : B[i]? = some b) : cnT B x y (i + 1) = cnT B x y i + if (b.contains x && b.contains y) = true then 1 else 0 := by
  unfold cnT
  rw [List.take_add_one, h, List.countP_append]
  simp [List.countP_cons]
theorem cnT_le (B : List (List Nat)) (x y i : Nat) : cnT B x y i ≤ i := by
  unfold cnT
  have := List.countP_le_length (p := fun b : List Nat => b.contains x && b.contains y) (l := B.take i)
  rw [List.length_take] at this
  omega
theorem sys_of {v : Nat} {B : List (List Nat)} (G : GoodD v B) (h3 : ∀ b ∈ B, b.length = 3) (h : ∀ x, x < v → ∀ y, y < x → nb B [x, y] = 1) : Sys v B := by
  refine ⟨G.bls, h3, fun p q hp hq hn => ?_⟩
  rcases Nat.lt_or_gt_of_ne hn with e | e
  · rw [nb_swap]; exact h q hq p e
  · exact h p hp q e
set_option maxRecDepth 100000 in
set_option maxHeartbeats 8000000 in
theorem Fault_main (v : Nat) (B : List (List Nat)) (u : Value) (w : World) (G : GoodD v B) (hz : dF (v : Int) (toZ B) = 0) (hu : Rw w u (toZ B)) :
    Calls Try.prog 12 #[.agg #[.int .i64 (v : Int), u]] w fun e w' => ∃ f, e = .returned (.int .i64 f) ∧ TfT (v : Int) (toZ B) f ∧ Below w.heap.size w w' := by
  have HC : Hid (∀ W, Below (w.alloc (.cells #[.int .i64 (v : Int), u] 24)).heap.size (w.alloc (.cells #[.int .i64 (v : Int), u] 24)) W → W.cell? ⟨w.heap.size, 0, none⟩ = some (.int .i64 (v : Int)) ∧ W.cell? ⟨w.heap.size, 1, none⟩ = some u) := des_box v u w
  have b0 := balloc w (.cells #[.int .i64 (v : Int), u] 24)
  have HB0 : Hid (Below w.heap.size w (w.alloc (.cells #[.int .i64 (v : Int), u] 24))) := b0
  have hv40 := G.le
  have h200 := G.few
  have hlz : (toZ B).length ≤ maxLen := by simp [toZ]; unfold maxLen; omega
  have hlz2 : ∀ l ∈ toZ B, l.length ≤ maxLen := fun l hl => by
    obtain ⟨b, hb, rfl⟩ := List.mem_map.1 hl
    have := G.len hb
    rw [List.length_map]; unfold maxLen; omega
  have C1 : Hid (Calls Try.prog 30 #[.agg #[.int .i64 (v : Int), u]] (w.alloc (.cells #[.int .i64 (v : Int), u] 24)) fun e w' => e = .returned (.int .i64 ((0 : Nat) : Int)) ∧ Below (w.alloc (.cells #[.int .i64 (v : Int), u] 24)).heap.size (w.alloc (.cells #[.int .i64 (v : Int), u] 24)) w') := by
    have := DesignFault_any v (toZ B) u _ (hu.below b0) hlz hlz2
    rw [hz] at this
    exact this
  obtain ⟨x0, x1⟩ := HC.out _ (Below.refl _ _)
  obtain ⟨a, c, rfl, hD⟩ := drow_of hu
  have HD : Hid (DRow w a B) := hD
  have HAT : Hid (∀ i, i < B.length → ∃ b, B[i]? = some b ∧ b ∈ B ∧ b.length ≤ 40) := fun i hi => ⟨_, List.getElem?_eq_getElem hi, List.getElem_mem hi, G.len (List.getElem_mem hi)⟩
  have HNO : Hid ((∃ b, b ∈ B ∧ b.length ≠ 3) → TfT (v : Int) (toZ B) 4) := fun ⟨b, hb, h⟩ => .inr ⟨v, B, rfl, rfl, G, .inr ⟨fun s => h (s.sz b hb), rfl⟩⟩
  have HN2 : Hid (∀ x y, x < v → y < x → nb B [x, y] ≠ 1 → TfT (v : Int) (toZ B) 4) := fun x y h1 h2 h => .inr ⟨v, B, rfl, rfl, G, .inr ⟨fun s => h (s.l2 x y h1 (by omega) (by omega)), rfl⟩⟩
  have HYES : Hid ((∀ i b, i < B.length → B[i]? = some b → b.length = 3) → (∀ x, x < v → ∀ y, y < x → nb B [x, y] = 1) → TfT (v : Int) (toZ B) 0) := fun h1 h2 => .inr ⟨v, B, rfl, rfl, G, .inl ⟨sys_of G (fun b hb => by
    obtain ⟨i, hi, rfl⟩ := List.mem_iff_getElem.1 hb
    exact h1 i _ hi (List.getElem?_eq_getElem hi)) h2, rfl⟩⟩
  have HCA : Hid (∀ x y, cnT B x y B.length = nb B [x, y]) := cnT_all B
  have HCS : Hid (∀ (x y i : Nat) (b : List Nat), B[i]? = some b → cnT B x y (i + 1) = cnT B x y i + if (b.contains x && b.contains y) = true then 1 else 0) := fun x y i b h => cnT_succ h
  have HCL : Hid (∀ x y i, cnT B x y i ≤ i) := cnT_le B
  obtain ⟨T, HT⟩ : ∃ T, Hid (T = TfT (v : Int) (toZ B)) := ⟨_, rfl⟩
  rw [← HT.out] at HNO HN2 HYES ⊢
  generalize hBn : B.length = n at *
  clear hu hD b0 hz hlz hlz2 G
  go_enter Try.func12, Try.ntmps12
  go_wp2_with (go_at_call 30; refine C1.out.mono ?_; rintro e w1 ⟨rfl, hb⟩; clear C1; obtain ⟨y0, y1⟩ := HC.out _ hb; have HB1 : Hid (Below w.heap.size w w1) := Below.next HB0.out hb; clear hb x0 x1 HC HB0)
  go_loopw [4] (fun iv wr => ∃ (i : Nat), iv = .int .i64 (i : Int) ∧ i ≤ n ∧ Hid (∀ j b, j < i → B[j]? = some b → b.length = 3) ∧ wr = w1) (fun iv _ => (n - intOf iv).toNat)
  case atStart => exact ⟨0, rfl, by omega, fun j b hj => by omega, rfl⟩
  case round =>
    obtain ⟨i, rfl, hi, HI, hw⟩ := hrel
    replace hw := hw.symm
    subst hw
    by_cases hlt : i < n
    · have hdi : decide ((i : Int) < (n : Int)) = true := by simp; omega
      have hii : (i : Int) < (n : Int) := by omega
      obtain ⟨b, hbi, hbm, hb40⟩ := HAT.out i hlt
      obtain ⟨bb, off, ua, uc, rfl, hrow⟩ := HD.out i b hbi
      obtain ⟨r0, _⟩ := hrow _ HB1.out
      by_cases h3 : b.length = 3
      · rw [h3] at r0
        have HI2 : Hid (∀ j b, j < i + 1 → B[j]? = some b → b.length = 3) := fun j b' hj hb' => by
          by_cases e : j = i
          · subst e; rw [hbi] at hb'; cases hb'; exact h3
          · exact HI.out j b' (by omega) hb'
        clear hbi hbm hb40 hrow h3 HI
        go_wp2
        go_roundw
        case rel => exact ⟨i + 1, by go_num, by omega, HI2, trivial⟩
        case measure => simp [intOf]; omega
      · have hT := HNO.out ⟨b, hbm, h3⟩
        have h31 : ((b.length : Int) != 3) = true := by simp; omega
        have h32 : ¬ (b.length : Int) = 3 := by omega
        have h33 : ¬ b.length = 3 := h3
        generalize b.length = bn at *
        clear hbi hbm hrow HI
        go_wp2
        go_ret
        exact ⟨4, rfl, hT, HB1.out⟩
    · have hdi : decide ((i : Int) < (n : Int)) = false := by simp; omega
      have hin : n = i := by omega
      subst hin
      go_wp2
      go_loopw [5] (fun xv wr' => ∃ (x : Nat), xv = .int .i64 (x : Int) ∧ x ≤ v ∧ Hid (∀ x', x' < x → ∀ y, y < x' → nb B [x', y] = 1) ∧ wr' = w1) (fun xv _ => (v - intOf xv).toNat)
      case atStart => exact ⟨0, rfl, by omega, fun x' hx => by omega, rfl⟩
      case round =>
        obtain ⟨x, rfl, hx, HX, hw⟩ := hrel
        replace hw := hw.symm
        subst hw
        by_cases hlx : x < v
        · have hdx : decide ((x : Int) < (v : Int)) = true := by simp; omega
          have hxi : (x : Int) < (v : Int) := by omega
          go_wp2
          go_loopw [6] (fun yv wr' => ∃ (y : Nat), yv = .int .i64 (y : Int) ∧ y ≤ x ∧ Hid (∀ y', y' < y → nb B [x, y'] = 1) ∧ wr' = w1) (fun yv _ => (x - intOf yv).toNat)
          case atStart => exact ⟨0, rfl, by omega, fun y' hy => by omega, rfl⟩
          case round =>
            obtain ⟨y, rfl, hy, HY, hw⟩ := hrel
            replace hw := hw.symm
            subst hw
            by_cases hly : y < x
            · have hdy : decide ((y : Int) < (x : Int)) = true := by simp; omega
              have hyi : (y : Int) < (x : Int) := by omega
              have HC0 : Hid (cnT B x y 0 = 0) := rfl
              go_wp2
              go_loopw [7, 8] (fun cv jv wr' => ∃ (j c : Nat), jv = .int .i64 (j : Int) ∧ cv = .int .i64 (c : Int) ∧ j ≤ n ∧ Hid (cnT B x y j = c) ∧ wr' = w1) (fun _ jv _ => (n - intOf jv).toNat)
              case atStart => exact ⟨0, 0, rfl, rfl, by omega, HC0, rfl⟩
              case round =>
                obtain ⟨j, c, rfl, rfl, hj, HJ, hw⟩ := hrel
                replace hw := hw.symm
                subst hw
                have hcj : c ≤ j := by rw [← HJ.out]; exact HCL.out x y j
                by_cases hlj : j < n
                · have hdj : decide ((j : Int) < (n : Int)) = true := by simp; omega
                  have hji : (j : Int) < (n : Int) := by omega
                  obtain ⟨b, hbi, _, hb40⟩ := HAT.out j hlj
                  obtain ⟨bb, off, ua, uc, rfl, hrow⟩ := HD.out j b hbi
                  obtain ⟨r0, rs⟩ := hrow _ HB1.out
                  have hS := HCS.out x y j b hbi
                  rw [HJ.out] at hS
                  have CX := Lies_any b x _ _ w1 rs (by omega) rfl
                  have CY := Lies_any b y _ _ w1 rs (by omega) rfl
                  cases hcx : b.contains x
                  · rw [hcx] at hS CX
                    have HS : Hid (cnT B x y (j + 1) = c) := by show _ = _; simpa using hS
                    generalize b.contains y = qy at *
                    generalize b.length = bn at *
                    clear hcx hS hrow rs hbi HJ
                    go_wp2_with (first
                      | (go_at_call 31; refine CX.mono ?_; rintro e w4 ⟨rfl, hw⟩; replace hw := hw.symm; subst hw; clear CX)
                      | (go_at_call 31; refine CY.mono ?_; rintro e w4 ⟨rfl, hw⟩; replace hw := hw.symm; subst hw; clear CY))
                    go_roundw
                    case rel => exact ⟨j + 1, c, by go_num, rfl, by omega, HS, trivial⟩
                    case measure => simp [intOf]; omega
                  · rw [hcx] at hS CX
                    cases hcy : b.contains y
                    · rw [hcy] at hS CY
                      have HS : Hid (cnT B x y (j + 1) = c) := by show _ = _; simpa using hS
                      generalize b.length = bn at *
                      clear hcx hcy hS hrow rs hbi HJ
                      go_wp2_with (first
                        | (go_at_call 31; refine CX.mono ?_; rintro e w4 ⟨rfl, hw⟩; replace hw := hw.symm; subst hw; clear CX)
                        | (go_at_call 31; refine CY.mono ?_; rintro e w4 ⟨rfl, hw⟩; replace hw := hw.symm; subst hw; clear CY))
                      go_roundw
                      case rel => exact ⟨j + 1, c, by go_num, rfl, by omega, HS, trivial⟩
                      case measure => simp [intOf]; omega
                    · rw [hcy] at hS CY
                      have HS : Hid (cnT B x y (j + 1) = c + 1) := by show _ = _; simpa using hS
                      generalize b.length = bn at *
                      clear hcx hcy hS hrow rs hbi HJ
                      go_wp2_with (first
                        | (go_at_call 31; refine CX.mono ?_; rintro e w4 ⟨rfl, hw⟩; replace hw := hw.symm; subst hw; clear CX)
                        | (go_at_call 31; refine CY.mono ?_; rintro e w4 ⟨rfl, hw⟩; replace hw := hw.symm; subst hw; clear CY))
                      go_roundw
                      case rel => exact ⟨j + 1, c + 1, by go_num, by go_num, by omega, HS, trivial⟩
                      case measure => simp [intOf]; omega
                · have hdj : decide ((j : Int) < (n : Int)) = false := by simp; omega
                  have hjn : n = j := by omega
                  have hnb : nb B [x, y] = c := by rw [← HCA.out x y, hjn]; exact HJ.out
                  by_cases h1 : c = 1
                  · have HY2 : Hid (∀ y', y' < y + 1 → nb B [x, y'] = 1) := fun y' hy' => by
                      by_cases e : y' = y
                      · rw [e, hnb, h1]
                      · exact HY.out y' (by omega)
                    have hc1 : ((c : Int) != 1) = false := by simp; omega
                    clear hnb hjn HY HJ h1
                    go_wp2
                    go_roundw
                    case rel => exact ⟨y + 1, by go_num, by omega, HY2, trivial⟩
                    case measure => simp [intOf]; omega
                  · have hT := HN2.out x y hlx hly (by rw [hnb]; exact h1)
                    have hc1 : ((c : Int) != 1) = true := by simp; omega
                    have hc2 : ¬ (c : Int) = 1 := by omega
                    clear hnb hjn HY HJ
                    go_wp2
                    go_ret
                    exact ⟨4, rfl, hT, HB1.out⟩
            · have hdy : decide ((y : Int) < (x : Int)) = false := by simp; omega
              have HX2 : Hid (∀ x', x' < x + 1 → ∀ y, y < x' → nb B [x', y] = 1) := fun x' hx' y' hy' => by
                by_cases e : x' = x
                · subst e; exact HY.out y' (by omega)
                · exact HX.out x' (by omega) y' hy'
              go_wp2
              go_roundw
              case rel => exact ⟨x + 1, by go_num, by omega, HX2, trivial⟩
              case measure => simp [intOf]; omega
        · have hdx : decide ((x : Int) < (v : Int)) = false := by simp; omega
          have hT := HYES.out (fun i b hi hb => HI.out i b hi hb) fun x' hx' => HX.out x' (by omega)
          go_wp2
          go_ret
          exact ⟨0, rfl, hT, HB1.out⟩
set_option maxRecDepth 100000 in
set_option maxHeartbeats 4000000 in
theorem Fault_any (p : Int) (ls : List (List Int)) (v : Value) (w : World) (hv : Rw w v ls) (hl : ls.length ≤ maxLen) (hll : ∀ l ∈ ls, l.length ≤ maxLen) :
    Calls Try.prog 12 #[.agg #[.int .i64 p, v]] w fun e w' => ∃ f, e = .returned (.int .i64 f) ∧ TfT p ls f ∧ Below w.heap.size w w' := by
  by_cases hz : dF p ls = 0
  · obtain ⟨n, B, rfl, rfl, G⟩ := dF_ok hz
    exact Fault_main n B v w G hz hv
  · have HC : Hid (∀ W, Below (w.alloc (.cells #[.int .i64 p, v] 24)).heap.size (w.alloc (.cells #[.int .i64 p, v] 24)) W → W.cell? ⟨w.heap.size, 0, none⟩ = some (.int .i64 p) ∧ W.cell? ⟨w.heap.size, 1, none⟩ = some v) := des_box p v w
    have b0 := balloc w (.cells #[.int .i64 p, v] 24)
    have HB0 : Hid (Below w.heap.size w (w.alloc (.cells #[.int .i64 p, v] 24))) := b0
    have C1 : Hid (Calls Try.prog 30 #[.agg #[.int .i64 p, v]] (w.alloc (.cells #[.int .i64 p, v] 24)) fun e w' => e = .returned (.int .i64 (dF p ls : Int)) ∧ Below (w.alloc (.cells #[.int .i64 p, v] 24)).heap.size (w.alloc (.cells #[.int .i64 p, v] 24)) w') := DesignFault_any p ls v _ (hv.below b0) hl hll
    obtain ⟨x0, x1⟩ := HC.out _ (Below.refl _ _)
    have HT : Hid (TfT p ls (dF p ls : Int)) := .inl ⟨hz, rfl⟩
    obtain ⟨a, c, e, _⟩ := hv
    subst e
    obtain ⟨z, Hz⟩ : ∃ z, Hid (dF p ls = z) := ⟨_, rfl⟩
    rw [Hz.out] at C1 HT hz
    have h1 : ((z : Int) != 0) = true := by simp; omega
    have h2 : ¬ (z : Int) = 0 := by omega
    generalize ls.length = bl at *
    clear b0 hl hll
    go_enter Try.func12, Try.ntmps12
    go_wp2_with (go_at_call 30; refine C1.out.mono ?_; rintro e w1 ⟨rfl, hb⟩; clear C1; have HB1 : Hid (Below w.heap.size w w1) := Below.next HB0.out hb; clear hb)
    go_ret
    exact ⟨_, rfl, HT.out, HB1.out⟩

end Go.Proofs.Ytdeofjmgjhfkcaa
