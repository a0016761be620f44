/- The walk of the document's cut. -/
import Derived.Test.YtnnopfdckillpaaDoorDCm
namespace Go.Proofs.YtnnopfdckillpaaDoor
open Go.RowKit

/-- What a call of cut does. -/
def CutP (v n g1 g2 B0 c1 c2 cap : Nat) (a : Option Addr) (B : List (List Nat)) (w00 : World) (D : Nat → Bool) : Prop :=
  ∀ (w : World) (ch : Nat → Bool), Below B0 w00 w → B0 ≤ w.heap.size → Bo w g1 v D → Bo w g2 n ch → Calls Tryd.prog 48 #[.agg #[.int .i64 (v : Int), .slice a n cap], .slice (some ⟨g1, 0, none⟩) v c1, .slice (some ⟨g2, 0, none⟩) n c2] w fun e w' => e = .returned (.bool (ccB v B D)) ∧ Bo w' g1 v D ∧ (∃ ch', Bo w' g2 n ch') ∧ K2 B0 g1 g2 w w'
theorem take_all_succ {b : List Nat} {p : Nat → Bool} {j y : Nat} (h : b[j]? = some y) : (b.take (j + 1)).all p = ((b.take j).all p && p y) := by
  rw [List.take_add_one, h, List.all_append]
  simp
set_option maxRecDepth 100000 in
set_option maxHeartbeats 64000000 in
theorem cut_step (v n g1 g2 B0 c1 c2 cap : Nat) (a : Option Addr) (B : List (List Nat)) (w00 : World) (D : Nat → Bool) (hv : v ≤ 40) (hn : n ≤ 200) (hBn : B.length = n) (hrs : ∀ b ∈ B, Rs v 0 b) (hg1 : B0 ≤ g1) (hg2 : B0 ≤ g2) (hg : g1 ≠ g2) (hD : DRowB B0 w00 a B)
    (IH : ∀ b ∈ B, ∀ x, x < v → D x = false → b.contains x = true → CutP v n g1 g2 B0 c1 c2 cap a B w00 (addD D b)) : CutP v n g1 g2 B0 c1 c2 cap a B w00 D := by
  intro w ch hB00 hB0w hb1 hb2
  have HD : Hid (DRowB B0 w00 a B) := hD
  have HRS : Hid (∀ b ∈ B, Rs v 0 b) := hrs
  have HIH : Hid (∀ b ∈ B, ∀ x, x < v → D x = false → b.contains x = true → CutP v n g1 g2 B0 c1 c2 cap a B w00 (addD D b)) := IH
  have HAT : Hid (∀ i, i < n → ∃ b, B[i]? = some b) := fun i hi => ⟨_, List.getElem?_eq_getElem (by omega)⟩
  have HPT : Hid (∀ x, x < v → D x = false → (ccB v B D = true ↔ ∃ i, i < n ∧ x ∈ B.getD i [] ∧ fitD D (B.getD i []) = true ∧ ccB v B (addD D (B.getD i [])) = true)) := fun x hx hd => by rw [cc_point hx hd, hBn]
  have HFU : Hid ((∀ y, y < v → D y = true) → ccB v B D = true) := fun h => cc_full (fullD_iff.2 h) B
  obtain ⟨z, Hz⟩ : ∃ z, Hid (ccB v B D = z) := ⟨_, rfl⟩
  rw [Hz.out] at HPT HFU ⊢
  have hlt1 := hb1.lt
  have hlt2 := hb2.lt
  have HBX : Hid (∀ W, K2 B0 g1 g2 (w.alloc (.cells #[.int .i64 (v : Int), .slice a n cap] 24)) W → W.cell? ⟨w.heap.size, 0, none⟩ = some (.int .i64 (v : Int)) ∧ W.cell? ⟨w.heap.size, 1, none⟩ = some (.slice a n cap)) := fun W k => by
    have e := (k.2 w.heap.size (by simp) (by omega) (by omega)).trans (heap_alloc_new w _)
    exact ⟨by rw [cell_of_row _ _ _ _ _ _ e]; rfl, by rw [cell_of_row _ _ _ _ _ _ e]; rfl⟩
  have HKW : Hid (∀ W, K2 B0 g1 g2 (w.alloc (.cells #[.int .i64 (v : Int), .slice a n cap] 24)) W → K2 B0 g1 g2 w W) := fun W k => (K2.of (balloc w _) hB0w).trans k
  have hb1' := hb1.below (balloc w (.cells #[.int .i64 (v : Int), .slice a n cap] 24))
  have hb2' := hb2.below (balloc w (.cells #[.int .i64 (v : Int), .slice a n cap] 24))
  obtain ⟨w0, Hw0⟩ : ∃ w0, Hid (w0 = w.alloc (.cells #[.int .i64 (v : Int), .slice a n cap] 24)) := ⟨_, rfl⟩
  obtain ⟨x0, x1⟩ := HBX.out _ (K2.refl _ _ _ _)
  have HK0 : Hid (B0 ≤ w.heap.size ∧ Below B0 w00 w) := ⟨hB0w, hB00⟩
  rw [← Hw0.out] at HBX HKW
  clear hb1 hb2 hD hrs IH hB00 hB0w
  go_enter Tryd.func48, Tryd.ntmps48
  go_wp2
  go_loopw [7] (fun xv wr => ∃ x : Nat, xv = .int .i64 (x : Int) ∧ x ≤ v ∧ Hid (∀ y, y < x → D y = true) ∧ wr = w.alloc (.cells #[.int .i64 (v : Int), .slice a n cap] 24)) (fun xv _ => (v - intOf xv).toNat)
  case atStart => exact ⟨0, rfl, by omega, (show ∀ y, y < 0 → _ from fun y h => by omega), rfl⟩
  case round =>
    obtain ⟨x, rfl, hx, HX, hw⟩ := hrel
    subst hw
    by_cases hlt : x < v
    · have hdx : decide ((x : Int) < (v : Int)) = true := by simp; omega
      have hxi : (x : Int) < (v : Int) := by omega
      have hcx := hb1'.cell x hlt
      cases hdd : D x with
      | true =>
        rw [hdd] at hcx
        have HX2 : Hid (∀ y, y < x + 1 → D y = true) := fun y hy => by
          by_cases e : y = x
          · subst e; exact hdd
          · exact HX.out y (by omega)
        clear hdd HX
        go_wp2
        go_roundw
        case rel => exact ⟨x + 1, by go_num, by omega, HX2, trivial⟩
        case measure => simp [intOf]; omega
      | false =>
        rw [hdd] at hcx
        have HDX : Hid (D x = false) := hdd
        have hne : ((x : Int) == (v : Int)) = false := beq_eq_false_iff_ne.2 (by omega)
        have HPX := HPT.out x hlt hdd
        have HPY : Hid (z = true ↔ ∃ i, i < n ∧ x ∈ B.getD i [] ∧ fitD D (B.getD i []) = true ∧ ccB v B (addD D (B.getD i [])) = true) := HPX
        clear hdd HX HPX HPT HFU
        go_wp2
        go_loopw [8] (fun iv wr => ∃ (i : Nat) (ch : Nat → Bool), iv = .int .i64 (i : Int) ∧ i ≤ n ∧ Hid (∀ j, j < i → ¬ (x ∈ B.getD j [] ∧ fitD D (B.getD j []) = true ∧ ccB v B (addD D (B.getD j [])) = true)) ∧ Bo wr g1 v D ∧ Bo wr g2 n ch ∧ K2 B0 g1 g2 w0 wr) (fun iv _ => (n - intOf iv).toNat)
        case atStart => exact ⟨0, ch, rfl, by omega, (show ∀ j, j < 0 → _ from fun j h => by omega), hb1', hb2', by rw [Hw0.out]; exact K2.refl _ _ _ _⟩
        case round =>
          clear x0 x1 hb1' hb2' hcx
          obtain ⟨i, ch, rfl, hi, HI, hb1, hb2, hK⟩ := hrel
          obtain ⟨x0, x1⟩ := HBX.out _ hK
          by_cases hli : i < n
          · have hdi : decide ((i : Int) < (n : Int)) = true := by simp; omega
            have hii : (i : Int) < (n : Int) := by omega
            obtain ⟨b, hbi⟩ := HAT.out i hli
            have HBI : Hid (B.getD i [] = b) := by show _ = _; rw [List.getD_eq_getElem?_getD, hbi]; rfl
            obtain ⟨bb, off, ua, uc, rfl, hrow⟩ := HD.out i b hbi
            have hmem := List.mem_of_getElem? hbi
            have hrs := HRS.out b hmem
            have HLTB : Hid (∀ (m y : Nat), b[m]? = some y → y < v) := fun m y h => (Rs.mem hrs y (List.mem_of_getElem? h)).2
            have hb40 : b.length ≤ 40 := Nat.le_trans (rise_pts (rs_iff.1 hrs).1 fun y hy => ((rs_iff.1 hrs).2 y hy).2).le hv
            have HBW : Hid (∀ W, K2 B0 g1 g2 w0 W → Below B0 w00 W) := fun W k => HK0.out.2.trans (HKW.out W k).1
            obtain ⟨hr, hrsl⟩ := hrow _ (HBW.out _ hK)
            have HROW : Hid (∀ W, K2 B0 g1 g2 w0 W → Sl W (.slice ua b.length uc) (b.map Int.ofNat)) := fun W k => (hrow W (HBW.out W k)).2
            have HEL : Hid (∀ (m y : Nat), b[m]? = some y → ∃ eb eo, ua = some ⟨eb, eo, none⟩ ∧ ∀ W, K2 B0 g1 g2 w0 W → W.cell? ⟨eb, eo + m, none⟩ = some (.int .i64 (y : Int))) := fun m y hm => by
              have hml : m < b.length := (List.getElem?_eq_some_iff.1 hm).1
              have f : ∀ W, K2 B0 g1 g2 w0 W → ∃ eb eo, ua = some ⟨eb, eo, none⟩ ∧ W.cell? ⟨eb, eo + m, none⟩ = some (.int .i64 (y : Int)) := fun W k => by
                obtain ⟨a', c', e, h⟩ := HROW.out W k
                simp only [Value.slice.injEq] at e
                obtain ⟨eb, eo, e2, e3⟩ := h m (by rw [List.length_map]; exact hml)
                rw [ofNat_at b hml, show b.getD m 0 = y by rw [List.getD_eq_getElem?_getD, hm]; rfl] at e3
                exact ⟨eb, eo, e.1.trans e2, e3⟩
              obtain ⟨eb, eo, e, _⟩ := f _ hK
              refine ⟨eb, eo, e, fun W k => ?_⟩
              obtain ⟨eb', eo', e', h⟩ := f W k
              rw [e] at e'
              simp only [Option.some.injEq, Addr.mk.injEq] at e'
              obtain ⟨rfl, rfl, _⟩ := e'
              exact h
            have HGE : Hid (∀ (m : Nat), m < b.length → ∃ y, b[m]? = some y) := fun m hm => ⟨_, List.getElem?_eq_getElem hm⟩
            have CL := Lies_any b x _ _ wr hrsl (by omega) rfl
            have HIN : Hid (b ∈ B) := hmem
            have HCT : Hid (b.contains x = true ↔ x ∈ b) := List.contains_iff_mem
            have HALL : Hid ((b.take b.length).all (fun y => !D y) = b.all fun y => !D y) := by show _ = _; rw [List.take_length]
            obtain ⟨qx, Hqx⟩ : ∃ q, Hid (b.contains x = q) := ⟨_, rfl⟩
            rw [Hqx.out] at CL
            generalize hbl : b.length = bl at *
            clear hbi hrow hmem hrs hrsl
            go_wp2_with (go_at_call 33; refine CL.mono ?_; rintro e w4 ⟨rfl, hw⟩; replace hw := hw.symm; subst hw; clear CL)
            have HNF : Hid (∀ j, j ≤ bl → (qx && (b.take j).all fun y => !D y) = false → ¬ (x ∈ b ∧ fitD D b = true ∧ ccB v B (addD D b) = true)) := fun j _ hf ⟨h1, h2, _⟩ => by
              rw [← Hqx.out, HCT.out.2 h1, Bool.true_and] at hf
              have : ((b.take j).all fun y => !D y) = true := List.all_eq_true.2 fun y hy => by rw [(fitD_iff.1 h2).2 y (List.mem_of_mem_take hy)]; rfl
              rw [this] at hf; cases hf
            have HFI : Hid ((qx && (b.take bl).all fun y => !D y) = true → fitD D b = true ∧ b.contains x = true) := fun h => by
              rw [Bool.and_eq_true, HALL.out, ← Hqx.out] at h
              refine ⟨fitD_iff.2 ⟨fun e => ?_, fun y hy => ?_⟩, h.1⟩
              · rw [e] at h; simp at h
              · have := List.all_eq_true.1 h.2 y hy
                simpa using this
            have HIN2 : Hid (∀ W ch', Bo W g1 v D → Bo W g2 n ch' → K2 B0 g1 g2 w0 W → ¬ (x ∈ b ∧ fitD D b = true ∧ ccB v B (addD D b) = true) → ∀ j, j < i + 1 → ¬ (x ∈ B.getD j [] ∧ fitD D (B.getD j []) = true ∧ ccB v B (addD D (B.getD j [])) = true)) := fun _ _ _ _ _ hno j hj => by
              by_cases e : j = i
              · subst e; rw [HBI.out]; exact hno
              · exact HI.out j (by omega)
            obtain ⟨w5, hw5⟩ : ∃ w5 : World, w5 = wr := ⟨_, rfl⟩
            subst hw5
            clear HI hr x0 x1
            go_loopw [10, 11] (fun okv jv wr' => ∃ (j : Nat) (o : Bool), okv = .bool o ∧ jv = .int .i64 (j : Int) ∧ j ≤ bl ∧ Hid ((qx && (b.take j).all fun y => !D y) = o) ∧ wr' = w5) (fun _ jv _ => (bl - intOf jv).toNat)
            case atStart => exact ⟨0, qx, rfl, rfl, by omega, (show (qx && (b.take 0).all fun y => !D y) = qx by simp), rfl⟩
            case round =>
              obtain ⟨j, o, rfl, rfl, hj, HO, hw⟩ := hrel
              subst hw
              by_cases hlj : j < bl
              · have hdj : decide ((j : Int) < (bl : Int)) = true := by simp; omega
                have hji : (j : Int) < (bl : Int) := by omega
                cases o with
                | false =>
                  have HI2 : Hid (∀ m, m < i + 1 → ¬ (x ∈ B.getD m [] ∧ fitD D (B.getD m []) = true ∧ ccB v B (addD D (B.getD m [])) = true)) := HIN2.out _ _ hb1 hb2 hK (HNF.out j hj HO.out)
                  go_wp2
                  go_roundw
                  case rel => exact ⟨i + 1, ch, by go_num, by omega, HI2, hb1, hb2, hK⟩
                  case measure => simp [intOf]; omega
                | true =>
                  obtain ⟨y, hy⟩ := HGE.out j hlj
                  have hyv := HLTB.out j y hy
                  obtain ⟨eb, eo, rfl, hel⟩ := HEL.out j y hy
                  have hey := hel _ hK
                  have hcy := hb1.cell y hyv
                  have hyi : (y : Int) < (v : Int) := by omega
                  have HO2 : Hid ((qx && (b.take (j + 1)).all fun y => !D y) = !D y) := by
                    show _ = _
                    rw [take_all_succ hy, ← Bool.and_assoc, HO.out, Bool.true_and]
                  generalize D y = dy at *
                  clear HO hel hy
                  go_wp2
                  go_roundw
                  case rel => exact ⟨j + 1, !dy, rfl, by go_num, by omega, HO2, trivial⟩
                  case measure => simp [intOf]; omega
              · have hdj : decide ((j : Int) < (bl : Int)) = false := by simp; omega
                obtain rfl : j = bl := by omega
                cases o with
                | false =>
                  have HI2 : Hid (∀ m, m < i + 1 → ¬ (x ∈ B.getD m [] ∧ fitD D (B.getD m []) = true ∧ ccB v B (addD D (B.getD m [])) = true)) := HIN2.out _ _ hb1 hb2 hK (HNF.out j hj HO.out)
                  go_wp2
                  go_roundw
                  case rel => exact ⟨i + 1, ch, by go_num, by omega, HI2, hb1, hb2, hK⟩
                  case measure => simp [intOf]; omega
                | true =>
                  have HFIT : Hid (fitD D b = true ∧ b.contains x = true) := HFI.out HO.out
                  have HCP : Hid (CutP v n g1 g2 B0 c1 c2 cap (some ⟨bb, off, none⟩) B w00 (addD D b)) := HIH.out b HIN.out x hlt HDX.out HFIT.out.2
                  have HMK : Hid (mk1 D b 0 = D ∧ mk1 D b j = addD D b ∧ un1 D b 0 = addD D b ∧ un1 D b j = D) := ⟨mk1_none D b, by rw [← hbl]; exact mk1_all D b, un1_none D b, by rw [← hbl]; exact un1_all HFIT.out.1⟩
                  have hb1m : Bo wr g1 v (mk1 D b 0) := by rw [HMK.out.1]; exact hb1
                  clear HNF HFI HO hb1
                  go_wp2
                  go_loopw [12] (fun jv wr' => ∃ m : Nat, jv = .int .i64 (m : Int) ∧ m ≤ j ∧ Bo wr' g1 v (mk1 D b m) ∧ Bo wr' g2 n ch ∧ K2 B0 g1 g2 w0 wr') (fun jv _ => (j - intOf jv).toNat)
                  case atStart => exact ⟨0, rfl, by omega, hb1m, hb2, hK⟩
                  case round =>
                    clear hb1m hb2 hK
                    obtain ⟨m, rfl, hm, hb1, hb2, hK⟩ := hrel
                    by_cases hlm : m < j
                    · have hdm : decide ((m : Int) < (j : Int)) = true := by simp; omega
                      have hmi : (m : Int) < (j : Int) := by omega
                      obtain ⟨y, hy⟩ := HGE.out m hlm
                      have hyv := HLTB.out m y hy
                      obtain ⟨eb, eo, rfl, hel⟩ := HEL.out m y hy
                      have hey := hel _ hK
                      have hcy := hb1.cell y hyv
                      have hfy := hb1.frozen y
                      have hyi : (y : Int) < (v : Int) := by omega
                      have hb1n := hb1.set y true
                      rw [mk1_step hy] at hb1n
                      have hb2n := hb2.other ⟨g1, y, none⟩ (.bool true) (Ne.symm hg)
                      have hKn := hK.set1 hg1 y (.bool true)
                      generalize mk1 D b m y = dy at *
                      clear hel hy
                      go_wp2
                      go_roundw
                      case rel => exact ⟨m + 1, by go_num, by omega, hb1n, hb2n, hKn⟩
                      case measure => simp [intOf]; omega
                    · have hdm : decide ((m : Int) < (j : Int)) = false := by simp; omega
                      obtain rfl : m = j := by omega
                      rw [HMK.out.2.1] at hb1
                      have hci := hb2.cell i hli
                      have hfi := hb2.frozen i
                      have hb1n := hb1.other ⟨g2, i, none⟩ (.bool true) hg
                      have hb2n := hb2.set i true
                      have hKn := hK.set2 hg2 i (.bool true)
                      have hBW := HBW.out _ hKn
                      have hsz : B0 ≤ (wr.setCell ⟨g2, i, none⟩ (.bool true)).heap.size := by have := hKn.1.size; have := hlt1; have := (HKW.out _ hKn).1.size; omega
                      have CC := HCP.out _ _ hBW hsz hb1n hb2n
                      obtain ⟨x0, x1⟩ := HBX.out _ hKn
                      obtain ⟨r, Hr⟩ : ∃ r, Hid (ccB v B (addD D b) = r) := ⟨_, rfl⟩
                      rw [Hr.out] at CC
                      generalize ch i = chi at *
                      clear hb1 hb2 hb1n hb2n hsz hBW hlm hdm
                      go_wp2_with (go_at_call 48; refine CC.mono ?_; rintro e w7 ⟨rfl, hb1, ⟨ch', hb2⟩, hk7⟩; have hK7 := hKn.trans hk7; clear CC)
                      have hb1u : Bo w7 g1 v (un1 D b 0) := by rw [HMK.out.2.2.1]; exact hb1
                      clear hb1 hk7 hKn hK x0 x1 hci hfi
                      go_loopw [14] (fun jv wr' => ∃ k : Nat, jv = .int .i64 (k : Int) ∧ k ≤ m ∧ Bo wr' g1 v (un1 D b k) ∧ Bo wr' g2 n ch' ∧ K2 B0 g1 g2 w0 wr') (fun jv _ => (m - intOf jv).toNat)
                      case atStart => exact ⟨0, rfl, by omega, hb1u, hb2, hK7⟩
                      case round =>
                        clear hb1u hb2 hK7
                        obtain ⟨k, rfl, hk, hb1, hb2, hK⟩ := hrel
                        by_cases hlk : k < m
                        · have hdk : decide ((k : Int) < (m : Int)) = true := by simp; omega
                          have hki : (k : Int) < (m : Int) := by omega
                          obtain ⟨y, hy⟩ := HGE.out k hlk
                          have hyv := HLTB.out k y hy
                          obtain ⟨eb, eo, rfl, hel⟩ := HEL.out k y hy
                          have hey := hel _ hK
                          have hcy := hb1.cell y hyv
                          have hfy := hb1.frozen y
                          have hyi : (y : Int) < (v : Int) := by omega
                          have hb1n := hb1.set y false
                          rw [un1_step hy] at hb1n
                          have hb2n := hb2.other ⟨g1, y, none⟩ (.bool false) (Ne.symm hg)
                          have hKn := hK.set1 hg1 y (.bool false)
                          generalize un1 D b k y = dy at *
                          clear hel hy
                          go_wp2
                          go_roundw
                          case rel => exact ⟨k + 1, by go_num, by omega, hb1n, hb2n, hKn⟩
                          case measure => simp [intOf]; omega
                        · have hdk : decide ((k : Int) < (m : Int)) = false := by simp; omega
                          obtain rfl : k = m := by omega
                          rw [HMK.out.2.2.2] at hb1
                          cases r with
                          | true =>
                            obtain rfl : z = true := HPY.out.2 ⟨i, hli, by rw [HBI.out]; exact HCT.out.1 HFIT.out.2, by rw [HBI.out]; exact HFIT.out.1, by rw [HBI.out]; exact Hr.out⟩
                            have HR : Hid (Bo wr g1 v D ∧ (∃ ch', Bo wr g2 n ch') ∧ K2 B0 g1 g2 w wr) := ⟨hb1, ⟨_, hb2⟩, HKW.out _ hK⟩
                            clear hb1 hb2 hK
                            go_wp2
                            go_ret
                            exact ⟨rfl, HR.out⟩
                          | false =>
                            have hci := hb2.cell i hli
                            have hfi := hb2.frozen i
                            have hb1n := hb1.other ⟨g2, i, none⟩ (.bool false) hg
                            have hb2n := hb2.set i false
                            have hKn := hK.set2 hg2 i (.bool false)
                            have HI2 : Hid (∀ m, m < i + 1 → ¬ (x ∈ B.getD m [] ∧ fitD D (B.getD m []) = true ∧ ccB v B (addD D (B.getD m [])) = true)) := HIN2.out _ _ hb1 hb2 hK fun ⟨_, _, h⟩ => by rw [Hr.out] at h; cases h
                            generalize ch' i = chi at *
                            clear hb1 hb2
                            go_wp2
                            go_roundw
                            case rel => exact ⟨i + 1, _, by go_num, by omega, HI2, hb1n, hb2n, hKn⟩
                            case measure => simp [intOf]; omega
          · have hdi : decide ((i : Int) < (n : Int)) = false := by simp; omega
            obtain rfl : i = n := by omega
            obtain rfl : z = false := by
              cases z with
              | false => rfl
              | true =>
                obtain ⟨j, hj, h⟩ := HPY.out.1 rfl
                exact (HI.out j hj h).elim
            have HR : Hid (Bo wr g1 v D ∧ (∃ ch', Bo wr g2 i ch') ∧ K2 B0 g1 g2 w wr) := ⟨hb1, ⟨_, hb2⟩, HKW.out _ hK⟩
            go_wp2
            go_ret
            exact ⟨rfl, HR.out⟩
    · have hdx : decide ((x : Int) < (v : Int)) = false := by simp; omega
      obtain rfl : x = v := by omega
      have heq : ((x : Int) == (x : Int)) = true := by simp
      obtain rfl : z = true := HFU.out HX.out
      have HR : Hid (Bo (w.alloc (.cells #[.int .i64 (x : Int), .slice a n cap] 24)) g1 x D ∧ (∃ ch', Bo (w.alloc (.cells #[.int .i64 (x : Int), .slice a n cap] 24)) g2 n ch') ∧ K2 B0 g1 g2 w (w.alloc (.cells #[.int .i64 (x : Int), .slice a n cap] 24))) := ⟨hb1', ⟨_, hb2'⟩, K2.of (balloc w _) HK0.out.1⟩
      clear hb1' hb2'
      go_wp2
      go_ret
      exact ⟨rfl, HR.out⟩
theorem cut_any (v n g1 g2 B0 c1 c2 cap : Nat) (a : Option Addr) (B : List (List Nat)) (w00 : World) (hv : v ≤ 40) (hn : n ≤ 200) (hBn : B.length = n) (hrs : ∀ b ∈ B, Rs v 0 b) (hg1 : B0 ≤ g1) (hg2 : B0 ≤ g2) (hg : g1 ≠ g2) (hD : DRowB B0 w00 a B) : ∀ (m : Nat) (D : Nat → Bool), undN v D ≤ m → CutP v n g1 g2 B0 c1 c2 cap a B w00 D := by
  intro m
  induction m with
  | zero => exact fun D hm => cut_step v n g1 g2 B0 c1 c2 cap a B w00 D hv hn hBn hrs hg1 hg2 hg hD fun b _ x hx hd hb => by have := undN_lt hx hd hb; omega
  | succ m ih => exact fun D hm => cut_step v n g1 g2 B0 c1 c2 cap a B w00 D hv hn hBn hrs hg1 hg2 hg hD fun b _ x hx hd hb => ih _ (by have := undN_lt hx hd hb; omega)
end Go.Proofs.YtnnopfdckillpaaDoor
