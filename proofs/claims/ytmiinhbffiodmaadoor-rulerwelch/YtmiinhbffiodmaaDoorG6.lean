/- The walks of allUnlike and checkMarks, Check. -/
import Derived.Test.YtmiinhbffiodmaaDoorG5
import Derived.Test.YtmiinhbffiodmaaDoorR2
namespace Go.Proofs.YtmiinhbffiodmaaDoor
open Go.RowKit Go.Maps

theorem gpL_pre (ap : Int → Int → Int × Int) : ∀ (b a : List Int), ∃ R, gpL ap (a ++ b) = gpL ap a ++ R
  | [], a => ⟨[], by simp⟩
  | x :: b, a => by
    obtain ⟨R, h⟩ := gpL_pre ap b (a ++ [x])
    exact ⟨nwG ap a x ++ R, by rw [show a ++ x :: b = (a ++ [x]) ++ b by simp, h, gpL_snoc, List.append_assoc]⟩
theorem gpL_take {ap : Int → Int → Int × Int} {l : List Int} {i : Nat} (h : ¬ (gpL ap (l.take i)).Nodup) : decide (gpL ap l).Nodup = false := by
  obtain ⟨R, e⟩ := gpL_pre ap (l.drop i) (l.take i)
  rw [List.take_append_drop] at e
  rw [decide_eq_false_iff_not, e]
  exact fun hn => h (List.nodup_append.1 hn).1
theorem take_upZ {l : List Int} {i : Nat} (h : i < l.length) : l.take (i + 1) = l.take i ++ [l.getD i 0] := by
  rw [List.take_add_one, List.getElem?_eq_getElem h, List.getD_eq_getElem?_getD, List.getElem?_eq_getElem h]; rfl
set_option maxRecDepth 100000 in
set_option maxHeartbeats 4000000 in
theorem allUnlike_any (f : Nat) (ap : Int → Int → Int × Int) (l : List Int) (u : Value) (w : World) (hA : ApF f ap) (hu : Sl w u l) (h60 : l.length ≤ 60) (hb : ∀ i, i < l.length → 0 ≤ l.getD i 0 ∧ l.getD i 0 ≤ 1000000000) :
    Calls Tryd.prog 21 #[u, .func (.func f) #[] #[]] w fun e w' => e = .returned (.bool (decide (gpL ap l).Nodup)) ∧ Below w.heap.size w w' := by
  obtain ⟨ua, uc, rfl, hub⟩ := hu
  have HUB : Hid (∀ j, j < l.length → ∃ g o, ua = some ⟨g, o, none⟩ ∧ ∀ W, Below w.heap.size w W → W.cell? ⟨g, o + j, none⟩ = some (.int .i64 (l.getD j 0))) := fun j hj => by
    obtain ⟨g, o, e, hc⟩ := hub j hj
    exact ⟨g, o, e, fun W bW => (bW.cell (World.block_lt_of_cell? _ _ hc)).trans hc⟩
  obtain ⟨B, HB⟩ : ∃ B, Hid (w.heap.size = B) := ⟨_, rfl⟩
  have HNEW : Hid (Calls Tryd.prog 38 #[.func (.func f) #[] #[]] w fun e w' => e = .returned (.pointer (some ⟨B + 1, 0, none⟩)) ∧ RowS w' B (B + 1) B f [] (TG ap []) 0 ∧ Below B w w') := by
    show Calls _ _ _ _ _
    rw [TG_nil, ← HB.out]
    exact newRow_any f w
  have HPUT : Hid (∀ (i : Nat) (W : World), i < l.length → RowS W B (B + 1) B f (l.take i) (TG ap (l.take i)) (i * 60) → (gpL ap (l.take i)).Nodup → Calls Tryd.prog 39 #[.pointer (some ⟨B + 1, 0, none⟩), .int .i64 (l.getD i 0)] W fun e w' => e = .returned (.bool (decide (gpL ap (l.take (i + 1))).Nodup)) ∧ RowS w' B (B + 1) B f (l.take (i + 1)) (TG ap (l.take (i + 1))) ((i + 1) * 60) ∧ Below B W w') := fun i W hi hR hG => by
    have hlen : (l.take i).length = i := by rw [List.length_take]; omega
    rw [take_upZ hi]
    refine (put_row ap B (B + 1) B f _ (l.take i) (l.getD i 0) W hA hR hG (hb i hi) (fun j hj => ?_) (by omega) (by omega)).mono ?_
    · rw [hlen] at hj
      rw [List.getD_eq_getElem?_getD, List.getElem?_take, if_pos hj, ← List.getD_eq_getElem?_getD]
      exact hb j (by omega)
    · rintro e w' ⟨rfl, h1, h2⟩
      obtain ⟨D, h3, h4⟩ := h1.map
      exact ⟨rfl, ⟨h1.box, ⟨D, h3.mono (by rw [hlen]; omega), h4⟩, h1.bg, h1.bm⟩, h2.below⟩
  have HNO : Hid (∀ i, decide (gpL ap (l.take i)).Nodup = false → decide (gpL ap l).Nodup = false) := fun i h => gpL_take (by simpa using h)
  have HYES : Hid (∀ i, ¬ i < l.length → (gpL ap (l.take i)).Nodup → decide (gpL ap l).Nodup = true) := fun i h hn => by
    rw [List.take_of_length_le (by omega)] at hn
    exact decide_eq_true hn
  obtain ⟨z, Hz⟩ : ∃ z, Hid (decide (gpL ap l).Nodup = z) := ⟨_, rfl⟩
  rw [Hz.out] at HNO HYES ⊢
  rw [HB.out]
  have HBW : Hid (∀ W, Below B w W → Below w.heap.size w W) := fun W h => by rw [HB.out]; exact h
  have h00 : Hid ((gpL ap (l.take 0)).Nodup) := (show (gpL ap (l.take 0)).Nodup by simp [gpL])
  generalize hn : l.length = n at *
  clear hub hA
  go_enter Tryd.func21, Tryd.ntmps21
  go_wp2_with (go_at_call 38; refine HNEW.out.mono ?_; rintro e w1 ⟨rfl, hR1, hB1⟩; clear HNEW)
  go_loopw [12] (fun iv wr => ∃ i : Nat, iv = .int .i64 (i : Int) ∧ i ≤ n ∧ Hid (RowS wr B (B + 1) B f (l.take i) (TG ap (l.take i)) (i * 60)) ∧ Hid ((gpL ap (l.take i)).Nodup) ∧ Hid (Below B w wr)) (fun iv _ => (n - intOf iv).toNat)
  case atStart => exact ⟨0, rfl, by omega, hR1, h00, hB1⟩
  case round =>
    clear hR1 hB1 h00
    obtain ⟨i, rfl, hi, HR, HG, HBr⟩ := hrel
    by_cases hlt : i < n
    · have hdi : decide ((i : Int) < (n : Int)) = true := by simp; omega
      have hii : (i : Int) < (n : Int) := by omega
      obtain ⟨g, o, rfl, hc0⟩ := HUB.out i hlt
      have hc := hc0 _ (HBW.out _ HBr.out)
      have C := HPUT.out i wr hlt HR.out HG.out
      have hno := HNO.out (i + 1)
      obtain ⟨x, Hx⟩ : ∃ x, Hid (l.getD i 0 = x) := ⟨_, rfl⟩
      rw [Hx.out] at hc C
      obtain ⟨fz, Hfz⟩ : ∃ fz, Hid (decide (gpL ap (l.take (i + 1))).Nodup = fz) := ⟨_, rfl⟩
      rw [Hfz.out] at C hno
      clear hc0
      cases fz
      · obtain rfl := hno rfl
        clear hno
        go_wp2_with (go_at_call 39; refine C.mono ?_; rintro e w2 ⟨rfl, hR2, hB2⟩; clear C)
        go_ret
        exact ⟨rfl, HBr.out.trans hB2⟩
      · have HG2 : Hid ((gpL ap (l.take (i + 1))).Nodup) := (show (gpL ap (l.take (i + 1))).Nodup from of_decide_eq_true Hfz.out)
        clear hno
        go_wp2_with (go_at_call 39; refine C.mono ?_; rintro e w2 ⟨rfl, hR2, hB2⟩; clear C)
        go_roundw
        case rel => exact ⟨i + 1, by go_num, by omega, hR2, HG2, HBr.out.trans hB2⟩
        case measure => simp [intOf]; omega
    · have hdi : decide ((i : Int) < (n : Int)) = false := by simp; omega
      obtain rfl := HYES.out i hlt HG.out
      go_wp2
      go_ret
      exact ⟨rfl, HBr.out⟩

set_option maxHeartbeats 4000000 in
theorem checkMarks_far (u : Value) (w : World) (n c : Nat) (a : Option Addr) (hu : u = .slice a n c) (h : 60 < n) : Calls Tryd.prog 31 #[u] w fun e w' => e = .returned (.int .i64 3) ∧ Below w.heap.size w w' := by
  subst hu
  have d1 : decide (60 < (n : Int)) = true := by simp; omega
  have d2 : 60 < (n : Int) := by omega
  go_enter Tryd.func31, Tryd.ntmps31
  go_wp2
  go_ret
  exact ⟨rfl, Below.refl _ _⟩
set_option maxRecDepth 100000 in
set_option maxHeartbeats 8000000 in
theorem checkMarks_near (b : List Int) (u : Value) (w : World) (hu : Sl w u b) (h60 : b.length ≤ 60) :
    Calls Tryd.prog 31 #[u] w fun e w' => e = .returned (.int .i64 (mF b : Int)) ∧ Below w.heap.size w w' := by
  obtain ⟨ua, uc, rfl, hub⟩ := hu
  have HUB : Hid (∀ j, j < b.length → ∃ g o, ua = some ⟨g, o, none⟩ ∧ ∀ W, Below w.heap.size w W → W.cell? ⟨g, o + j, none⟩ = some (.int .i64 (b.getD j 0))) := fun j hj => by
    obtain ⟨g, o, e, hc⟩ := hub j hj
    exact ⟨g, o, e, fun W bW => (bW.cell (World.block_lt_of_cell? _ _ hc)).trans hc⟩
  obtain ⟨w1, Hw1⟩ : ∃ w1 : World, Hid (w1 = w) := ⟨_, rfl⟩
  rw [← Hw1.out] at HUB
  have HO : Hid (∀ j, j < b.length → ¬ (0 ≤ b.getD j 0 ∧ b.getD j 0 < 1000000001) → mF b = 1) := fun j hj h => mF_out h60 hj h
  have HF : Hid ((∀ j, j < b.length → 0 ≤ b.getD j 0 ∧ b.getD j 0 < 1000000001) → 0 < b.length → b.getD 0 0 ≠ 0 → mF b = 2) := fun h h0 hn => mF_first h60 h h0 hn
  have HL : Hid ((∀ j, j < b.length → 0 ≤ b.getD j 0 ∧ b.getD j 0 < 1000000001) → ∀ j, 1 ≤ j → j < b.length → b.getD j 0 ≤ b.getD (j - 1) 0 → mF b = 2) := fun h j h1 hj hf => mF_fall h60 h h1 hj hf
  have HZZ : Hid ((∀ j, j < b.length → 0 ≤ b.getD j 0 ∧ b.getD j 0 < 1000000001) → (0 < b.length → b.getD 0 0 = 0) → (∀ j, 1 ≤ j → j < b.length → b.getD (j - 1) 0 < b.getD j 0) → mF b = 0) := fun h h0 hr => mF_zero h60 h h0 hr
  obtain ⟨z, HZ⟩ : ∃ z, Hid (mF b = z) := ⟨_, rfl⟩
  rw [HZ.out] at HO HF HL HZZ ⊢
  generalize hbn : b.length = bn at *
  have d1 : decide (60 < (bn : Int)) = false := by simp; omega
  have d2 : ¬ 60 < (bn : Int) := by omega
  clear hub
  go_enter Tryd.func31, Tryd.ntmps31
  go_wp2
  go_loopw [12] (fun jv wr' => ∃ j : Nat, jv = .int .i64 (j : Int) ∧ j ≤ bn ∧ Hid (∀ m, m < j → 0 ≤ b.getD m 0 ∧ b.getD m 0 < 1000000001) ∧ Below w1.heap.size w1 wr') (fun jv _ => (bn - intOf jv).toNat)
  case atStart => exact ⟨0, rfl, by omega, (show ∀ m, m < 0 → _ from fun m h => by omega), by rw [Hw1.out]; exact Below.refl _ _⟩
  case round =>
    obtain ⟨j, rfl, hj, HJ, hB2⟩ := hrel
    by_cases hlj : j < bn
    · have hdj : decide ((j : Int) < (bn : Int)) = true := by simp; omega
      have hji : (j : Int) < (bn : Int) := by omega
      obtain ⟨g, o, rfl, hcj0⟩ := HUB.out j hlj
      have hcj := hcj0 _ hB2
      have hO := HO.out j hlj
      obtain ⟨x, Hx⟩ : ∃ x, Hid (x = b.getD j 0) := ⟨_, (rfl : b.getD j 0 = b.getD j 0)⟩
      rw [← Hx.out] at hcj hO
      by_cases hneg : x < 0
      · obtain rfl := hO (by omega)
        have hdx : decide (x < 0) = true := decide_eq_true hneg
        clear hneg hO hcj0 HO HF HL HZZ
        go_wp2
        go_ret
        exact ⟨rfl, by rw [← Hw1.out]; exact hB2⟩
      · have hdx : decide (x < 0) = false := decide_eq_false hneg
        by_cases hge : 1000000000 < x
        · obtain rfl := hO (by omega)
          have hdx2 : decide (1000000000 < x) = true := decide_eq_true hge
          clear hneg hge hO hcj0 HO HF HL HZZ
          go_wp2
          go_ret
          exact ⟨rfl, by rw [← Hw1.out]; exact hB2⟩
        · have hdx2 : decide (1000000000 < x) = false := decide_eq_false hge
          have HJ2 : Hid (∀ m, m < j + 1 → 0 ≤ b.getD m 0 ∧ b.getD m 0 < 1000000001) := fun m hm => by
            by_cases e : m = j
            · subst e; rw [← Hx.out]; omega
            · exact HJ.out m (by omega)
          clear hneg hge HJ hcj0 hO HO HF HL HZZ
          go_wp2
          go_roundw
          case rel => exact ⟨j + 1, by go_num, by omega, HJ2, hB2⟩
          case measure => simp [intOf]; omega
    · have hdj : decide ((j : Int) < (bn : Int)) = false := by simp; omega
      obtain rfl : j = bn := by omega
      have HF' : Hid (0 < j → b.getD 0 0 ≠ 0 → z = 2) := fun h1 h2 => HF.out HJ.out h1 h2
      have HL' : Hid (∀ k, 1 ≤ k → k < j → b.getD k 0 ≤ b.getD (k - 1) 0 → z = 2) := fun k h1 h2 h3 => HL.out HJ.out k h1 h2 h3
      have HZ' : Hid ((0 < j → b.getD 0 0 = 0) → (∀ k, 1 ≤ k → k < j → b.getD (k - 1) 0 < b.getD k 0) → z = 0) := fun h1 h2 => HZZ.out HJ.out h1 h2
      clear hlj HO HF HL HZZ HJ
      go_wp2
      go_loopw [25] (fun jv wr' => ∃ k : Nat, jv = .int .i64 (k : Int) ∧ k ≤ j ∧ Hid (0 < k → b.getD 0 0 = 0) ∧ Hid (∀ m, 1 ≤ m → m < k → b.getD (m - 1) 0 < b.getD m 0) ∧ Below w1.heap.size w1 wr') (fun jv _ => (j - intOf jv).toNat)
      case atStart => exact ⟨0, rfl, by omega, (show 0 < 0 → _ from fun h => by omega), (show ∀ m, 1 ≤ m → m < 0 → _ from fun m h h' => by omega), hB2⟩
      case round =>
        clear hB2
        obtain ⟨k, rfl, hkj, HK0, HK, hB3⟩ := hrel
        by_cases hlk : k < j
        · have hdk : decide ((k : Int) < (j : Int)) = true := by simp; omega
          have hki : (k : Int) < (j : Int) := by omega
          by_cases hk0 : k = 0
          · subst hk0
            obtain ⟨g, o, rfl, hc0⟩ := HUB.out 0 hlk
            have hck := hc0 _ hB3
            rw [Nat.add_zero] at hck
            have hF := HF'.out hlk
            obtain ⟨x, Hx⟩ : ∃ x, Hid (b.getD 0 0 = x) := ⟨_, rfl⟩
            rw [Hx.out] at hck hF
            clear hc0
            by_cases hx : x = 0
            · subst hx
              have HK2 : Hid (0 < 0 + 1 → b.getD 0 0 = 0) := fun _ => Hx.out
              have HK3 : Hid (∀ m, 1 ≤ m → m < 0 + 1 → b.getD (m - 1) 0 < b.getD m 0) := fun m h1 h2 => by omega
              clear HK0 HK hF HF' HL' HZ'
              go_wp2
              go_roundw
              case rel => exact ⟨0 + 1, by go_num, by omega, HK2, HK3, hB3⟩
              case measure => simp [intOf]; omega
            · obtain rfl := hF hx
              have e2 : (x != 0) = true := by simpa using hx
              clear HK0 HK hF HF' HL' HZ'
              go_wp2
              go_ret
              exact ⟨rfl, by rw [← Hw1.out]; exact hB3⟩
          · obtain ⟨k', Hk'⟩ : ∃ k', Hid (k = k' + 1) := ⟨k - 1, (by omega : k = k - 1 + 1)⟩
            have hsub : (k : Int) - 1 = (k' : Int) := by have := Hk'.out; omega
            have hk'i : (k' : Int) < (j : Int) := by have := Hk'.out; omega
            have hk0i : ¬ (k : Int) = 0 := by omega
            have hk0b : ((k : Int) == 0) = false := by simpa using hk0i
            have hkp : decide ((0 : Int) < (k : Int)) = true := by simp; omega
            have hkp2 : (0 : Int) < (k : Int) := by omega
            have hkp3 : 0 < k := by omega
            obtain ⟨g, o, rfl, hc0⟩ := HUB.out k hlk
            obtain ⟨g2, o2, e2, hc1⟩ := HUB.out k' (by have := Hk'.out; omega)
            obtain ⟨rfl, rfl⟩ : g = g2 ∧ o = o2 := by
              simp only [Option.some.injEq, Addr.mk.injEq] at e2
              exact ⟨e2.1, e2.2.1⟩
            have hck := hc0 _ hB3
            have hck' := hc1 _ hB3
            have hL := HL'.out k (by omega) hlk
            rw [show k - 1 = k' by have := Hk'.out; omega] at hL
            obtain ⟨x, Hx⟩ : ∃ x, Hid (x = b.getD k 0) := ⟨_, (rfl : b.getD k 0 = b.getD k 0)⟩
            obtain ⟨y, Hy⟩ : ∃ y, Hid (y = b.getD k' 0) := ⟨_, (rfl : b.getD k' 0 = b.getD k' 0)⟩
            rw [← Hx.out] at hck hL
            rw [← Hy.out] at hck' hL
            clear e2 hc0 hc1
            by_cases hle : x ≤ y
            · obtain rfl := hL hle
              have hdx : decide (x ≤ y) = true := decide_eq_true hle
              clear hle hL HF' HL' HZ' HK HK0
              go_wp2
              go_ret
              exact ⟨rfl, by rw [← Hw1.out]; exact hB3⟩
            · have hdx : decide (x ≤ y) = false := decide_eq_false hle
              have HK2 : Hid (∀ m, 1 ≤ m → m < k + 1 → b.getD (m - 1) 0 < b.getD m 0) := fun m h1 h2 => by
                by_cases e : m = k
                · subst e; rw [show m - 1 = k' by have := Hk'.out; omega, ← Hx.out, ← Hy.out]; omega
                · exact HK.out m h1 (by omega)
              have HK4 : Hid (0 < k + 1 → b.getD 0 0 = 0) := fun _ => HK0.out (by omega)
              clear hle HK hL HF' HL' HZ' HK0
              go_wp2
              go_roundw
              case rel => exact ⟨k + 1, by go_num, by omega, HK4, HK2, hB3⟩
              case measure => simp [intOf]; omega
        · have hdk : decide ((k : Int) < (j : Int)) = false := by simp; omega
          obtain rfl : k = j := by omega
          obtain rfl := HZ'.out HK0.out HK.out
          go_wp2
          go_ret
          exact ⟨rfl, by rw [← Hw1.out]; exact hB3⟩
theorem checkMarks_any (b : List Int) (u : Value) (w : World) (hu : Sl w u b) :
    Calls Tryd.prog 31 #[u] w fun e w' => e = .returned (.int .i64 (mF b : Int)) ∧ Below w.heap.size w w' := by
  by_cases h : 60 < b.length
  · rw [show mF b = 3 from if_pos h]
    obtain ⟨a, c, rfl, _⟩ := hu
    exact checkMarks_far _ w _ c a rfl h
  · exact checkMarks_near b u w hu (by omega)


theorem bF_01 (p : Int) (b : List Int) : bF p b = 0 ∨ bF p b = 1 ∨ bF p b = 2 := by
  unfold bF
  repeat' split
  all_goals simp
theorem mF_3 (l : List Int) : mF l ≤ 3 := by
  unfold mF
  repeat' split
  all_goals omega
theorem good_bd {D : List Nat} (h : GoodM D) : ∀ i, i < (D.map Int.ofNat).length → 0 ≤ (D.map Int.ofNat).getD i 0 ∧ (D.map Int.ofNat).getD i 0 ≤ 1000000000 := fun i hi => by
  rw [List.length_map] at hi
  have hm : D.getD i 0 ∈ D := by rw [List.getD_eq_getElem?_getD, List.getElem?_eq_getElem hi]; exact List.getElem_mem hi
  have := h.le _ hm
  rw [getD_of]
  omega
set_option maxRecDepth 100000 in
set_option maxHeartbeats 4000000 in
theorem Check_bad (b : List Int) (u : Value) (w : World) (hu : Sl w u b) (hm : mF b ≠ 0) :
    Calls Tryd.prog 17 #[u] w fun e w' => e = .returned (.tuple #[.bool false, .int .i64 (mF b : Int)]) ∧ Below w.heap.size w w' := by
  have C := checkMarks_any b u w hu
  obtain ⟨z, Hz⟩ : ∃ z, Hid (mF b = z) := ⟨_, rfl⟩
  rw [Hz.out] at C hm ⊢
  have hz : ((z : Int) != 0) = true := by simpa using hm
  have hz2 : ¬ (z : Int) = 0 := by omega
  clear hu
  go_enter Tryd.func17, Tryd.ntmps17
  go_wp2_with (go_at_call 31; refine C.mono ?_; rintro e w1 ⟨rfl, b1⟩; clear C)
  exact bodyPost_ret (v := .tuple #[.bool false, .int .i64 (z : Int)]) (by simp [results, Tryd.results17, go_sem]) rfl ⟨rfl, b1⟩
set_option maxRecDepth 100000 in
set_option maxHeartbeats 4000000 in
theorem Check_good (D : List Nat) (u : Value) (w : World) (hu : Sl w u (D.map Int.ofNat)) (hD : GoodM D) (hm : mF (D.map Int.ofNat) = 0) :
    Calls Tryd.prog 17 #[u] w fun e w' => e = .returned (.tuple #[.bool (golB D), .int .i64 0]) ∧ Below w.heap.size w w' := by
  have C := checkMarks_any _ u w hu
  rw [hm] at C
  have HC : Hid (∀ W, Below w.heap.size w W → Calls Tryd.prog 21 #[u, .func (.func 32) #[] #[]] W fun e w' => e = .returned (.bool (golB D)) ∧ Below W.heap.size W w') := fun W hW => by
    have h := allUnlike_any 32 apM _ u W byMuch_ap (hu.below hW) (by rw [List.length_map]; exact hD.few) (good_bd hD)
    rw [gp_gol] at h
    exact h
  clear hu hm
  go_enter Tryd.func17, Tryd.ntmps17
  go_wp2_with (first
    | (go_at_call 31; refine C.mono ?_; rintro e w1 ⟨rfl, b1⟩; clear C)
    | (go_at_call 21; refine (HC.out _ b1).mono ?_; rintro e w2 ⟨rfl, b2⟩))
  exact bodyPost_ret (v := .tuple #[.bool (golB D), .int .i64 0]) (by simp [results, Tryd.results17, go_sem]) rfl ⟨rfl, Below.next b1 b2⟩

end Go.Proofs.YtmiinhbffiodmaaDoor
