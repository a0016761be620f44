/- The walk of the document's GaussOf. -/
import Derived.Test.YtgdkfbgehbdkjaaC4
import Derived.Deep.QuietTactic
import Derived.BigQuiet
namespace Go.Proofs.Ytgdkfbgehbdkjaa
open Go.RowKit

/-- A row of Gauss's numbers. -/
def gT (q m j : Nat) : List Int := (List.range j).map fun i => upT (gs q m i)
theorem gT_len (q m j : Nat) : (gT q m j).length = j := by simp [gT]
theorem gT_at (q m : Nat) {j i : Nat} (h : i < j) : (gT q m j).getD i 0 = upT (gs q m i) := by simp [gT, h]
theorem gT_snoc (q m j : Nat) : gT q m (j + 1) = gT q m j ++ [upT (gs q m j)] := by simp [gT, List.range_succ]
theorem upT_pow {q : Nat} (hq : q ≤ 64) : (q : Int) = upT q := (upT_small (by omega)).symm
/-- The sum as the document takes it. -/
def suT (x y : Int) : Int := if 0 ≤ x ∧ 0 ≤ y ∧ x + y ≤ 1000000000000000000 then x + y else -1
theorem suT_is (a b : Nat) : suT (upT a) (upT b) = upT (a + b) := by
  unfold suT
  by_cases h1 : a ≤ 1000000000000000000
  · by_cases h2 : b ≤ 1000000000000000000
    · rw [upT_small h1, upT_small h2]
      by_cases h3 : a + b ≤ 1000000000000000000
      · rw [if_pos (by omega), upT_small h3]; omega
      · rw [if_neg (by omega), upT_big (by omega)]
    · rw [upT_big (x := b) (by omega), if_neg (by omega), upT_big (by omega)]
  · rw [upT_big (x := a) (by omega), if_neg (by omega), upT_big (by omega)]
set_option maxRecDepth 100000 in
set_option maxHeartbeats 8000000 in
theorem GaussOf_any (n k q : Nat) (w : World) (hn : n ≤ 30) (hk : k ≤ n) (hq2 : 2 ≤ q) (hq : q ≤ 64) :
    Calls Try.prog 5 #[.int .i64 (n : Int), .int .i64 (k : Int), .int .i64 (q : Int)] w fun e w' => e = .returned (.int .i64 (upT (gs q n k))) ∧ Below w.heap.size w w' := by
  obtain ⟨i3, hi3, hz0, hz1, hz2⟩ := info3
  have HPos : Hid (∀ m i, i ≤ m → 1 ≤ gs q m i) := fun m i h => gs_pos (by omega) m i h
  have HPw : Hid (∀ i, 1 ≤ q ^ i) := fun i => Nat.pow_pos (by omega)
  have HS1 : Hid (∀ m j, gs q (m + 1) (j + 1) = q ^ (j + 1) * gs q m (j + 1) + gs q m j) := gs_succ q
  have HS0 : Hid (∀ m, gs q m 0 = 1) := gs_zero q
  have HSl : Hid (∀ m, gs q m m = 1) := gs_self q
  have HR0 : Hid (Sl (w.alloc (.cells #[.int .i64 1] 3)) (.slice (some ⟨w.heap.size, 0, none⟩) 1 1) (gT q 0 1)) := by
    refine ⟨_, 1, rfl, fun j hj => ⟨w.heap.size, 0, rfl, ?_⟩⟩
    have h0 : j = 0 := by simp [gT] at hj; omega
    subst h0
    rw [cell_of_row _ w.heap.size 0 _ _ _ (heap_alloc_new w _)]
    rfl
  have hB0 := balloc w (.cells #[.int .i64 1] 3)
  go_enter Try.func5, Try.ntmps5
  go_wp2
  go_loopw [7, 8] (fun rv mv wr => ∃ m : Nat, mv = .int .i64 ((m : Int) + 1) ∧ m ≤ n ∧ Sl wr rv (gT q m (m + 1)) ∧ Below w.heap.size w wr) (fun _ mv _ => (n + 1 - intOf mv).toNat)
  case atStart => exact ⟨0, rfl, by omega, HR0.out, hB0⟩
  case round =>
    clear HR0 hB0
    obtain ⟨m, rfl, hm, hR, hB0⟩ := hrel
    obtain ⟨rb, ro, rc, rfl, hrb, hRc⟩ := hR.form (gT_len q m (m + 1)) (by omega)
    by_cases hlt : m < n
    · have hdm : decide ((m : Int) + 1 ≤ (n : Int)) = true := by simp; omega
      have hmi : (m : Int) + 1 ≤ n := by omega
      obtain ⟨w0, Hw0⟩ : ∃ w0, Hid (w0 = wr) := ⟨_, rfl⟩
      have HRC : Hid (∀ W, Below w0.heap.size w0 W → ∀ i, i < m + 1 → W.cell? ⟨rb, ro + i, none⟩ = some (.int .i64 (upT (gs q m i)))) := fun W bW i hi => by
        have h := hRc i hi
        rw [gT_at q m hi] at h
        rw [bW.cell (p := ⟨rb, ro + i, none⟩) (by rw [Hw0.out]; exact hrb), Hw0.out, h]
      have HB0 : Hid (Below w.heap.size w w0) := by rw [Hw0.out]; exact hB0
      obtain ⟨g, Hg⟩ : ∃ g, Hid (w0.heap.size = g) := ⟨_, rfl⟩
      rw [Hg.out] at HRC
      have Hstart : Hid (Below g w0 wr) := by rw [← Hg.out, Hw0.out]; exact Below.refl _ _
      clear hR hRc hB0 hrb
      go_wp2
      go_loopw [9, 10, 11] (fun nv pv jv wr => ∃ (j : Nat) (p : Int), jv = .int .i64 (j : Int) ∧ j ≤ m + 2 ∧ pv = .int .i64 p ∧ Hid (p = upT (q ^ j)) ∧ wr.ownsRow g 3 1 nv j ((gT q (m + 1) j).map (Value.int .i64)) ∧ Below g w0 wr) (fun _ _ jv _ => (m + 2 - intOf jv).toNat)
      case atStart => exact ⟨0, 1, rfl, by omega, rfl, (by show (1 : Int) = _; rw [Nat.pow_zero]; rfl), World.ownsRow_nil _ _ _ _, Hstart.out⟩
      case round =>
        clear Hstart
        obtain ⟨j, p, rfl, hj, rfl, HP, hown, hB⟩ := hrel
        have hgs : g ≤ wr.heap.size := by have := hB.size; rw [Hg.out] at this; exact this
        by_cases hjm : j ≤ m + 1
        · have hdj : decide ((j : Int) ≤ (m : Int) + 1) = true := by simp; omega
          have hji : (j : Int) ≤ (m : Int) + 1 := by omega
          obtain ⟨p2, HP2⟩ : ∃ p2, Hid (p2 = upT (q ^ (j + 1))) := ⟨_, rfl⟩
          have CP : ∀ W, Calls Try.prog 7 #[.int .i64 p, .int .i64 (q : Int)] W fun e w' => e = .returned (.int .i64 p2) ∧ w' = W := fun W => by
            rw [HP.out, upT_pow hq]
            exact timesUp_any (q ^ j) q W (HPw.out j) (by omega) p2 (by show _ = _; rw [HP2.out, Nat.pow_succ])
          by_cases hj0 : j = 0
          · have HJ0 : Hid (j = 0) := hj0
            have c1 := HRC.out wr hB j (by omega)
            have e1 : upT (gs q m j) = upT 1 := by rw [HJ0.out, HS0.out]
            rw [e1] at c1
            have CT : ∀ W, Calls Try.prog 7 #[.int .i64 p, .int .i64 (upT 1)] W fun e w' => e = .returned (.int .i64 1) ∧ w' = W := fun W => by
              rw [HP.out]
              exact timesUp_any (q ^ j) 1 W (HPw.out j) (by omega) 1 (by show _ = _; rw [HJ0.out, Nat.pow_zero]; rfl)
            have hm1 : (j : Int) < (m : Int) + 1 := by omega
            have hd1 : decide ((j : Int) < (m : Int) + 1) = true := by simp; omega
            have hd0 : decide ((0 : Int) < (j : Int)) = false := by simp; omega
            have hd0n : decide (0 < j) = false := by simp; omega
            have hd0m : ¬ 0 < j := by omega
            have HSV : Hid (upT (gs q (m + 1) j) = 1) := by show _ = _; rw [HJ0.out, HS0.out]; rfl
            obtain ⟨t1, Ht1⟩ : ∃ t1, Hid (upT 1 = t1) := ⟨_, rfl⟩
            rw [Ht1.out] at c1 CT
            clear HRC HP HPos HPw HS1 HS0 HSl e1 hj0 HJ0
            go_wp2_with (first
              | (go_at_call 7; refine (CT _).mono ?_; rintro e w1 ⟨rfl, h1⟩; replace h1 := h1.symm; subst h1; clear CT)
              | (go_at_call 7; refine (CP _).mono ?_; rintro e w3 ⟨rfl, h3⟩; replace h3 := h3.symm; subst h3)
              | (at_builtin; refine wpList_append_own _ rfl _ _ 27 rfl g 3 i3 (.int .i64 0) 1 8 und22 hi3 hz0 hz1 hz2 rfl (by decide) _ _ _ rfl (hown.alloc _) ⟨wr.heap.size, 0, none⟩ 1 1 [.int .i64 (1)] rfl rfl (fun j u hj => by (match j, hj with | 0, hj => simp at hj; subst hj; simp [Addr.add])) (fun u hu => by (simp at hu; subst hu; rfl)) (by (unfold maxLen; omega)) (by omega) (by (simp; omega)) ?_; intro v' w2 hown' hgrow _)
              | go_in)
            have hb2 : Below g w0 w2 := (hB.alloc (by omega) _).grown hgrow (by simp; omega) (fun k hk => (hown.lt k hk).1)
            have hown2 : w2.ownsRow g 3 1 v' (j + 1) ((gT q (m + 1) (j + 1)).map (Value.int .i64)) := by
              rw [gT_snoc, List.map_append, HSV.out]
              exact hown'
            clear hown' hgrow hown hB
            go_roundw
            case rel => exact ⟨j + 1, p2, by go_num, by omega, rfl, HP2, hown2, hb2⟩
            case measure => simp [intOf]; omega
          · obtain ⟨i, Hi⟩ : ∃ i, Hid (j = i + 1) := ⟨j - 1, by show _ = _; omega⟩
            have hsub : (j : Int) - 1 = (i : Int) := by have := Hi.out; omega
            have hij : i < j := by have := Hi.out; omega
            have hd0 : decide ((0 : Int) < (j : Int)) = true := by simp; omega
            have hd0n : decide (0 < j) = true := by simp; omega
            have hd0m : 0 < j := by omega
            have him : (i : Int) < (m : Int) + 1 := by omega
            have c2 := HRC.out wr hB i (by omega)
            obtain ⟨y, Hy⟩ : ∃ y, Hid (upT (gs q m i) = y) := ⟨_, rfl⟩
            rw [Hy.out] at c2
            by_cases hjl : j < m + 1
            · have hdl : decide ((j : Int) < (m : Int) + 1) = true := by simp; omega
              have hjli : (j : Int) < (m : Int) + 1 := by omega
              have c1 := HRC.out wr hB j (by omega)
              obtain ⟨x, Hx⟩ : ∃ x, Hid (upT (q ^ j * gs q m j) = x) := ⟨_, rfl⟩
              have CT : ∀ W, Calls Try.prog 7 #[.int .i64 p, .int .i64 (upT (gs q m j))] W fun e w' => e = .returned (.int .i64 x) ∧ w' = W := fun W => by
                rw [HP.out]
                exact timesUp_any (q ^ j) (gs q m j) W (HPw.out j) (HPos.out m j (by omega)) x Hx
              obtain ⟨t1, Ht1⟩ : ∃ t1, Hid (upT (gs q m j) = t1) := ⟨_, rfl⟩
              rw [Ht1.out] at c1 CT
              have HSu : Hid (upT (gs q (m + 1) j) = suT x y) := by
                show _ = _
                rw [← Hx.out, ← Hy.out, suT_is]
                have h := HS1.out m i
                rw [← Hi.out] at h
                rw [h]
              have lx := upT_le (q ^ j * gs q m j)
              have ly := upT_le (gs q m i)
              rw [Hx.out] at lx
              rw [Hy.out] at ly
              clear HRC HP HPos HPw HS1 HS0 HSl Hx Hy Ht1 Hi
              by_cases hx : 0 ≤ x
              · have dx : decide ((0 : Int) ≤ x) = true := by simpa using hx
                by_cases hy : 0 ≤ y
                · have dy : decide ((0 : Int) ≤ y) = true := by simpa using hy
                  by_cases hs : x + y ≤ 1000000000000000000
                  · have ds : decide (x + y ≤ 1000000000000000000) = true := by simpa using hs
                    have HSV : Hid (upT (gs q (m + 1) j) = x + y) := by show _ = _; rw [HSu.out]; unfold suT; rw [if_pos ⟨hx, hy, hs⟩]
                    clear HSu
                    go_wp2_with (first
                      | (go_at_call 7; refine (CT _).mono ?_; rintro e w1 ⟨rfl, h1⟩; replace h1 := h1.symm; subst h1; clear CT)
                      | (go_at_call 7; refine (CP _).mono ?_; rintro e w3 ⟨rfl, h3⟩; replace h3 := h3.symm; subst h3)
                      | (at_builtin; refine wpList_append_own _ rfl _ _ 27 rfl g 3 i3 (.int .i64 0) 1 8 und22 hi3 hz0 hz1 hz2 rfl (by decide) _ _ _ rfl (hown.alloc _) ⟨wr.heap.size, 0, none⟩ 1 1 [.int .i64 (x + y)] rfl rfl (fun j u hj => by (match j, hj with | 0, hj => simp at hj; subst hj; simp [Addr.add])) (fun u hu => by (simp at hu; subst hu; rfl)) (by (unfold maxLen; omega)) (by omega) (by (simp; omega)) ?_; intro v' w2 hown' hgrow _)
                      | go_in)
                    have hb2 : Below g w0 w2 := (hB.alloc (by omega) _).grown hgrow (by simp; omega) (fun k hk => (hown.lt k hk).1)
                    have hown2 : w2.ownsRow g 3 1 v' (j + 1) ((gT q (m + 1) (j + 1)).map (Value.int .i64)) := by
                      rw [gT_snoc, List.map_append, HSV.out]
                      exact hown'
                    clear hown' hgrow hown hB
                    go_roundw
                    case rel => exact ⟨j + 1, p2, by go_num, by omega, rfl, HP2, hown2, hb2⟩
                    case measure => simp [intOf]; omega
                  · have ds : decide (x + y ≤ 1000000000000000000) = false := by simpa using hs
                    have HSV : Hid (upT (gs q (m + 1) j) = -1) := by show _ = _; rw [HSu.out]; unfold suT; rw [if_neg (fun h => hs h.2.2)]
                    clear HSu
                    go_wp2_with (first
                      | (go_at_call 7; refine (CT _).mono ?_; rintro e w1 ⟨rfl, h1⟩; replace h1 := h1.symm; subst h1; clear CT)
                      | (go_at_call 7; refine (CP _).mono ?_; rintro e w3 ⟨rfl, h3⟩; replace h3 := h3.symm; subst h3)
                      | (at_builtin; refine wpList_append_own _ rfl _ _ 27 rfl g 3 i3 (.int .i64 0) 1 8 und22 hi3 hz0 hz1 hz2 rfl (by decide) _ _ _ rfl (hown.alloc _) ⟨wr.heap.size, 0, none⟩ 1 1 [.int .i64 (-1)] rfl rfl (fun j u hj => by (match j, hj with | 0, hj => simp at hj; subst hj; simp [Addr.add])) (fun u hu => by (simp at hu; subst hu; rfl)) (by (unfold maxLen; omega)) (by omega) (by (simp; omega)) ?_; intro v' w2 hown' hgrow _)
                      | go_in)
                    have hb2 : Below g w0 w2 := (hB.alloc (by omega) _).grown hgrow (by simp; omega) (fun k hk => (hown.lt k hk).1)
                    have hown2 : w2.ownsRow g 3 1 v' (j + 1) ((gT q (m + 1) (j + 1)).map (Value.int .i64)) := by
                      rw [gT_snoc, List.map_append, HSV.out]
                      exact hown'
                    clear hown' hgrow hown hB
                    go_roundw
                    case rel => exact ⟨j + 1, p2, by go_num, by omega, rfl, HP2, hown2, hb2⟩
                    case measure => simp [intOf]; omega
                · have dy : decide ((0 : Int) ≤ y) = false := by simpa using hy
                  have HSV : Hid (upT (gs q (m + 1) j) = -1) := by show _ = _; rw [HSu.out]; unfold suT; rw [if_neg (fun h => hy h.2.1)]
                  clear HSu
                  go_wp2_with (first
                    | (go_at_call 7; refine (CT _).mono ?_; rintro e w1 ⟨rfl, h1⟩; replace h1 := h1.symm; subst h1; clear CT)
                    | (go_at_call 7; refine (CP _).mono ?_; rintro e w3 ⟨rfl, h3⟩; replace h3 := h3.symm; subst h3)
                    | (at_builtin; refine wpList_append_own _ rfl _ _ 27 rfl g 3 i3 (.int .i64 0) 1 8 und22 hi3 hz0 hz1 hz2 rfl (by decide) _ _ _ rfl (hown.alloc _) ⟨wr.heap.size, 0, none⟩ 1 1 [.int .i64 (-1)] rfl rfl (fun j u hj => by (match j, hj with | 0, hj => simp at hj; subst hj; simp [Addr.add])) (fun u hu => by (simp at hu; subst hu; rfl)) (by (unfold maxLen; omega)) (by omega) (by (simp; omega)) ?_; intro v' w2 hown' hgrow _)
                    | go_in)
                  have hb2 : Below g w0 w2 := (hB.alloc (by omega) _).grown hgrow (by simp; omega) (fun k hk => (hown.lt k hk).1)
                  have hown2 : w2.ownsRow g 3 1 v' (j + 1) ((gT q (m + 1) (j + 1)).map (Value.int .i64)) := by
                    rw [gT_snoc, List.map_append, HSV.out]
                    exact hown'
                  clear hown' hgrow hown hB
                  go_roundw
                  case rel => exact ⟨j + 1, p2, by go_num, by omega, rfl, HP2, hown2, hb2⟩
                  case measure => simp [intOf]; omega
              · have dx : decide ((0 : Int) ≤ x) = false := by simpa using hx
                have HSV : Hid (upT (gs q (m + 1) j) = -1) := by show _ = _; rw [HSu.out]; unfold suT; rw [if_neg (fun h => hx h.1)]
                clear HSu
                go_wp2_with (first
                  | (go_at_call 7; refine (CT _).mono ?_; rintro e w1 ⟨rfl, h1⟩; replace h1 := h1.symm; subst h1; clear CT)
                  | (go_at_call 7; refine (CP _).mono ?_; rintro e w3 ⟨rfl, h3⟩; replace h3 := h3.symm; subst h3)
                  | (at_builtin; refine wpList_append_own _ rfl _ _ 27 rfl g 3 i3 (.int .i64 0) 1 8 und22 hi3 hz0 hz1 hz2 rfl (by decide) _ _ _ rfl (hown.alloc _) ⟨wr.heap.size, 0, none⟩ 1 1 [.int .i64 (-1)] rfl rfl (fun j u hj => by (match j, hj with | 0, hj => simp at hj; subst hj; simp [Addr.add])) (fun u hu => by (simp at hu; subst hu; rfl)) (by (unfold maxLen; omega)) (by omega) (by (simp; omega)) ?_; intro v' w2 hown' hgrow _)
                  | go_in)
                have hb2 : Below g w0 w2 := (hB.alloc (by omega) _).grown hgrow (by simp; omega) (fun k hk => (hown.lt k hk).1)
                have hown2 : w2.ownsRow g 3 1 v' (j + 1) ((gT q (m + 1) (j + 1)).map (Value.int .i64)) := by
                  rw [gT_snoc, List.map_append, HSV.out]
                  exact hown'
                clear hown' hgrow hown hB
                go_roundw
                case rel => exact ⟨j + 1, p2, by go_num, by omega, rfl, HP2, hown2, hb2⟩
                case measure => simp [intOf]; omega
            · have hdl : decide ((j : Int) < (m : Int) + 1) = false := by simp; omega
              have HJ : Hid (j = m + 1) := (by omega : j = m + 1)
              have hy1 : y = 1 := by
                have h : i = m := by have := Hi.out; omega
                rw [← Hy.out, h, HSl.out]; rfl
              subst hy1
              have HSV : Hid (upT (gs q (m + 1) j) = 1) := by show _ = _; rw [HJ.out, HSl.out]; rfl
              clear HRC HP HPos HPw HS1 HS0 HSl Hy Hi HJ
              go_wp2_with (first
                | (go_at_call 7; refine (CP _).mono ?_; rintro e w3 ⟨rfl, h3⟩; replace h3 := h3.symm; subst h3)
                | (at_builtin; refine wpList_append_own _ rfl _ _ 27 rfl g 3 i3 (.int .i64 0) 1 8 und22 hi3 hz0 hz1 hz2 rfl (by decide) _ _ _ rfl (hown.alloc _) ⟨wr.heap.size, 0, none⟩ 1 1 [.int .i64 (1)] rfl rfl (fun j u hj => by (match j, hj with | 0, hj => simp at hj; subst hj; simp [Addr.add])) (fun u hu => by (simp at hu; subst hu; rfl)) (by (unfold maxLen; omega)) (by omega) (by (simp; omega)) ?_; intro v' w2 hown' hgrow _)
                | go_in)
              have hb2 : Below g w0 w2 := (hB.alloc (by omega) _).grown hgrow (by simp; omega) (fun k hk => (hown.lt k hk).1)
              have hown2 : w2.ownsRow g 3 1 v' (j + 1) ((gT q (m + 1) (j + 1)).map (Value.int .i64)) := by
                rw [gT_snoc, List.map_append, HSV.out]
                exact hown'
              clear hown' hgrow hown hB
              go_roundw
              case rel => exact ⟨j + 1, p2, by go_num, by omega, rfl, HP2, hown2, hb2⟩
              case measure => simp [intOf]; omega
        · have hdj : decide ((j : Int) ≤ (m : Int) + 1) = false := by simp; omega
          obtain rfl : j = m + 2 := by omega
          have hS : Sl wr _ (gT q (m + 1) (m + 2)) := Sl.owned (by rw [gT_len]; exact hown)
          have hBB : Below w.heap.size w wr := HB0.out.trans (hB.mono (by have := HB0.out.size; rw [Hg.out] at this; exact this))
          clear hown hB
          go_wp2
          go_roundw
          case rel => exact ⟨m + 1, by go_num, by omega, hS, hBB⟩
          case measure => simp [intOf]; omega
    · have hdm : decide ((m : Int) + 1 ≤ (n : Int)) = false := by simp; omega
      obtain rfl : m = n := by omega
      have hkk : (k : Int) < (m : Int) + 1 := by omega
      have c1 := hRc k (by omega)
      rw [gT_at q m (by omega)] at c1
      go_wp2
      go_ret
      exact ⟨rfl, hB0⟩
end Go.Proofs.Ytgdkfbgehbdkjaa
