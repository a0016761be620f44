/- The law DifferOther. -/
import Derived.Test.YtogdcjlgddleaaaL6
namespace Go.Proofs.Ytogdcjlgddleaaa
open Go.RowKit Go.Maps

set_option maxRecDepth 100000 in
set_option maxHeartbeats 16000000 in
theorem Other_ok (v : Nat) (t s : Int) (D : List Nat) (u : Value) (w : World) (hG : GoodS v D) (hu : Sl w u (D.map Int.ofNat)) (hlv : lvB v D = true) :
    Calls Try.prog 6 #[.int .i64 (v : Int), u, .int .i64 t, .int .i64 s] w fun e w' => e = .returned (.bool true) ∧ Below w.heap.size w w' := by
  have H14 : Hid (∀ W, Calls Try.prog 14 #[] W fun e w' => e = .returned (.bool true) ∧ Below W.heap.size W w') := fun W => FactD_any W
  have H9 : Hid (∀ W, Below w.heap.size w W → Calls Try.prog 9 #[.int .i64 (v : Int), u] W fun e w' => e = .returned (.tuple #[.int .i64 (dfN v D 1 : Int), .int .i64 0]) ∧ Below W.heap.size W w') := fun W h => by
    have := Level_main' v D u W hG (hu.below h)
    rw [show lvL v D = dfN v D 1 from if_pos hlv, show lvE v D = 0 from if_pos hlv] at this
    exact this
  obtain ⟨hre, hrl⟩ := rest_lv hG hlv
  have H9r : Hid (∀ (x : Value) (W : World), ORow W 0 x (oth v D) → Calls Try.prog 9 #[.int .i64 (v : Int), x] W fun e w' => e = .returned (.tuple #[.int .i64 (lvL v (oth v D) : Int), .int .i64 0]) ∧ Below W.heap.size W w') := fun x W hx => by
    have := Level_main' v (oth v D) x W (good_rest hG) hx.sl
    rw [hre] at this
    exact this
  obtain ⟨r, G, hr, hrg, hG1, hG2, hr1, hr2⟩ := rem_up hG.pos t
  obtain ⟨q, S, hq, hqs, hS1, hS2, hq1, hq2⟩ := rem_up hG.pos s
  have H19 : Hid (∀ W, Below w.heap.size w W → Calls Try.prog 19 #[.int .i64 (v : Int), u, .int .i64 (G : Int), .int .i64 (S : Int)] W fun e w' => ∃ x, e = .returned x ∧ ORow w' W.heap.size x (s3 (D.map (mvN v G S))) ∧ Below W.heap.size W w') := fun W h => Shifted_any v G S D u W hG (hu.below h) (by have := hG.le; omega) (by have := hG.le; omega)
  have H9m : Hid (Nat.gcd G v = 1 → ∀ (x : Value) (W : World), ORow W 0 x (s3 (D.map (mvN v G S))) → Calls Try.prog 9 #[.int .i64 (v : Int), x] W fun e w' => e = .returned (.tuple #[.int .i64 (dfN v D 1 : Int), .int .i64 0]) ∧ Below W.heap.size W w') := fun hc x W hx => by
    have := Level_main' v _ x W (good_moved hG hc) hx.sl
    rw [(moved_lv hG hc hlv).1, (moved_lv hG hc hlv).2] at this
    exact this
  have HGc : Hid ((∀ x, 2 ≤ x → x ≤ v → ¬ (v % x = 0 ∧ G % x = 0)) → Nat.gcd G v = 1) := gcd_one hG.pos
  have H18 : Hid (∀ (x : Nat) (W : World) (b : Bool), D.contains x = b → Below w.heap.size w W → Calls Try.prog 18 #[u, .int .i64 (x : Int)] W fun e w' => e = .returned (.bool b) ∧ w' = W) := fun x W b hb h => Lies_any D x b u W (hu.below h) (by have := hG.len; have := hG.le; omega) hb
  have h1 := hG.pos
  have h60 := hG.le
  have hlen := hG.len
  have hlo := (good_rest hG).len
  have hdl := dfN_le hG 1
  obtain ⟨i3, hi3, hz0, hz1, hz2⟩ := info3
  obtain ⟨a, ca, rfl, _⟩ := sl_at hu
  obtain ⟨F, HF⟩ : ∃ F : Nat → List Nat, Hid (∀ k, (List.range k).filter (fun x => !D.contains x) = F k) := ⟨fun k => (List.range k).filter (fun x => !D.contains x), fun _ => rfl⟩
  have HU : Hid (∀ k, F (k + 1) = F k ++ if (!D.contains k) = true then [k] else []) := fun k => by rw [← HF.out, ← HF.out]; exact ran_up _ k
  have HLn : Hid (∀ k, (F k).length ≤ k) := fun k => by rw [← HF.out]; exact Nat.le_trans (List.length_filter_le _ _) (by simp)
  have HF0 : Hid (F 0 = []) := by show F 0 = []; rw [← HF.out]; rfl
  have HFv : Hid (F v = oth v D) := by show F v = oth v D; rw [← HF.out]; rfl
  obtain ⟨l, Hl⟩ : ∃ l, Hid (dfN v D 1 = l) := ⟨_, rfl⟩
  rw [Hl.out] at H9 H9m hrl hdl
  obtain ⟨m, Hm⟩ : ∃ m, Hid (lvL v (oth v D) = m) := ⟨_, rfl⟩
  rw [Hm.out] at H9r hrl
  generalize oth v D = R at *
  obtain ⟨Z, HZ⟩ : ∃ Z, Hid (s3 (D.map (mvN v G S)) = Z) := ⟨_, rfl⟩
  rw [HZ.out] at H19 H9m
  obtain ⟨kk, Hkk⟩ : ∃ kk, Hid (D.length = kk) := ⟨_, rfl⟩
  rw [Hkk.out] at H9 H18 H19 hlen hrl ⊢
  obtain ⟨g, Hg⟩ : ∃ g, Hid (w.heap.size = g) := ⟨_, rfl⟩
  rw [Hg.out] at H9 H18 H19 ⊢
  have HM : Hid (2 ≤ v → (m : Int) = (v : Int) - 2 * (kk : Int) + (l : Int)) := fun h => by have := hrl h; omega
  have hgw : w.heap.size = g := Hg.out
  have hv0 : (v : Int) ≠ 0 := by omega
  have hw4 : ¬ v = 0 := by omega
  clear hu hG hlv HF hrl hre HZ Hm Hl
  go_enter Try.func6, Try.ntmps6
  go_wp2_with (first
    | (go_at_call 14; refine (H14.out _).mono ?_; rintro e w1 ⟨rfl, hb⟩; clear H14; rw [hgw] at hb; have HB1 : Hid (Below g w w1) := hb; clear hb)
    | (go_at_call 9; refine (H9.out _ HB1.out).mono ?_; rintro e w2 ⟨rfl, hb⟩; clear H9; have HB2 : Hid (Below g w w2) := HB1.out.trans (hb.mono (by rw [← hgw]; exact HB1.out.size)); clear hb)
    | go_in)
  go_loopw [12, 13] (fun ov xv wr => ∃ x : Nat, xv = .int .i64 (x : Int) ∧ x ≤ v ∧ ORow wr g ov (F x) ∧ Below g w wr) (fun _ xv _ => (v - intOf xv).toNat)
  case atStart => exact ⟨0, rfl, by omega, by rw [HF0.out]; exact World.ownsRow_nil _ _ _ _, HB2.out⟩
  case round =>
    clear HB1 HB2 HF0
    obtain ⟨x, rfl, hx, hown, hB⟩ := hrel
    have hgs : g ≤ wr.heap.size := by rw [← hgw]; exact hB.size
    by_cases hlt : x < v
    · have hdi : decide ((x : Int) < (v : Int)) = true := by simp; omega
      have hii : (x : Int) < (v : Int) := by omega
      have hU := HU.out x
      have hL := HLn.out x
      cases hin : D.contains x
      · have C18 := H18.out x wr false hin hB
        rw [hin] at hU
        have HUU : Hid (F (x + 1) = F x ++ [x]) := by show _ = _; rw [hU]; simp
        obtain ⟨ll, Hll⟩ : ∃ ll, Hid (F x = ll) := ⟨_, rfl⟩
        rw [Hll.out] at HUU hL hown
        unfold ORow at hown
        obtain ⟨oa, oc, rfl⟩ := own_form hown
        clear hU hin H18 HU HLn HFv H9r H19 H9m HGc HM Hll
        go_wp2_with (first
          | (go_at_call 18; refine C18.mono ?_; rintro e w2 ⟨rfl, rfl⟩; clear C18)
          | (at_builtin; refine wpList_append_own _ rfl _ _ 22 rfl g 3 i3 (.int .i64 0) 1 8 und22 hi3 hz0 hz1 hz2 rfl (by decide) _ _ _ rfl (hown.alloc _) ⟨w2.heap.size, 0, none⟩ 1 1 [.int .i64 (x : Int)] rfl rfl (fun j u hj => by (match j, hj with | 0, hj => simp at hj; subst hj; simp [Addr.add])) (fun u hu => by (simp at hu; subst hu; rfl)) (by (unfold maxLen; omega)) (by omega) (by (simp; omega)) ?_; intro v' w4 hown' hgrow _)
          | go_in)
        have hb4 : Below g w w4 := (hB.alloc (by omega) _).grown hgrow (by simp; omega) (fun k hk => (hown.lt k hk).1)
        have hown4 : w4.ownsRow g 3 1 v' (ll.length + 1) (((ll ++ [x]).map Int.ofNat).map (Value.int .i64)) := by simpa using hown'
        have hown5 : ORow w4 g v' (F (x + 1)) := by
          rw [HUU.out]
          unfold ORow
          rw [List.length_append]
          exact hown4
        clear hown' hown4 hgrow hown hB
        go_roundw
        case rel => exact ⟨x + 1, by go_num, by omega, hown5, hb4⟩
        case measure => simp [intOf]; omega
      · have C18 := H18.out x wr true hin hB
        rw [hin] at hU
        have HUU : Hid (F (x + 1) = F x) := by show _ = _; rw [hU]; simp
        clear hU hin H18 HU HLn HFv H9r H19 H9m HGc HM
        go_wp2_with (first
          | (go_at_call 18; refine C18.mono ?_; rintro e w2 ⟨rfl, rfl⟩; clear C18)
          | go_in)
        go_roundw
        case rel => exact ⟨x + 1, by go_num, by omega, by rw [HUU.out]; exact hown, hB⟩
        case measure => simp [intOf]; omega
    · have hdi : decide ((x : Int) < (v : Int)) = false := by simp; omega
      obtain rfl : x = v := by omega
      rw [HFv.out] at hown
      have C9r := H9r.out _ wr (own_low hown (Nat.zero_le _))
      unfold ORow at hown
      obtain ⟨oa, oc, rfl⟩ := own_form hown
      generalize hRl : R.length = rl at *
      clear H9r hown H18 HU HLn HFv hlt hRl
      by_cases h2 : 2 ≤ x
      · have hm2 := HM.out h2
        have d1 : decide (1 < (x : Int)) = true := by simp; omega
        have d2 : (1 : Int) < (x : Int) := by omega
        have HMM : Hid ((x : Int) - 2 * (kk : Int) + (l : Int) = (m : Int)) := hm2.symm
        have hmm := HMM.out
        clear HM hm2
        go_wp2_with (first
          | (go_at_call 9; refine C9r.mono ?_; rintro e w2 ⟨rfl, hb⟩; clear C9r; have HB2 : Hid (Below g w w2) := hB.trans (hb.mono hgs); clear hb)
          | go_in)
        have hxw := hw4
        go_loopw [17] (fun yv wr' => ∃ y : Nat, yv = .int .i64 (y : Int) ∧ 2 ≤ y ∧ (y ≤ x + 1 ∨ y = 2) ∧ Hid (∀ d, 2 ≤ d → d < y → d ≤ x → ¬ (x % d = 0 ∧ G % d = 0)) ∧ wr' = w2) (fun yv _ => (x + 1 - intOf yv).toNat)
        case atStart => exact ⟨2, rfl, by omega, .inr rfl, (show ∀ d, 2 ≤ d → d < 2 → d ≤ x → _ from fun d h1 h2 => by omega), rfl⟩
        case round =>
          obtain ⟨y, rfl, hy2, hyx, HI, rfl⟩ := hrel
          by_cases hly : y ≤ x
          · have hdy : decide ((y : Int) ≤ (x : Int)) = true := by simp; omega
            have hyi : (y : Int) ≤ (x : Int) := by omega
            have hy0 : (y : Int) ≠ 0 := by omega
            have hy0' : ¬ y = 0 := by omega
            obtain ⟨r1, Hr1⟩ : ∃ r, Hid (x % y = r) := ⟨_, rfl⟩
            obtain ⟨r3, Hr3⟩ : ∃ r, Hid (G % y = r) := ⟨_, rfl⟩
            have m1 : (x : Int) % (y : Int) = (r1 : Int) := by rw [← Hr1.out]; simp
            have m2 : (G : Int) % (y : Int) = (r3 : Int) := by rw [← Hr3.out]; simp
            have m1' : (x : Int).tmod (y : Int) = (r1 : Int) := by rw [Int.tmod_eq_emod_of_nonneg (by omega)]; exact m1
            have m2' : (G : Int).tmod (y : Int) = (r3 : Int) := by rw [Int.tmod_eq_emod_of_nonneg (by omega)]; exact m2
            by_cases e1 : r1 = 0
            · by_cases e2 : r3 = 0
              · subst e1
                subst e2
                clear HI H19 H9m HGc
                go_wp2
                go_ret
                exact ⟨rfl, HB2.out⟩
              · subst e1
                have e3 : ¬ (r3 : Int) = 0 := by omega
                have e4 : ((r3 : Int) == 0) = false := by simpa using e3
                have HI2 : Hid (∀ d, 2 ≤ d → d < y + 1 → d ≤ x → ¬ (x % d = 0 ∧ G % d = 0)) := fun d h1 h2 h3 => by
                  by_cases e : d = y
                  · subst e; rw [Hr3.out]; exact fun h => e2 h.2
                  · exact HI.out d h1 (by omega) h3
                clear HI H19 H9m HGc
                go_wp2
                go_roundw
                case rel => exact ⟨y + 1, by go_num, by omega, .inl (by omega), HI2, by first | rfl | trivial⟩
                case measure => simp [intOf]; omega
            · have e3 : ¬ (r1 : Int) = 0 := by omega
              have e4 : ((r1 : Int) == 0) = false := by simpa using e3
              have HI2 : Hid (∀ d, 2 ≤ d → d < y + 1 → d ≤ x → ¬ (x % d = 0 ∧ G % d = 0)) := fun d h1 h2 h3 => by
                by_cases e : d = y
                · subst e; rw [Hr1.out]; exact fun h => e1 h.1
                · exact HI.out d h1 (by omega) h3
              clear HI H19 H9m HGc
              go_wp2
              go_roundw
              case rel => exact ⟨y + 1, by go_num, by omega, .inl (by omega), HI2, by first | rfl | trivial⟩
              case measure => simp [intOf]; omega
          · have hdy : decide ((y : Int) ≤ (x : Int)) = false := by simp; omega
            have hyi : ¬ (y : Int) ≤ (x : Int) := by omega
            have hc := HGc.out fun d h1 h2 => HI.out d h1 (by omega) h2
            have HMv := H9m.out hc
            have HMW : Hid (∀ (x_1 : Value) (W : World), ORow W 0 x_1 Z → Calls Try.prog 9 #[.int .i64 (x : Int), x_1] W fun e w' => e = .returned (.tuple #[.int .i64 (l : Int), .int .i64 0]) ∧ Below W.heap.size W w') := HMv
            have C19 := H19.out _ HB2.out
            clear HI HGc H9m H19 hc HMv
            go_wp2_with (first
              | (go_at_call 19; refine C19.mono ?_; rintro e w5 ⟨z, rfl, hz5, hb⟩; clear C19; have C9 := HMW.out z w5 (own_low hz5 (Nat.zero_le _)); have HB5 : Hid (Below g w w5) := HB2.out.trans (hb.mono (by rw [← hgw]; exact HB2.out.size)); clear hb hz5 HMW)
              | (go_at_call 9; refine C9.mono ?_; rintro e w6 ⟨rfl, hb⟩; clear C9; have HB6 : Hid (Below g w w6) := HB5.out.trans (hb.mono (by rw [← hgw]; exact HB5.out.size)); clear hb)
              | go_in)
            go_ret
            exact ⟨by simp, HB6.out⟩
      · have d1 : decide (1 < (x : Int)) = false := by simp; omega
        have d2 : ¬ (1 : Int) < (x : Int) := by omega
        clear HM
        go_wp2_with (first
          | (go_at_call 9; refine C9r.mono ?_; rintro e w2 ⟨rfl, hb⟩; clear C9r; have HB2 : Hid (Below g w w2) := hB.trans (hb.mono hgs); clear hb)
          | go_in)
        have hxw := hw4
        go_loopw [17] (fun yv wr' => ∃ y : Nat, yv = .int .i64 (y : Int) ∧ 2 ≤ y ∧ (y ≤ x + 1 ∨ y = 2) ∧ Hid (∀ d, 2 ≤ d → d < y → d ≤ x → ¬ (x % d = 0 ∧ G % d = 0)) ∧ wr' = w2) (fun yv _ => (x + 1 - intOf yv).toNat)
        case atStart => exact ⟨2, rfl, by omega, .inr rfl, (show ∀ d, 2 ≤ d → d < 2 → d ≤ x → _ from fun d h1 h2 => by omega), rfl⟩
        case round =>
          obtain ⟨y, rfl, hy2, hyx, HI, rfl⟩ := hrel
          by_cases hly : y ≤ x
          · have hdy : decide ((y : Int) ≤ (x : Int)) = true := by simp; omega
            have hyi : (y : Int) ≤ (x : Int) := by omega
            have hy0 : (y : Int) ≠ 0 := by omega
            have hy0' : ¬ y = 0 := by omega
            obtain ⟨r1, Hr1⟩ : ∃ r, Hid (x % y = r) := ⟨_, rfl⟩
            obtain ⟨r3, Hr3⟩ : ∃ r, Hid (G % y = r) := ⟨_, rfl⟩
            have m1 : (x : Int) % (y : Int) = (r1 : Int) := by rw [← Hr1.out]; simp
            have m2 : (G : Int) % (y : Int) = (r3 : Int) := by rw [← Hr3.out]; simp
            have m1' : (x : Int).tmod (y : Int) = (r1 : Int) := by rw [Int.tmod_eq_emod_of_nonneg (by omega)]; exact m1
            have m2' : (G : Int).tmod (y : Int) = (r3 : Int) := by rw [Int.tmod_eq_emod_of_nonneg (by omega)]; exact m2
            by_cases e1 : r1 = 0
            · by_cases e2 : r3 = 0
              · subst e1
                subst e2
                clear HI H19 H9m HGc
                go_wp2
                go_ret
                exact ⟨rfl, HB2.out⟩
              · subst e1
                have e3 : ¬ (r3 : Int) = 0 := by omega
                have e4 : ((r3 : Int) == 0) = false := by simpa using e3
                have HI2 : Hid (∀ d, 2 ≤ d → d < y + 1 → d ≤ x → ¬ (x % d = 0 ∧ G % d = 0)) := fun d h1 h2 h3 => by
                  by_cases e : d = y
                  · subst e; rw [Hr3.out]; exact fun h => e2 h.2
                  · exact HI.out d h1 (by omega) h3
                clear HI H19 H9m HGc
                go_wp2
                go_roundw
                case rel => exact ⟨y + 1, by go_num, by omega, .inl (by omega), HI2, by first | rfl | trivial⟩
                case measure => simp [intOf]; omega
            · have e3 : ¬ (r1 : Int) = 0 := by omega
              have e4 : ((r1 : Int) == 0) = false := by simpa using e3
              have HI2 : Hid (∀ d, 2 ≤ d → d < y + 1 → d ≤ x → ¬ (x % d = 0 ∧ G % d = 0)) := fun d h1 h2 h3 => by
                by_cases e : d = y
                · subst e; rw [Hr1.out]; exact fun h => e1 h.1
                · exact HI.out d h1 (by omega) h3
              clear HI H19 H9m HGc
              go_wp2
              go_roundw
              case rel => exact ⟨y + 1, by go_num, by omega, .inl (by omega), HI2, by first | rfl | trivial⟩
              case measure => simp [intOf]; omega
          · have hdy : decide ((y : Int) ≤ (x : Int)) = false := by simp; omega
            have hyi : ¬ (y : Int) ≤ (x : Int) := by omega
            have hc := HGc.out fun d h1 h2 => HI.out d h1 (by omega) h2
            have HMv := H9m.out hc
            have HMW : Hid (∀ (x_1 : Value) (W : World), ORow W 0 x_1 Z → Calls Try.prog 9 #[.int .i64 (x : Int), x_1] W fun e w' => e = .returned (.tuple #[.int .i64 (l : Int), .int .i64 0]) ∧ Below W.heap.size W w') := HMv
            have C19 := H19.out _ HB2.out
            clear HI HGc H9m H19 hc HMv
            go_wp2_with (first
              | (go_at_call 19; refine C19.mono ?_; rintro e w5 ⟨z, rfl, hz5, hb⟩; clear C19; have C9 := HMW.out z w5 (own_low hz5 (Nat.zero_le _)); have HB5 : Hid (Below g w w5) := HB2.out.trans (hb.mono (by rw [← hgw]; exact HB2.out.size)); clear hb hz5 HMW)
              | (go_at_call 9; refine C9.mono ?_; rintro e w6 ⟨rfl, hb⟩; clear C9; have HB6 : Hid (Below g w w6) := HB5.out.trans (hb.mono (by rw [← hgw]; exact HB5.out.size)); clear hb)
              | go_in)
            go_ret
            exact ⟨by simp, HB6.out⟩
theorem Other_law (p t s : Int) (b : List Int) (u : Value) (w : World) (hu : Sl w u b) (hbl : b.length ≤ maxLen) :
    Calls Try.prog 6 #[.int .i64 p, u, .int .i64 t, .int .i64 s] w fun e w' => e = .returned (.bool true) ∧ Below w.heap.size w w' := by
  have hform : ∃ a c, u = .slice a b.length c := by obtain ⟨a, c, rfl, _⟩ := hu; exact ⟨a, c, rfl⟩
  by_cases hz : sF p b = 0
  · obtain ⟨v, D, rfl, rfl, hG⟩ := sF_good hz
    rcases lvE_cases v D with ⟨h1, _, _⟩ | h4
    · exact Other_ok v t s D u w hG hu h1
    · refine Other_early (v : Int) t s u w _ 4 (by omega) hform fun W hW => (Level_main' v D u W hG (hu.below hW)).mono ?_
      rintro e w' ⟨rfl, hb⟩
      exact ⟨⟨_, by rw [h4]⟩, hb⟩
  · refine Other_early p t s u w _ _ hz hform fun W hW => (Level_bad' p b u W _ hz hform (CheckS_any p b u W (hu.below hW) hbl)).mono ?_
    rintro e w' ⟨rfl, hb⟩
    exact ⟨⟨_, rfl⟩, hb⟩

end Go.Proofs.Ytogdcjlgddleaaa
