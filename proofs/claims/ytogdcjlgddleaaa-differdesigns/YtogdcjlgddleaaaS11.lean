/- The walk of the document's MultipliersOf. -/
import Derived.Test.YtogdcjlgddleaaaS9
import Derived.Test.YtogdcjlgddleaaaS10
import Derived.Test.YtogdcjlgddleaaaP14
namespace Go.Proofs.Ytogdcjlgddleaaa
open Go.RowKit Go.Maps

/-- Is t times the set the set with one of the first k more? -/
def anS (v : Nat) (D : List Nat) (t k : Nat) : Bool := (List.range k).any fun s => decide (s3 (D.map (mvN v 1 s)) = s3 (D.map (mvN v t 0)))
theorem anS_zero (v : Nat) (D : List Nat) (t : Nat) : anS v D t 0 = false := rfl
theorem anS_up (v : Nat) (D : List Nat) (t k : Nat) : anS v D t (k + 1) = (anS v D t k || decide (s3 (D.map (mvN v 1 k)) = s3 (D.map (mvN v t 0)))) := by
  unfold anS
  rw [List.range_succ, List.any_append]
  simp
theorem anS_mono {v : Nat} {D : List Nat} {t k : Nat} (hk : k ≤ v) (h : anS v D t k = true) : anS v D t v = true := by
  unfold anS at h ⊢
  obtain ⟨s, hs, e⟩ := List.any_eq_true.1 h
  exact List.any_eq_true.2 ⟨s, List.mem_range.2 (Nat.lt_of_lt_of_le (List.mem_range.1 hs) hk), e⟩
theorem anS_mu {v : Nat} {D : List Nat} {t : Nat} (hG : GoodS v D) (hc : Nat.gcd t v = 1) : anS v D t v = muB v D t := by
  rw [Bool.eq_iff_iff, muB_iff hG hc]
  unfold anS
  rw [List.any_eq_true]
  constructor
  · rintro ⟨s, hs, e⟩
    exact ⟨s, List.mem_range.1 hs, of_decide_eq_true e⟩
  · rintro ⟨s, hs, e⟩
    exact ⟨s, List.mem_range.2 hs, decide_eq_true e⟩
set_option maxRecDepth 100000 in
set_option maxHeartbeats 8000000 in
theorem MultipliersOf_any (v : Nat) (D : List Nat) (u : Value) (w : World) (hG : GoodS v D) (hu : Sl w u (D.map Int.ofNat)) :
    Calls Try.prog 12 #[.int .i64 (v : Int), u] w fun e w' => ∃ x, e = .returned x ∧ ORow w' w.heap.size x (muL v D) ∧ Below w.heap.size w w' := by
  have HS0 : Hid (∀ (t : Nat) (W : World), t < 60 → Below w.heap.size w W → Calls Try.prog 19 #[.int .i64 (v : Int), u, .int .i64 (t : Int), .int .i64 0] W fun e w' => ∃ x, e = .returned x ∧ ORow w' W.heap.size x (s3 (D.map (mvN v t 0))) ∧ Below W.heap.size W w') := fun t W ht b => by
    have h0 := Shifted_any v t 0 D u W hG (hu.below b) (by omega) (by omega)
    rw [show ((0 : Nat) : Int) = 0 from rfl] at h0
    exact h0
  have HS1 : Hid (∀ (s : Nat) (W : World), s < 60 → Below w.heap.size w W → Calls Try.prog 19 #[.int .i64 (v : Int), u, .int .i64 1, .int .i64 (s : Int)] W fun e w' => ∃ x, e = .returned x ∧ ORow w' W.heap.size x (s3 (D.map (mvN v 1 s))) ∧ Below W.heap.size W w') := fun s W hs b => by
    have h0 := Shifted_any v 1 s D u W hG (hu.below b) (by omega) (by omega)
    rw [show ((1 : Nat) : Int) = 1 from rfl] at h0
    exact h0
  have HD : Hid (∀ (t : Nat) (W : World), t < 60 → Calls Try.prog 24 #[.int .i64 (t : Int), .int .i64 (v : Int)] W fun e w' => e = .returned (.int .i64 ((Nat.gcd t v : Nat) : Int)) ∧ Below W.heap.size W w') := fun t W ht => common_any t v W (by omega) (by have := hG.le; omega)
  have HQ : Hid (∀ (t s : Nat) (x y : Value) (W : World), Sl W x ((s3 (D.map (mvN v 1 s))).map Int.ofNat) → Sl W y ((s3 (D.map (mvN v t 0))).map Int.ofNat) → Calls Try.prog 13 #[x, y] W fun e w' => e = .returned (.bool (decide (s3 (D.map (mvN v 1 s)) = s3 (D.map (mvN v t 0))))) ∧ Below W.heap.size W w') := fun t s x y W hx hy => by
    have h99 : ∀ a b, ((s3 (D.map (mvN v a b))).map Int.ofNat).length ≤ maxLen := fun a b => by
      rw [List.length_map, s3_len, List.length_map]; unfold maxLen; have := hG.len; have := hG.le; omega
    refine (ints_any _ _ x y W hx hy (h99 _ _) (h99 _ _)).mono ?_
    rintro e w' ⟨b, rfl, hb, hB⟩
    refine ⟨?_, hB⟩
    have hinj : ∀ a b : List Nat, a.map Int.ofNat = b.map Int.ofNat ↔ a = b := fun a b => ⟨fun h => by
      have := congrArg (List.map Int.toNat) h
      simpa [List.map_map, Function.comp_def] using this, fun h => by rw [h]⟩
    rw [show b = decide (s3 (D.map (mvN v 1 s)) = s3 (D.map (mvN v t 0))) from by rw [Bool.eq_iff_iff, hb, hinj, decide_eq_true_eq]]
  have HU : Hid (∀ k, 1 ≤ k → mulT v D (k + 1) = mulT v D k ++ if (Nat.gcd k v == 1 && muB v D k) = true then [k] else []) := fun k h => mulT_up h
  have HL : Hid (∀ k, (mulT v D k).length ≤ k) := mulT_len v D
  have H1 : Hid (mulT v D 1 = []) := mulT_one v D
  have HA : Hid (mulT v D v = muL v D) := mulT_all v D
  have HN0 : Hid (∀ t, anS v D t 0 = false) := fun t => anS_zero v D t
  have HN1 : Hid (∀ t k, anS v D t (k + 1) = (anS v D t k || decide (s3 (D.map (mvN v 1 k)) = s3 (D.map (mvN v t 0))))) := fun t k => anS_up v D t k
  have HN2 : Hid (∀ t k, k ≤ v → anS v D t k = true → anS v D t v = true) := fun t k h1 h2 => anS_mono h1 h2
  have HN3 : Hid (∀ t, Nat.gcd t v = 1 → anS v D t v = muB v D t) := fun t h => anS_mu hG h
  obtain ⟨R, HR⟩ : ∃ R, Hid (muL v D = R) := ⟨_, rfl⟩
  rw [HR.out] at HA ⊢
  obtain ⟨ls, Hls⟩ : ∃ ls : Nat → List Nat, Hid (∀ s, s3 (D.map (mvN v 1 s)) = ls s) := ⟨fun s => s3 (D.map (mvN v 1 s)), fun _ => rfl⟩
  obtain ⟨ms, Hms⟩ : ∃ ms : Nat → List Nat, Hid (∀ t, s3 (D.map (mvN v t 0)) = ms t) := ⟨fun t => s3 (D.map (mvN v t 0)), fun _ => rfl⟩
  have HS0' : Hid (∀ (t : Nat) (W : World), t < 60 → Below w.heap.size w W → Calls Try.prog 19 #[.int .i64 (v : Int), u, .int .i64 (t : Int), .int .i64 0] W fun e w' => ∃ x, e = .returned x ∧ ORow w' W.heap.size x (ms t) ∧ Below W.heap.size W w') := fun t W ht b => by rw [← Hms.out]; exact HS0.out t W ht b
  have HS1' : Hid (∀ (s : Nat) (W : World), s < 60 → Below w.heap.size w W → Calls Try.prog 19 #[.int .i64 (v : Int), u, .int .i64 1, .int .i64 (s : Int)] W fun e w' => ∃ x, e = .returned x ∧ ORow w' W.heap.size x (ls s) ∧ Below W.heap.size W w') := fun s W ht b => by rw [← Hls.out]; exact HS1.out s W ht b
  have HQ' : Hid (∀ (t s : Nat) (x y : Value) (W : World), ORow W 0 x (ls s) → ORow W 0 y (ms t) → Calls Try.prog 13 #[x, y] W fun e w' => e = .returned (.bool (decide (ls s = ms t))) ∧ Below W.heap.size W w') := fun t s x y W hx hy => by
    have := HQ.out t s x y W (by rw [Hls.out]; exact hx.sl) (by rw [Hms.out]; exact hy.sl)
    rw [Hls.out, Hms.out] at this
    exact this
  have HN1' : Hid (∀ t k, anS v D t (k + 1) = (anS v D t k || decide (ls k = ms t))) := fun t k => by rw [← Hls.out, ← Hms.out]; exact HN1.out t k
  clear HS0 HS1 HQ HN1 Hls Hms
  have h1 := hG.pos
  have h60 := hG.le
  obtain ⟨i3, hi3, hz0, hz1, hz2⟩ := info3
  obtain ⟨a, ca, rfl, _⟩ := sl_at hu
  obtain ⟨g, Hg⟩ : ∃ g, Hid (w.heap.size = g) := ⟨_, rfl⟩
  rw [Hg.out] at HS0' HS1' ⊢
  generalize D.length = n at *
  have hgw : w.heap.size = g := Hg.out
  clear hu hG
  go_enter Try.func12, Try.ntmps12
  go_wp2
  go_loopw [5, 6] (fun ov tv wr => ∃ t : Nat, tv = .int .i64 (t : Int) ∧ 1 ≤ t ∧ (t ≤ v ∨ t = 1) ∧ ORow wr g ov (mulT v D t) ∧ Below g w wr) (fun _ tv _ => (v - intOf tv).toNat)
  case atStart => exact ⟨1, rfl, by omega, .inr rfl, by rw [H1.out]; exact World.ownsRow_nil _ _ _ _, by rw [← hgw]; exact Below.refl _ _⟩
  case round =>
    clear H1
    obtain ⟨t, rfl, ht1, htv, hown, hB⟩ := hrel
    have hgs : g ≤ wr.heap.size := by rw [← hgw]; exact hB.size
    by_cases hlt : t < v
    · have hdi : decide ((t : Int) < (v : Int)) = true := by simp; omega
      have hii : (t : Int) < (v : Int) := by omega
      have CD := HD.out t wr (by omega)
      have HCS : Hid (∀ W, Below g w W → Calls Try.prog 19 #[.int .i64 (v : Int), .slice a n ca, .int .i64 (t : Int), .int .i64 0] W fun e w' => ∃ x, e = .returned x ∧ ORow w' W.heap.size x (ms t) ∧ Below W.heap.size W w') := fun W b => HS0'.out t W (by omega) b
      have hU := HU.out t ht1
      have hL := HL.out t
      have hN3 := HN3.out t
      obtain ⟨z, Hz⟩ : ∃ z, Hid (Nat.gcd t v = z) := ⟨_, rfl⟩
      rw [Hz.out] at CD hU hN3
      obtain ⟨l, Hl⟩ : ∃ l, Hid (mulT v D t = l) := ⟨_, rfl⟩
      rw [Hl.out] at hU hL hown
      by_cases hz : z = 1
      · subst hz
        have hN3' := hN3 rfl
        have HUU : Hid (mulT v D (t + 1) = l ++ if anS v D t v = true then [t] else []) := by show _ = _; rw [hU, hN3']; simp
        have HM0 : Hid (anS v D t 0 = false) := HN0.out t
        have HMu : Hid (∀ k, anS v D t (k + 1) = (anS v D t k || decide (ls k = ms t))) := HN1'.out t
        have HMm : Hid (∀ k, k ≤ v → anS v D t k = true → anS v D t v = true) := HN2.out t
        have HQt : Hid (∀ (s : Nat) (x y : Value) (W : World), ORow W 0 x (ls s) → ORow W 0 y (ms t) → Calls Try.prog 13 #[x, y] W fun e w' => e = .returned (.bool (decide (ls s = ms t))) ∧ Below W.heap.size W w') := HQ'.out t
        obtain ⟨A, HAA⟩ : ∃ A : Nat → Bool, Hid (∀ k, anS v D t k = A k) := ⟨fun k => anS v D t k, fun _ => rfl⟩
        have HM0' : Hid (A 0 = false) := by show _ = _; rw [← HAA.out]; exact HM0.out
        have HMu' : Hid (∀ k, A (k + 1) = (A k || decide (ls k = ms t))) := fun k => by rw [← HAA.out, ← HAA.out]; exact HMu.out k
        have HMm' : Hid (∀ k, k ≤ v → A k = true → A v = true) := fun k h1 h2 => by rw [← HAA.out] at h2 ⊢; exact HMm.out k h1 h2
        rw [HAA.out] at HUU
        clear hU hN3 hN3' HD HU HL HA Hl Hz HN0 HN1' HN2 HN3 HQ' HS0' HM0 HMu HMm HAA
        go_wp2_with (first
          | (go_at_call 24; refine CD.mono ?_; rintro e w2 ⟨rfl, hb2⟩; clear CD; have hB2 : Below g w w2 := hB.trans (hb2.mono hgs); have hown2 := ORow.below hown hb2)
          | (go_at_call 19; refine (HCS.out _ hB2).mono ?_; rintro e w3 ⟨y, rfl, hy3, hb3⟩; clear HCS)
          | go_in)
        have hg2 : g ≤ w2.heap.size := by rw [← hgw]; exact hB2.size
        have hB3 : Below g w w3 := hB2.trans (hb3.mono hg2)
        have hown3 := ORow.below hown2 hb3
        have hy0 : ORow w3 0 y (ms t) := own_low hy3 (Nat.zero_le _)
        unfold ORow at hown3
        obtain ⟨oa, oc, rfl⟩ := own_form hown3
        have hown4 : ORow w3 g (.slice oa l.length oc) l := hown3
        clear hy3 hb3 hown2 hB2 hb2 hown hB hown3
        go_loopw [9, 10] (fun bv sv wr' => ∃ (s : Nat) (b : Bool), sv = .int .i64 (s : Int) ∧ bv = .bool b ∧ s ≤ v ∧ Hid (A s = b) ∧ ORow wr' g (.slice oa l.length oc) l ∧ ORow wr' 0 y (ms t) ∧ Below g w wr') (fun _ sv _ => (v - intOf sv).toNat)
        case atStart => exact ⟨0, false, rfl, rfl, by omega, HM0', hown4, hy0, hB3⟩
        case round =>
          clear hown4 hy0 hB3 HM0'
          obtain ⟨s, b, rfl, rfl, hs, HAs, hown, hy, hB⟩ := hrel
          have hgs' : g ≤ wr.heap.size := by rw [← hgw]; exact hB.size
          by_cases hin : s < v ∧ b = false
          · obtain ⟨hsv, rfl⟩ := hin
            have hds : decide ((s : Int) < (v : Int)) = true := by simp; omega
            have hsi : (s : Int) < (v : Int) := by omega
            have C1 := HS1'.out s wr (by omega) hB
            have hA1 := HMu'.out s
            rw [HAs.out, Bool.false_or] at hA1
            have HA1 : Hid (A (s + 1) = decide (ls s = ms t)) := hA1
            have HQs : Hid (∀ (x y : Value) (W : World), ORow W 0 x (ls s) → ORow W 0 y (ms t) → Calls Try.prog 13 #[x, y] W fun e w' => e = .returned (.bool (decide (ls s = ms t))) ∧ Below W.heap.size W w') := HQt.out s
            obtain ⟨q, Hq⟩ : ∃ q, Hid (decide (ls s = ms t) = q) := ⟨_, rfl⟩
            rw [Hq.out] at HA1 HQs
            clear hA1 HMu' HMm' HUU HQt HS1' HAs
            go_wp2_with (first
              | (go_at_call 19; refine C1.mono ?_; rintro e w4 ⟨x, rfl, hx4, hb4⟩; clear C1; have hy4 := hy.below hb4; have CQ := HQs.out x y w4 (own_low hx4 (Nat.zero_le _)) hy4)
              | (go_at_call 13; refine CQ.mono ?_; rintro e w5 ⟨rfl, hb5⟩; clear CQ)
              | go_in)
            have hB4 : Below g w w4 := hB.trans (hb4.mono hgs')
            have hg4 : g ≤ w4.heap.size := by rw [← hgw]; exact hB4.size
            go_roundw
            case rel => exact ⟨s + 1, q, by go_num, rfl, by omega, HA1, (hown.below hb4).below hb5, hy4.below hb5, hB4.trans (hb5.mono hg4)⟩
            case measure => simp [intOf]; omega
          · have hfin : A v = b := by
              cases hb : b
              · have : ¬ s < v := fun h => hin ⟨h, hb⟩
                obtain rfl : s = v := by omega
                rw [HAs.out, hb]
              · exact HMm'.out s hs (by rw [HAs.out, hb])
            rw [hfin] at HUU
            have hout : (decide ((s : Int) < (v : Int)) = false) ∨ (decide ((s : Int) < (v : Int)) = true ∧ b = true) := by
              by_cases h : s < v
              · refine .inr ⟨by simp; omega, ?_⟩
                cases b
                · exact (hin ⟨h, rfl⟩).elim
                · rfl
              · exact .inl (by simp; omega)
            clear hin hfin HMu' HMm' HQt HS1' HAs
            cases b
            · have hds : decide ((s : Int) < (v : Int)) = false := by
                rcases hout with h | ⟨_, h⟩
                · exact h
                · cases h
              have HU1 : Hid (mulT v D (t + 1) = l) := by show _ = _; rw [HUU.out]; simp
              have hds2 : ¬ s < v := by simpa using hds
              have hds3 : ¬ (s : Int) < (v : Int) := by omega
              clear hout HUU
              go_wp2
              go_roundw
              case rel => exact ⟨t + 1, by go_num, by omega, .inl (by omega), by rw [HU1.out]; exact hown, hB⟩
              case measure => simp [intOf]; omega
            · have HU1 : Hid (mulT v D (t + 1) = l ++ [t]) := by show _ = _; rw [HUU.out]; simp
              clear HUU
              rcases hout with hds | ⟨hds, _⟩
              · have hds2 : ¬ s < v := by simpa using hds
                have hds3 : ¬ (s : Int) < (v : Int) := by omega
                unfold ORow at hown
                go_wp2_with (first
                  | (at_builtin; refine wpList_append_own _ rfl _ _ 22 rfl g 3 i3 (.int .i64 0) 1 8 und22 hi3 hz0 hz1 hz2 rfl (by decide) _ _ _ rfl (hown.alloc _) ⟨wr.heap.size, 0, none⟩ 1 1 [.int .i64 (t : Int)] rfl rfl (fun j u hj => by (match j, hj with | 0, hj => simp at hj; subst hj; simp [Addr.add])) (fun u hu => by (simp at hu; subst hu; rfl)) (by (unfold maxLen; omega)) (by omega) (by (simp; omega)) ?_; intro v' w4 hown' hgrow _)
                  | go_in)
                have hb4 : Below g w w4 := (hB.alloc (by omega) _).grown hgrow (by simp; omega) (fun k hk => (hown.lt k hk).1)
                have hown4 : w4.ownsRow g 3 1 v' (l.length + 1) (((l ++ [t]).map Int.ofNat).map (Value.int .i64)) := by simpa using hown'
                have hown5 : ORow w4 g v' (mulT v D (t + 1)) := by
                  rw [HU1.out]
                  unfold ORow
                  rw [List.length_append]
                  exact hown4
                clear hown' hown4 hgrow hown hB
                go_roundw
                case rel => exact ⟨t + 1, by go_num, by omega, .inl (by omega), hown5, hb4⟩
                case measure => simp [intOf]; omega
              · have hds2 : s < v := by simpa using hds
                have hds3 : (s : Int) < (v : Int) := by omega
                unfold ORow at hown
                go_wp2_with (first
                  | (at_builtin; refine wpList_append_own _ rfl _ _ 22 rfl g 3 i3 (.int .i64 0) 1 8 und22 hi3 hz0 hz1 hz2 rfl (by decide) _ _ _ rfl (hown.alloc _) ⟨wr.heap.size, 0, none⟩ 1 1 [.int .i64 (t : Int)] rfl rfl (fun j u hj => by (match j, hj with | 0, hj => simp at hj; subst hj; simp [Addr.add])) (fun u hu => by (simp at hu; subst hu; rfl)) (by (unfold maxLen; omega)) (by omega) (by (simp; omega)) ?_; intro v' w4 hown' hgrow _)
                  | go_in)
                have hb4 : Below g w w4 := (hB.alloc (by omega) _).grown hgrow (by simp; omega) (fun k hk => (hown.lt k hk).1)
                have hown4 : w4.ownsRow g 3 1 v' (l.length + 1) (((l ++ [t]).map Int.ofNat).map (Value.int .i64)) := by simpa using hown'
                have hown5 : ORow w4 g v' (mulT v D (t + 1)) := by
                  rw [HU1.out]
                  unfold ORow
                  rw [List.length_append]
                  exact hown4
                clear hown' hown4 hgrow hown hB
                go_roundw
                case rel => exact ⟨t + 1, by go_num, by omega, .inl (by omega), hown5, hb4⟩
                case measure => simp [intOf]; omega
      · have e1 : ¬ (z : Int) = 1 := by omega
        have e2 : ((z : Int) != 1) = true := by simpa using e1
        have HUU : Hid (mulT v D (t + 1) = l) := by show _ = _; rw [hU]; simp [hz]
        clear hU HD HU HL HA Hl Hz hN3 HN0 HN1' HN2 HN3 HQ' HS0' HS1' HCS
        go_wp2_with (first
          | (go_at_call 24; refine CD.mono ?_; rintro e w2 ⟨rfl, hb2⟩; clear CD)
          | go_in)
        have hB2 : Below g w w2 := hB.trans (hb2.mono hgs)
        have hown2 := ORow.below hown hb2
        go_roundw
        case rel => exact ⟨t + 1, by go_num, by omega, .inl (by omega), by rw [HUU.out]; exact hown2, hB2⟩
        case measure => simp [intOf]; omega
    · have hdi : decide ((t : Int) < (v : Int)) = false := by simp; omega
      obtain rfl : t = v := by omega
      rw [HA.out] at hown
      go_wp2
      go_ret
      exact ⟨_, rfl, hown, hB⟩

end Go.Proofs.Ytogdcjlgddleaaa
