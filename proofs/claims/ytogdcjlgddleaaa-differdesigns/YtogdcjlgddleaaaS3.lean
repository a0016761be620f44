/- The walk of Level. -/
import Derived.Test.YtogdcjlgddleaaaS2
namespace Go.Proofs.Ytogdcjlgddleaaa
open Go.RowKit Go.Maps

theorem cntT_df (v : Nat) (D : List Nat) (c : Nat) : cntT (dfL v D D) c = (dfN v D c : Int) := rfl
/-- What Level tells of a set. -/
def lvL (v : Nat) (D : List Nat) : Nat := if lvB v D = true then dfN v D 1 else 0
def lvE (v : Nat) (D : List Nat) : Nat := if lvB v D = true then 0 else 4
theorem lv_no {v : Nat} {D : List Nat} {s : Nat} (h2 : 2 ≤ s) (hs : s < v) (h : dfN v D s ≠ dfN v D 1) : lvL v D = 0 ∧ lvE v D = 4 := by
  have : ¬ lvB v D = true := fun k => h (lvB_iff.1 k s h2 hs)
  exact ⟨if_neg this, if_neg this⟩
theorem lv_yes {v : Nat} {D : List Nat} (h : ∀ s, 2 ≤ s → s < v → dfN v D s = dfN v D 1) : lvL v D = dfN v D 1 ∧ lvE v D = 0 := by
  have := lvB_iff.2 h
  exact ⟨if_pos this, if_pos this⟩
theorem dfN_le {v : Nat} {D : List Nat} (hG : GoodS v D) (c : Nat) : dfN v D c ≤ 60 * 60 := by
  refine Nat.le_trans List.count_le_length ?_
  rw [dfL_len]
  have h1 := hG.len
  have h2 := hG.le
  exact Nat.mul_le_mul (by omega) (by omega)
set_option maxHeartbeats 4000000 in
theorem Level_bad' (p : Int) (b : List Int) (u : Value) (w : World) (z : Nat) (hz : z ≠ 0) (hu : ∃ a c, u = .slice a b.length c) (HC : Hid (Calls Try.prog 8 #[.int .i64 p, u] w fun e w' => e = .returned (.int .i64 (z : Int)) ∧ Below w.heap.size w w')) :
    Calls Try.prog 9 #[.int .i64 p, u] w fun e w' => e = .returned (.tuple #[.int .i64 0, .int .i64 (z : Int)]) ∧ Below w.heap.size w w' := by
  obtain ⟨a, c, rfl⟩ := hu
  have hz1 : ¬ (z : Int) = 0 := by omega
  have hz2 : ((z : Int) != 0) = true := by simpa using hz
  go_enter Try.func9, Try.ntmps9
  go_wp2_with (first
    | (go_at_call 8; refine HC.out.mono ?_; rintro e w1 ⟨rfl, hb⟩; clear HC)
    | go_in)
  go_ret2
  exact ⟨rfl, hb⟩
set_option maxRecDepth 100000 in
set_option maxHeartbeats 4000000 in
theorem Level_main' (v : Nat) (D : List Nat) (u : Value) (w : World) (hG : GoodS v D) (hu : Sl w u (D.map Int.ofNat)) :
    Calls Try.prog 9 #[.int .i64 (v : Int), u] w fun e w' => e = .returned (.tuple #[.int .i64 (lvL v D : Int), .int .i64 (lvE v D : Int)]) ∧ Below w.heap.size w w' := by
  have HC : Hid (Calls Try.prog 8 #[.int .i64 (v : Int), u] w fun e w' => e = .returned (.int .i64 0) ∧ Below w.heap.size w w') := by
    have := CheckS_any (v : Int) _ u w hu (by unfold maxLen; rw [List.length_map]; have := hG.len; have := hG.le; omega)
    rw [sF_of hG] at this
    exact this
  have HD : Hid (∀ W, Below w.heap.size w W → Calls Try.prog 21 #[.int .i64 (v : Int), u] W fun e w' => ∃ (B m : Nat) (X : DataW Unit), e = .returned (.map (some B)) ∧ W.heap.size ≤ B ∧ w'.ownsMap Try.prog 3 (plainElem Try.prog 3) B m X ∧ TallyIs X (cntT (dfL v D D)) 61 ∧ Below W.heap.size W w') := fun W b => differences_any v D u W hG (hu.below b)
  have HNo : Hid (∀ s, 2 ≤ s → s < v → dfN v D s ≠ dfN v D 1 → lvL v D = 0 ∧ lvE v D = 4) := fun s h1 h2 h3 => lv_no h1 h2 h3
  have HY : Hid ((∀ s, 2 ≤ s → s < v → dfN v D s = dfN v D 1) → lvL v D = dfN v D 1 ∧ lvE v D = 0) := lv_yes
  have HLe : Hid (∀ c, dfN v D c ≤ 60 * 60) := dfN_le hG
  have HLk : Hid (∀ (X : DataW Unit) (k : Nat) (c : Int), k < 61 → TallyIs X (cntT (dfL v D D)) 61 → X.atKey (.int .i64 (k : Int)) (.lit (.int .i64 0)) = .lit (.int .i64 c) → c = (dfN v D k : Int)) := fun X k c hk h hat => h.look hk hat
  obtain ⟨l, Hl⟩ : ∃ l, Hid (lvL v D = l) := ⟨_, rfl⟩
  obtain ⟨g, Hg⟩ : ∃ g, Hid (lvE v D = g) := ⟨_, rfl⟩
  rw [Hl.out, Hg.out] at HNo HY ⊢
  have h1 := hG.pos
  have h60 := hG.le
  obtain ⟨a, ca, rfl, _⟩ := sl_at hu
  obtain ⟨t1, Ht1⟩ : ∃ t1, Hid (dfN v D 1 = t1) := ⟨_, rfl⟩
  have ht1 := HLe.out 1
  rw [Ht1.out] at HNo HY ht1
  clear hu hG
  go_enter Try.func9, Try.ntmps9
  go_wp2_with (first
    | (go_at_call 8; refine HC.out.mono ?_; rintro e w1 ⟨rfl, hb1⟩; clear HC)
    | (go_at_call 21; refine (HD.out _ hb1).mono ?_; rintro e w2 ⟨B, m, X, rfl, hBB, hown0, HT, hb2⟩; clear HD)
    | go_in)
  have HB2 : Hid (Below w.heap.size w w2) := hb1.trans (hb2.mono hb1.size)
  have HTX : Hid (TallyIs X (cntT (dfL v D D)) 61) := HT
  have HK1 : Hid (∀ c, X.atKey (.int .i64 1) (.lit (.int .i64 0)) = .lit (.int .i64 c) → c = (t1 : Int)) := fun c hat => by rw [← Ht1.out]; exact HLk.out X 1 c (by omega) HTX.out hat
  clear HT hb1 hb2 hBB
  go_loopw [8] (fun dv wr => ∃ d : Nat, dv = .int .i64 (d : Int) ∧ 2 ≤ d ∧ (d ≤ v ∨ d = 2) ∧ Hid (∀ s, 2 ≤ s → s < d → s < v → dfN v D s = t1) ∧ wr = w2) (fun dv _ => (v - intOf dv).toNat)
  case atStart => exact ⟨2, rfl, by omega, .inr rfl, (show ∀ s, 2 ≤ s → s < 2 → s < v → _ from fun s h1 h2 => by omega), rfl⟩
  case round =>
    obtain ⟨d, rfl, hd2, hdv, HI, rfl⟩ := hrel
    by_cases hlt : d < v
    · have hdi : (d : Int) < (v : Int) := by omega
      have hdec : decide ((d : Int) < (v : Int)) = true := by simp; omega
      obtain ⟨td, Htd⟩ : ∃ td, Hid (dfN v D d = td) := ⟨_, rfl⟩
      have hHN := HNo.out d hd2 hlt
      rw [Htd.out] at hHN
      have htd := HLe.out d
      rw [Htd.out] at htd
      have HKd : Hid (∀ c, X.atKey (.int .i64 (d : Int)) (.lit (.int .i64 0)) = .lit (.int .i64 c) → c = (td : Int)) := fun c hat => by rw [← Htd.out]; exact HLk.out X d c (by omega) HTX.out hat
      by_cases e : td = t1
      · subst e
        have HI2 : Hid (∀ s, 2 ≤ s → s < d + 1 → s < v → dfN v D s = td) := fun s h1 h2 h3 => by
          by_cases e : s = d
          · subst e; exact Htd.out
          · exact HI.out s h1 (by omega) h3
        clear HI hHN HNo HY HLe HLk
        go_wp2_with (first
          | (at_lookup; refine wpList_lookup_own_int _ rfl _ _ 45 rfl 3 3 .i64 law3 undM und3 (zero3 _) B m _ rfl hown0 _ _ rfl (keyOf_int_mk und3 (WalkArith.wf_i64 (by omega))) ?_; intro c hat hwc; (first | (obtain rfl := HKd.out c hat; clear HKd hat hwc) | (obtain rfl := HK1.out c hat; clear hat hwc)))
          | go_in)
        go_roundw
        case rel => exact ⟨d + 1, by go_num, by omega, .inl (by omega), HI2, by first | rfl | trivial⟩
        case measure => simp [intOf]; omega
      · obtain ⟨rfl, rfl⟩ := hHN e
        have e1 : ¬ (td : Int) = (t1 : Int) := by omega
        have e2 : ((td : Int) != (t1 : Int)) = true := by simpa using e1
        clear HI HNo HY HLe HLk
        go_wp2_with (first
          | (at_lookup; refine wpList_lookup_own_int _ rfl _ _ 45 rfl 3 3 .i64 law3 undM und3 (zero3 _) B m _ rfl hown0 _ _ rfl (keyOf_int_mk und3 (WalkArith.wf_i64 (by omega))) ?_; intro c hat hwc; (first | (obtain rfl := HKd.out c hat; clear HKd hat hwc) | (obtain rfl := HK1.out c hat; clear hat hwc)))
          | go_in)
        go_ret2
        exact ⟨rfl, HB2.out⟩
    · have hdec : decide ((d : Int) < (v : Int)) = false := by simp; omega
      obtain ⟨rfl, rfl⟩ := HY.out fun s h2 h3 => HI.out s h2 (by omega) h3
      clear HI HNo HY HLe HLk
      go_wp2_with (first
        | (at_lookup; refine wpList_lookup_own_int _ rfl _ _ 45 rfl 3 3 .i64 law3 undM und3 (zero3 _) B m _ rfl hown0 _ _ rfl (keyOf_int_mk und3 (WalkArith.wf_i64 (by omega))) ?_; intro c hat hwc; (obtain rfl := HK1.out c hat; clear hat hwc))
        | go_in)
      go_ret2
      exact ⟨rfl, HB2.out⟩
/-- What Level answers at all. -/
theorem LevelS_any (p : Int) (b : List Int) (u : Value) (w : World) (hu : Sl w u b) (hbl : b.length ≤ maxLen) :
    Calls Try.prog 9 #[.int .i64 p, u] w fun e w' => ((sF p b ≠ 0 ∧ e = .returned (.tuple #[.int .i64 0, .int .i64 (sF p b : Int)])) ∨ ∃ (v : Nat) (D : List Nat), p = v ∧ b = D.map Int.ofNat ∧ GoodS v D ∧ e = .returned (.tuple #[.int .i64 (lvL v D : Int), .int .i64 (lvE v D : Int)])) ∧ Below w.heap.size w w' := by
  by_cases hz : sF p b = 0
  · obtain ⟨v, D, rfl, rfl, hG⟩ := sF_good hz
    refine (Level_main' v D u w hG hu).mono ?_
    rintro e w' ⟨rfl, hb⟩
    exact ⟨.inr ⟨v, D, rfl, rfl, hG, rfl⟩, hb⟩
  · have hform : ∃ a c, u = .slice a b.length c := by obtain ⟨a, c, rfl, _⟩ := hu; exact ⟨a, c, rfl⟩
    refine (Level_bad' p b u w _ hz hform (CheckS_any p b u w hu hbl)).mono ?_
    rintro e w' ⟨rfl, hb⟩
    exact ⟨.inl ⟨hz, rfl⟩, hb⟩

end Go.Proofs.Ytogdcjlgddleaaa
