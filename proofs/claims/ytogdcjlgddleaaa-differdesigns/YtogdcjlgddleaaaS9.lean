/- The walks of Multipliers and of the document's Shifted. -/
import Derived.Test.YtogdcjlgddleaaaS8
namespace Go.Proofs.Ytogdcjlgddleaaa
open Go.RowKit Go.Maps

/-- The multipliers below k. -/
def mulT (v : Nat) (D : List Nat) (k : Nat) : List Nat := (List.range k).filter fun t => decide (1 ≤ t) && (decide (Nat.gcd t v = 1) && muB v D t)
theorem mulT_all (v : Nat) (D : List Nat) : mulT v D v = muL v D := rfl
theorem mulT_one (v : Nat) (D : List Nat) : mulT v D 1 = [] := by simp [mulT, List.range_succ]
theorem mulT_up {v : Nat} {D : List Nat} {k : Nat} (h1 : 1 ≤ k) : mulT v D (k + 1) = mulT v D k ++ if (Nat.gcd k v == 1 && muB v D k) = true then [k] else [] := by
  unfold mulT
  rw [ran_up]
  congr 1
  by_cases e : Nat.gcd k v = 1 <;> cases h : muB v D k <;> simp [e, h1]
theorem mulT_len (v : Nat) (D : List Nat) (k : Nat) : (mulT v D k).length ≤ k := Nat.le_trans (List.length_filter_le _ _) (by simp)
set_option maxHeartbeats 4000000 in
theorem Mul_bad' (p : Int) (b : List Int) (u : Value) (w : World) (z : Nat) (hz : z ≠ 0) (hu : ∃ a c, u = .slice a b.length c) (HC : Hid (Calls Try.prog 8 #[.int .i64 p, u] w fun e w' => e = .returned (.int .i64 (z : Int)) ∧ Below w.heap.size w w')) :
    Calls Try.prog 10 #[.int .i64 p, u] w fun e w' => e = .returned (.tuple #[.slice none 0 0, .int .i64 (z : Int)]) ∧ Below w.heap.size w w' := by
  obtain ⟨a, c, rfl⟩ := hu
  have hz1 : ¬ (z : Int) = 0 := by omega
  have hz2 : ((z : Int) != 0) = true := by simpa using hz
  go_enter Try.func10, Try.ntmps10
  go_wp2_with (first
    | (go_at_call 8; refine HC.out.mono ?_; rintro e w1 ⟨rfl, hb⟩; clear HC)
    | go_in)
  go_ret2
  exact ⟨rfl, hb⟩
set_option maxRecDepth 100000 in
set_option maxHeartbeats 8000000 in
theorem Mul_main' (v : Nat) (D : List Nat) (u : Value) (w : World) (hG : GoodS v D) (hu : Sl w u (D.map Int.ofNat)) :
    Calls Try.prog 10 #[.int .i64 (v : Int), u] w fun e w' => ∃ x, e = .returned (.tuple #[x, .int .i64 0]) ∧ ORow w' w.heap.size x (muL v D) ∧ Below w.heap.size w w' := by
  have HC : Hid (Calls Try.prog 8 #[.int .i64 (v : Int), u] w fun e w' => e = .returned (.int .i64 0) ∧ Below w.heap.size w w') := by
    have := CheckS_any (v : Int) _ u w hu (by unfold maxLen; rw [List.length_map]; have := hG.len; have := hG.le; omega)
    rw [sF_of hG] at this
    exact this
  have HM : Hid (∀ (t : Nat) (W : World), t < 60 → Below w.heap.size w W → Calls Try.prog 23 #[.int .i64 (v : Int), u, .int .i64 (t : Int)] W fun e w' => e = .returned (.bool (muB v D t)) ∧ Below W.heap.size W w') := fun t W ht b => multiplies_any v t D u W hG (hu.below b) ht
  have HD : Hid (∀ (t : Nat) (W : World), t < 60 → Calls Try.prog 22 #[.int .i64 (t : Int), .int .i64 (v : Int)] W fun e w' => e = .returned (.int .i64 ((Nat.gcd t v : Nat) : Int)) ∧ Below W.heap.size W w') := fun t W ht => divisor_any t v W (by omega) (by have := hG.le; omega)
  have HU : Hid (∀ k, 1 ≤ k → mulT v D (k + 1) = mulT v D k ++ if (Nat.gcd k v == 1 && muB v D k) = true then [k] else []) := fun k h => mulT_up h
  have HL : Hid (∀ k, (mulT v D k).length ≤ k) := mulT_len v D
  have H1 : Hid (mulT v D 1 = []) := mulT_one v D
  have HA : Hid (mulT v D v = muL v D) := mulT_all v D
  obtain ⟨R, HR⟩ : ∃ R, Hid (muL v D = R) := ⟨_, rfl⟩
  rw [HR.out] at HA ⊢
  have h1 := hG.pos
  have h60 := hG.le
  obtain ⟨i3, hi3, hz0, hz1, hz2⟩ := info3
  obtain ⟨a, ca, rfl, _⟩ := sl_at hu
  obtain ⟨g, Hg⟩ : ∃ g, Hid (w.heap.size = g) := ⟨_, rfl⟩
  rw [Hg.out] at HC HM ⊢
  generalize D.length = n at *
  have hgw : w.heap.size = g := Hg.out
  clear hu hG
  go_enter Try.func10, Try.ntmps10
  go_wp2_with (first
    | (go_at_call 8; refine HC.out.mono ?_; rintro e w1 ⟨rfl, hb1⟩; clear HC)
    | go_in)
  go_loopw [7, 8] (fun ov tv wr => ∃ t : Nat, tv = .int .i64 (t : Int) ∧ 1 ≤ t ∧ (t ≤ v ∨ t = 1) ∧ ORow wr g ov (mulT v D t) ∧ Below g w wr) (fun _ tv _ => (v - intOf tv).toNat)
  case atStart => exact ⟨1, rfl, by omega, .inr rfl, by rw [H1.out]; exact World.ownsRow_nil _ _ _ _, hb1⟩
  case round =>
    clear hb1 H1
    obtain ⟨t, rfl, ht1, htv, hown, hB⟩ := hrel
    have hgs : g ≤ wr.heap.size := by rw [← hgw]; exact hB.size
    by_cases hlt : t < v
    · have hdi : decide ((t : Int) < (v : Int)) = true := by simp; omega
      have hii : (t : Int) < (v : Int) := by omega
      have CD := HD.out t wr (by omega)
      have HCM : Hid (∀ W, Below g w W → Calls Try.prog 23 #[.int .i64 (v : Int), .slice a n ca, .int .i64 (t : Int)] W fun e w' => e = .returned (.bool (muB v D t)) ∧ Below W.heap.size W w') := fun W b => HM.out t W (by omega) b
      have hU := HU.out t ht1
      have hL := HL.out t
      obtain ⟨z, Hz⟩ : ∃ z, Hid (Nat.gcd t v = z) := ⟨_, rfl⟩
      rw [Hz.out] at CD hU
      obtain ⟨l, Hl⟩ : ∃ l, Hid (mulT v D t = l) := ⟨_, rfl⟩
      rw [Hl.out] at hU hL hown
      by_cases hz : z = 1
      · subst hz
        cases hm : muB v D t
        · rw [hm] at hU HCM
          have HUU : Hid (mulT v D (t + 1) = l) := by show _ = _; rw [hU]; simp
          clear hU hm HM HD HU HL HA Hl Hz
          go_wp2_with (first
            | (go_at_call 22; refine CD.mono ?_; rintro e w2 ⟨rfl, hb2⟩; clear CD; have hB2 : Below g w w2 := hB.trans (hb2.mono hgs); have hown2 := ORow.below hown hb2)
            | (go_at_call 23; refine (HCM.out _ hB2).mono ?_; rintro e w3 ⟨rfl, hb3⟩; clear HCM)
            | go_in)
          have hB3 : Below g w w3 := hB2.trans (hb3.mono (by have := hB2.size; omega))
          have hown3 := ORow.below hown2 hb3
          go_roundw
          case rel => exact ⟨t + 1, by go_num, by omega, .inl (by omega), by rw [HUU.out]; exact hown3, hB3⟩
          case measure => simp [intOf]; omega
        · rw [hm] at hU HCM
          have HUU : Hid (mulT v D (t + 1) = l ++ [t]) := by show _ = _; rw [hU]; simp
          clear hU hm HM HD HU HL HA Hl Hz
          go_wp2_with (first
            | (go_at_call 22; refine CD.mono ?_; rintro e w2 ⟨rfl, hb2⟩; clear CD; have hB2 : Below g w w2 := hB.trans (hb2.mono hgs); have hown2 := ORow.below hown hb2)
            | (go_at_call 23; refine (HCM.out _ hB2).mono ?_; rintro e w3 ⟨rfl, hb3⟩; clear HCM; have hB3 : Below g w w3 := hB2.trans (hb3.mono (by have := hB2.size; omega)); have hown3 := ORow.below hown2 hb3; have hg3 : g ≤ w3.heap.size := by (rw [← hgw]; exact hB3.size))
            | (at_builtin; refine wpList_append_own _ rfl _ _ 22 rfl g 3 i3 (.int .i64 0) 1 8 und22 hi3 hz0 hz1 hz2 rfl (by decide) _ _ _ rfl (hown3.alloc _) ⟨w3.heap.size, 0, none⟩ 1 1 [.int .i64 (t : Int)] rfl rfl ?c1 ?c2 ?c3 ?c4 ?c5 ?_)
            | go_in)
          case c1 =>
            intro j u hj
            match j, hj with
            | 0, hj => simp at hj; subst hj; simp [Addr.add]
          case c2 => intro u hu; simp at hu; subst hu; rfl
          case c3 => unfold maxLen; omega
          case c4 => omega
          case c5 => simp; omega
          · intro v' w4 hown' hgrow _
            have hb4 : Below g w w4 := (hB3.alloc (by omega) _).grown hgrow (by simp; omega) (fun k hk => (hown3.lt k hk).1)
            have hown4 : w4.ownsRow g 3 1 v' (l.length + 1) (((l ++ [t]).map Int.ofNat).map (Value.int .i64)) := by simpa using hown'
            have hown5 : ORow w4 g v' (mulT v D (t + 1)) := by
              rw [HUU.out]
              unfold ORow
              rw [List.length_append]
              exact hown4
            clear hown' hown4 hgrow hown3 hown2 hown hB hB2 hB3
            go_wp2
            go_roundw
            case rel => exact ⟨t + 1, by go_num, by omega, .inl (by omega), hown5, hb4⟩
            case measure => simp [intOf]; omega
      · have e1 : ¬ (z : Int) = 1 := by omega
        have e2 : ((z : Int) == 1) = false := by simpa using e1
        have HUU : Hid (mulT v D (t + 1) = l) := by show _ = _; rw [hU]; simp [hz]
        clear hU HM HD HU HL HA Hl Hz HCM
        go_wp2_with (first
          | (go_at_call 22; refine CD.mono ?_; rintro e w2 ⟨rfl, hb2⟩; clear CD)
          | go_in)
        have hB2 : Below g w w2 := hB.trans (hb2.mono hgs)
        have hown2 := ORow.below hown hb2
        go_roundw
        case rel => exact ⟨t + 1, by go_num, by omega, .inl (by omega), by rw [HUU.out]; exact hown2, hB2⟩
        case measure => simp [intOf]; omega
    · have hdi : decide ((t : Int) < (v : Int)) = false := by simp; omega
      obtain rfl : t = v := by omega
      rw [HA.out] at hown
      go_wp2
      go_ret2
      exact ⟨_, rfl, hown, hB⟩

end Go.Proofs.Ytogdcjlgddleaaa
