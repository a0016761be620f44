/- The walk of solved: Gauss over rows of the call's own. -/
import Derived.Test.YtglomemadcdagaaR34
import Derived.BigRegion
import Derived.Deep.CutRange
namespace Go.Proofs.Ytglomemadcdagaa
open Go.RowKit

/-- What the columns ahead of c have come to, in memory. -/
def GI (w0 w : World) (base g R m P : Nat) (A0 : Nat → Nat → Int) (vl : Value) (c t : Nat) : Prop :=
  ∃ (B cp : Nat → Nat) (A : Nat → Nat → Int) (ld : Nat → Nat) (k : Nat) (ll : List Int), Mat w base g R (m + 1) B cp A ∧ (∀ i, i < R → B i < w0.heap.size) ∧ Gs P A0 A R m c t ld ∧ w.ownsRow w0.heap.size 3 1 vl k (ll.map (Value.int .i64)) ∧ k ≤ c ∧ Below base w0 w

theorem swap_lt {B : Nat → Nat} {R N a k : Nat} (h : ∀ i, i < R → B i < N) (ha : a < R) (hk : k < R) : ∀ i, i < R → (if i = a then B k else if i = k then B a else B i) < N := by
  intro i hi
  split
  · exact h k hk
  · split
    · exact h a ha
    · exact h i hi
theorem swap_rng {p : Int} {A0 A : Nat → Nat → Int} {R m c t k : Nat} {ld : Nat → Nat} (G : Gs p A0 A R m c t ld) (ha : t < R) (hk : k < R) : ∀ i j, i < R → j ≤ m → 0 ≤ swapM A t k i j ∧ swapM A t k i j < p := by
  intro i j hi hj
  unfold swapM
  split
  · exact G.rng k j hk hj
  · split
    · exact G.rng t j ha hj
    · exact G.rng i j hi hj
theorem owns_drew {w : World} {base n : Nat} {e : TypeId} {size : Nat} {v : Value} {xs : List Value} (h : w.ownsRow base e size v n xs) : w.drew.ownsRow base e size v n xs := h

set_option maxRecDepth 100000 in
set_option maxHeartbeats 8000000 in
theorem solved_any (P m R base g co : Nat) (B0 cp0 : Nat → Nat) (A0 : Nat → Nat → Int) (w : World) (hs : smB (P : Int) = true) (hm : m ≤ 60) (hR0 : 0 < R) (hR : R ≤ 60)
    (hM : Mat w base g R (m + 1) B0 cp0 A0) (hA0 : ∀ i j, i < R → j ≤ m → 0 ≤ A0 i j ∧ A0 i j < P) (hg : base ≤ g) :
    Calls Try.prog 34 #[.slice (some ⟨g, 0, none⟩) R co, .int .i64 (m : Int), .int .i64 (P : Int)] w fun e w' => ∃ (z : Nat) (v : Value) (l : List Int), e = .returned (.tuple #[.int .i64 (z : Int), v]) ∧ Sl w' v l ∧ SolIs P A0 R m z l ∧ Below base w w' := by
  have hpb := smB_bd hs
  have hp : 2 ≤ P ∧ P ≤ 7 := by omega
  obtain ⟨i3, hi, hz0, hz1, hz2⟩ := info3
  have hgl := hM.glt
  have HI0 : GI w w base g R m P A0 (.slice none 0 0) 0 0 := ⟨B0, cp0, A0, fun _ => 0, 0, [], hM, fun i h => (hM.row i h).lt, Gs.start hA0, World.ownsRow_nil _ _ _ _, Nat.le_refl _, Below.refl _ _⟩
  clear hM hA0 hpb
  go_enter Try.func34, Try.ntmps34
  go_wp2
  go_loopw [8, 9, 10] (fun a l i wr => ∃ c t : Nat, a = .int .i64 t ∧ i = .int .i64 c ∧ c ≤ m ∧ t ≤ R ∧ GI w wr base g R m P A0 l c t) (fun _ _ i _ => (m - intOf i).toNat)
  case atStart => exact ⟨0, 0, rfl, rfl, by omega, by omega, HI0⟩
  case round =>
    obtain ⟨c, t, rfl, rfl, hc, ht, HI⟩ := hrel
    clear HI0
    by_cases hlt : c < m
    · have hci : (c : Int) < m := by omega
      obtain ⟨B, cp, A, ld, kl, ll, hM, hBl, hG, hown, hkl, hB⟩ := HI
      have HG : Hid (Gs P A0 A R m c t ld) := hG
      have hrg := fun i hi => hG.rng i c hi (by omega)
      clear hG
      go_wp2
      go_loopw [11] (fun k wr' => ∃ k' : Nat, k = .int .i64 k' ∧ t ≤ k' ∧ k' ≤ R ∧ Hid (∀ r, t ≤ r → r < k' → A r c = 0) ∧ wr' = wr) (fun k _ => (R - intOf k).toNat)
      case atStart => exact ⟨t, rfl, by omega, by omega, (fun r h1 h2 => by omega : ∀ r, t ≤ r → r < t → A r c = 0), rfl⟩
      case round =>
        obtain ⟨k, rfl, hk1, hk2, HK, rfl⟩ := hrel
        by_cases hkR : k < R
        · have hki : (k : Int) < R := by omega
          have hc1 := hM.hd hkR
          have hc2 := hM.cell hkR (show c < m + 1 by omega)
          obtain ⟨d, Hd⟩ : ∃ d : Int, Hid (d = A k c) := ⟨_, rfl⟩
          have hdr := hrg k hkR
          rw [← Hd.out] at hc2 hdr
          have hci1 : (c : Int) < m + 1 := by omega
          by_cases hd0 : d = 0
          · subst hd0
            go_wp2
            go_roundw
            case rel => 
              refine ⟨k + 1, by go_num, by omega, by omega, (fun r h1 h2 => ?_ : ∀ r, t ≤ r → r < k + 1 → A r c = 0), trivial⟩
              by_cases e : r = k
              · rw [e]; exact Hd.out.symm
              · exact HK.out r h1 (by omega)
            case measure => simp [intOf]; omega
          · have hdd : (d == 0) = false := by simpa using hd0
            have hkd : ((k : Int) == (R : Int)) = false := by simp; omega
            have hti : (t : Int) < R := by omega
            have htR : t < R := by omega
            have hct := hM.hd htR
            have hft := hM.hdf t
            have hfk := hM.hdf k
            go_upto_region 10 with fail
            go_cut [] from 20 to 161 (fun wx => (∃ B1 cp1 : Nat → Nat, Mat wx base g R (m + 1) B1 cp1 (swapM A t k) ∧ ∀ i, i < R → B1 i < w.heap.size) ∧ wx.ownsRow w.heap.size 3 1 u9 kl (ll.map (Value.int .i64)) ∧ Below base w wx)
            case first =>
              by_cases e : t = k
              · subst e
                go_region
                all_goals
                  go_wp2
                  go_meet
                  case rel =>
                    have hM2 := hM.swap htR hkR
                    exact ⟨⟨_, _, hM2.drew, swap_lt hBl htR hkR⟩, owns_drew (ownsRow_other (ownsRow_other hown _ _ hgl) _ _ hgl), ((hB.setCell hg _).setCell hg _).drew⟩
              · go_region
                all_goals
                  go_wp2
                  go_meet
                  case rel =>
                    have hM2 := hM.swap htR hkR
                    exact ⟨⟨_, _, hM2.drew, swap_lt hBl htR hkR⟩, owns_drew (ownsRow_other (ownsRow_other hown _ _ hgl) _ _ hgl), ((hB.setCell hg _).setCell hg _).drew⟩
            case rest =>
              obtain ⟨⟨B1, cp1, hM1, hBl1⟩, hown1, hB1⟩ := hcut
              obtain ⟨A1, HA1⟩ : ∃ A1, Hid (A1 = swapM A t k) := ⟨_, rfl⟩
              rw [← HA1.out] at hM1
              have hA1c : A1 t c = d := by rw [HA1.out, Hd.out]; unfold swapM; rw [if_pos rfl]
              have hA1r : ∀ i j, i < R → j ≤ m → 0 ≤ A1 i j ∧ A1 i j < P := by rw [HA1.out]; exact swap_rng HG.out htR hkR
              obtain ⟨e1, he1, he1P, HE1⟩ := inv_small hs hdr.1 hdr.2 hd0
              have HE : Hid ((e1 : Int) * d % P = 1) := HE1
              clear HE1 hc1 hc2 hct hft hfk hown hB hBl hM
              have hct := hM1.hd htR
              have hcc := hM1.cell htR (show c < m + 1 by omega)
              rw [hA1c] at hcc
              go_wp2
              go_loopw [12] (fun v wr' => ∃ e : Nat, v = .int .i64 e ∧ 1 ≤ e ∧ e ≤ e1 ∧ wr' = wc) (fun v _ => (e1 - intOf v).toNat)
              case atStart => exact ⟨1, rfl, by omega, by omega, rfl⟩
              case round =>
                obtain ⟨e, rfl, he, hee, rfl⟩ := hrel
                have hm0 : 0 ≤ (e : Int) * d := Int.mul_nonneg (by omega) (by omega)
                have hm1 : (e : Int) * d ≤ 7 * 7 := Int.mul_le_mul (by omega) (by omega) (by omega) (by omega)
                by_cases heq : (e : Int) * d % P = 1
                · have hed : ((e : Int) * d % P != 1) = false := by simp [heq]
                  have HEe : Hid (A k c * (e : Int) % P = 1) := by
                    show A k c * (e : Int) % P = 1
                    rw [← Hd.out, Int.mul_comm]; exact heq
                  have hePi : (e : Int) < P := by omega
                  go_wp2
                  clear heq hee HE hm0 hm1 hed he1 he1P hcc hct
                  go_loopw [13] (fun v wr' => ∃ j : Nat, v = .int .i64 j ∧ j ≤ m + 1 ∧ Mat wr' base g R (m + 1) B1 cp1 (scaleTo P A1 t e j) ∧ wr'.ownsRow w.heap.size 3 1 u9 kl (ll.map (Value.int .i64)) ∧ Below base w wr') (fun v _ => (m + 1 - intOf v).toNat)
                  case atStart => exact ⟨0, rfl, by omega, hM1.congr (fun i j _ _ => scaleTo_zero P A1 t e i j), hown1, hB1⟩
                  case round =>
                    clear hM1 hown1 hB1
                    obtain ⟨j, rfl, hj, hM2, hown2, hB2⟩ := hrel
                    by_cases hjm : j ≤ m
                    · have hji : (j : Int) ≤ m := by omega
                      have hji1 : (j : Int) < m + 1 := by omega
                      have hct := hM2.hd htR
                      have hcx := hM2.cell htR (show j < m + 1 by omega)
                      rw [scaleTo_at] at hcx
                      obtain ⟨x, Hx⟩ : ∃ x : Int, Hid (x = A1 t j) := ⟨_, rfl⟩
                      have hxr := hA1r t j htR hjm
                      rw [← Hx.out] at hcx hxr
                      have hfx := hM2.frozen htR j
                      have hm0 : 0 ≤ x * (e : Int) := Int.mul_nonneg (by omega) (by omega)
                      have hm1 : x * (e : Int) ≤ 7 * 7 := Int.mul_le_mul (by omega) (by omega) (by omega) (by omega)
                      have hlo := (hM2.lo t htR).1
                      have hB1t := hBl1 t htR
                      go_wp2
                      go_region
                      all_goals
                        go_wp2
                        go_roundw
                        case rel =>
                          exact ⟨j + 1, by go_num, by omega, ((hM2.set htR j (x * e % P)).congr (fun r y _ _ => scaleTo_succ Hx.out r y)).drew, owns_drew (ownsRow_other hown2 _ _ hB1t), (hB2.setCell hlo _).drew⟩
                        case measure => simp [intOf]; omega
                    · obtain rfl : j = m + 1 := by omega
                      have hjd : decide ((((m + 1 : Nat) : Int)) ≤ (m : Int)) = false := by simp; omega
                      obtain ⟨A2, HA2⟩ : ∃ A2, Hid (A2 = scaleM P A1 t e) := ⟨_, rfl⟩
                      have hM3 : Mat wr base g R (m + 1) B1 cp1 A2 := hM2.congr (fun i x _ hx => by
                        rw [HA2.out]; exact scaleTo_full i x hx)
                      have hA2r : ∀ i j, i < R → j ≤ m → 0 ≤ A2 i j ∧ A2 i j < P := by
                        rw [HA2.out]; intro i j hi hj
                        unfold scaleM
                        split
                        · exact ⟨Int.emod_nonneg _ (by omega), Int.emod_lt_of_pos _ (by omega)⟩
                        · exact hA1r i j hi hj
                      clear hM2 hA1r hA1c
                      go_wp2
                      go_loopw [14] (fun v wr' => ∃ i : Nat, v = .int .i64 i ∧ i ≤ R ∧ Mat wr' base g R (m + 1) B1 cp1 (clearTo P A2 t c i 0) ∧ wr'.ownsRow w.heap.size 3 1 u9 kl (ll.map (Value.int .i64)) ∧ Below base w wr') (fun v _ => (R - intOf v).toNat)
                      case atStart => exact ⟨0, rfl, by omega, hM3.congr (fun i j _ _ => clearTo_zero P A2 t c i j), hown2, hB2⟩
                      case round =>
                        clear hM3 hown2 hB2
                        obtain ⟨i, rfl, hiR, hM4, hown4, hB4⟩ := hrel
                        by_cases hiR' : i < R
                        · have hii : (i : Int) < R := by omega
                          by_cases hit : i = t
                          · have hitd : ((i : Int) != (t : Int)) = false := by simp; omega
                            go_wp2
                            go_roundw
                            case rel => exact ⟨i + 1, by go_num, by omega, hM4.congr (fun r x _ _ => clearTo_skip r x (.inl hit)), hown4, hB4⟩
                            case measure => simp [intOf]; omega
                          · have hitd : ((i : Int) != (t : Int)) = true := by simp; omega
                            have hci4 := hM4.hd hiR'
                            have hcf := hM4.cell hiR' (show c < m + 1 by omega)
                            rw [clearTo_at _ _ _ _ _ _ _ (Nat.zero_le _)] at hcf
                            obtain ⟨f, Hf⟩ : ∃ f : Int, Hid (f = A2 i c) := ⟨_, rfl⟩
                            have hfr := hA2r i c hiR' (by omega)
                            rw [← Hf.out] at hcf hfr
                            by_cases hf0 : f = 0
                            · have hf0d : (f != 0) = false := by simp [hf0]
                              go_wp2
                              go_roundw
                              case rel => exact ⟨i + 1, by go_num, by omega, hM4.congr (fun r x _ hx => clearTo_skip r x (.inr ⟨by rw [← Hf.out]; exact hf0, hA2r i x hiR' (by omega)⟩)), hown4, hB4⟩
                              case measure => simp [intOf]; omega
                            · have hf0d : (f != 0) = true := by simp [hf0]
                              go_wp2
                              go_loopw [16] (fun v wr' => ∃ j : Nat, v = .int .i64 j ∧ j ≤ m + 1 ∧ Mat wr' base g R (m + 1) B1 cp1 (clearTo P A2 t c i j) ∧ wr'.ownsRow w.heap.size 3 1 u9 kl (ll.map (Value.int .i64)) ∧ Below base w wr') (fun v _ => (m + 1 - intOf v).toNat)
                              case atStart => exact ⟨0, rfl, by omega, hM4, hown4, hB4⟩
                              case round =>
                                clear hM4 hown4 hB4 hci4 hcf
                                obtain ⟨j, rfl, hj, hM5, hown5, hB5⟩ := hrel
                                by_cases hjm : j ≤ m
                                · have hji : (j : Int) ≤ m := by omega
                                  have hji1 : (j : Int) < m + 1 := by omega
                                  have hct := hM5.hd htR
                                  have hci5 := hM5.hd hiR'
                                  have hcx := hM5.cell hiR' (show j < m + 1 by omega)
                                  have hcy := hM5.cell htR (show j < m + 1 by omega)
                                  rw [clearTo_at _ _ _ _ _ _ _ (Nat.le_refl _)] at hcx
                                  rw [clearTo_lead] at hcy
                                  obtain ⟨x, Hx⟩ : ∃ x : Int, Hid (x = A2 i j) := ⟨_, rfl⟩
                                  obtain ⟨y, Hy⟩ : ∃ y : Int, Hid (y = A2 t j) := ⟨_, rfl⟩
                                  have hxr := hA2r i j hiR' hjm
                                  have hyr := hA2r t j htR hjm
                                  rw [← Hx.out] at hcx hxr
                                  rw [← Hy.out] at hcy hyr
                                  have hfx := hM5.frozen hiR' j
                                  have hm0 : 0 ≤ f * y := Int.mul_nonneg (by omega) (by omega)
                                  have hm1 : f * y ≤ 7 * 7 := Int.mul_le_mul (by omega) (by omega) (by omega) (by omega)
                                  have htm := tmod_bd (x - f * y) P (by omega)
                                  have ht2 : 0 ≤ (x - f * y).tmod P + P := by omega
                                  have hlo := (hM5.lo i hiR').1
                                  have hB1i := hBl1 i hiR'
                                  have hemd : ((x - f * y).tmod P + P) % P = (x - f * y) % P := tmod_emod _ _
                                  go_wp2
                                  go_region
                                  all_goals
                                    go_wp2
                                    go_roundw
                                    case rel =>
                                      exact ⟨j + 1, by go_num, by omega, ((hM5.set hiR' j ((x - f * y) % P)).congr (fun r z _ _ => clearTo_succ hit Hx.out Hf.out Hy.out r z)).drew, owns_drew (ownsRow_other hown5 _ _ hB1i), (hB5.setCell hlo _).drew⟩
                                    case measure => simp [intOf]; omega
                                · obtain rfl : j = m + 1 := by omega
                                  have hjd : decide ((((m + 1 : Nat) : Int)) ≤ (m : Int)) = false := by simp; omega
                                  go_wp2
                                  go_roundw
                                  case rel => exact ⟨i + 1, by go_num, by omega, hM5.congr (fun r x _ hx => clearTo_row r x hx), hown5, hB5⟩
                                  case measure => simp [intOf]; omega
                        · obtain rfl : i = R := by omega
                          have hid : decide ((i : Int) < (i : Int)) = false := by simp
                          have hbs := hB4.size
                          have hbg : base ≤ wr.heap.size := by omega
                          go_wp2_with (first
                            | (at_builtin; refine wpList_append_own _ rfl _ _ 22 rfl w.heap.size 3 i3 (.int .i64 0) 1 8 und22 hi hz0 hz1 hz2 rfl (by decide) _ _ _ rfl (hown4.alloc _) ⟨wr.heap.size, 0, none⟩ 1 1 [.int .i64 (c : Int)] rfl rfl ?c1 ?c2 ?c3 ?c4 ?c5 ?_)
                            | go_in)
                          case c1 =>
                            intro j u hj
                            match j, hj with
                            | 0, hj => simp at hj; subst hj; simp [Addr.add]
                          case c2 => intro u hu; simp at hu; subst hu; rfl
                          case c3 => unfold maxLen; omega
                          case c4 => omega
                          case c5 => simp; omega
                          intro v' w6 hown6 hgrow6 _
                          have hM6 : Mat w6 base g i (m + 1) B1 cp1 (clearM P A2 t c) := by
                            have hMa : Mat (wr.alloc (Obj.cells #[.int .i64 (c : Int)] 3)) base g i (m + 1) B1 cp1 (clearTo P A2 t c i 0) := hM4.kept (fun k hk => (balloc wr _).block k (by
                              rcases hk with rfl | ⟨r, hr, rfl⟩
                              · exact hM4.glt
                              · exact (hM4.row r hr).lt))
                            refine (hMa.kept (fun k hk => hgrow6.block k ?_ ?_)).congr (fun r x hr _ => clearTo_full r x hr)
                            · rcases hk with rfl | ⟨r, hr, rfl⟩
                              · exact hMa.glt
                              · exact (hMa.row r hr).lt
                            · intro e
                              have h1 := (hown4.lt k e.symm).1
                              rcases hk with rfl | ⟨r, hr, rfl⟩
                              · omega
                              · have := hBl1 r hr; omega
                          have hB6 : Below base w w6 := (hB4.alloc hbg _).grown hgrow6 (by simp; omega) (fun k hk => by have := (hown4.lt k hk).1; omega)
                          have HG6 := HG.out.step (by omega) hlt hk1 hkR HEe.out
                          rw [← HA1.out, ← HA2.out] at HG6
                          go_wp2
                          go_roundw
                          case rel =>
                            exact ⟨c + 1, t + 1, by go_num, by go_num, by omega, by omega, B1, cp1, clearM P A2 t c, _, kl + 1, ll ++ [(c : Int)], hM6, hBl1, HG6, by rw [List.map_append]; exact hown6, by omega, hB6⟩
                          case measure => simp [intOf]; omega
                · have hed : ((e : Int) * d % P != 1) = true := by simp [heq]
                  have hle : e < e1 := by
                    by_cases h : e = e1
                    · subst h; exact absurd HE.out heq
                    · omega
                  go_wp2
                  go_roundw
                  case rel => exact ⟨e + 1, by go_num, by omega, by omega, trivial⟩
                  case measure => simp [intOf]; omega
        · obtain rfl : k = R := by omega
          have hdk : decide ((k : Int) < (k : Int)) = false := by simp
          go_wp2
          go_roundw
          case rel =>
            exact ⟨c + 1, t, rfl, by go_num, by omega, by omega, B, cp, A, ld, kl, ll, hM, hBl, HG.out.skip HK.out, hown, by omega, hB⟩
          case measure => simp [intOf]; omega
    · obtain rfl : c = m := by omega
      obtain ⟨B, cp, A, ld, kl, ll, hM, hBl, hG, hown, hkl, hB⟩ := HI
      have HG : Hid (Gs P A0 A R c c t ld) := hG
      have hrg := fun i hi => hG.rng i c hi (by omega)
      have htc := hG.lea
      clear hG hown
      have hcd : decide ((c : Int) < (c : Int)) = false := by simp
      go_wp2
      go_loopw [17] (fun v wr' => ∃ i : Nat, v = .int .i64 i ∧ t ≤ i ∧ i ≤ R ∧ Hid (∀ r, t ≤ r → r < i → A r c = 0) ∧ wr' = wr) (fun v _ => (R - intOf v).toNat)
      case atStart => exact ⟨t, rfl, by omega, by omega, (fun r h1 h2 => by omega : ∀ r, t ≤ r → r < t → A r c = 0), rfl⟩
      case round =>
        obtain ⟨i, rfl, hi1, hi2, HZ, rfl⟩ := hrel
        by_cases hiR : i < R
        · have hii : (i : Int) < R := by omega
          have hc1 := hM.hd hiR
          have hc2 := hM.cell hiR (show c < c + 1 by omega)
          obtain ⟨d, Hd⟩ : ∃ d : Int, Hid (d = A i c) := ⟨_, rfl⟩
          rw [← Hd.out] at hc2
          by_cases hd0 : d = 0
          · subst hd0
            go_wp2
            go_roundw
            case rel =>
              refine ⟨i + 1, by go_num, by omega, by omega, (fun r h1 h2 => ?_ : ∀ r, t ≤ r → r < i + 1 → A r c = 0), trivial⟩
              by_cases e : r = i
              · rw [e]; exact Hd.out.symm
              · exact HZ.out r h1 (by omega)
            case measure => simp [intOf]; omega
          · have hdd : (d != 0) = true := by simpa using hd0
            go_wp2
            go_ret2
            exact ⟨0, _, [], rfl, Sl.nil _, .inl ⟨rfl, HG.out.none hi1 hiR (by rw [← Hd.out]; exact hd0)⟩, hB⟩
        · obtain rfl : i = R := by omega
          have hid : decide ((i : Int) < (i : Int)) = false := by simp
          by_cases htl : t < c
          · have htd : decide ((t : Int) < (c : Int)) = true := by simp; omega
            go_wp2
            go_ret2
            exact ⟨2, _, [], rfl, Sl.nil _, .inr (.inl ⟨rfl, rfl, HG.out.some HZ.out, HG.out.free (by omega) htl⟩), hB⟩
          · obtain rfl : t = c := by omega
            have htd : decide ((t : Int) < (t : Int)) = false := by simp
            have hbg : base ≤ wr.heap.size := by have := hM.glt; omega
            go_wp2
            go_loopw [18, 19] (fun o v wr' => ∃ j : Nat, v = .int .i64 j ∧ j ≤ t ∧ wr'.ownsRow wr.heap.size 3 1 o j (((List.range j).map (fun r => A r t)).map (Value.int .i64)) ∧ Below wr.heap.size wr wr') (fun _ v _ => (t - intOf v).toNat)
            case atStart => exact ⟨0, rfl, by omega, World.ownsRow_nil _ _ _ _, Below.refl _ _⟩
            case round =>
              obtain ⟨j, rfl, hj, hown8, hB8⟩ := hrel
              have hB9 : Below base w wr := hB.trans (hB8.mono hbg)
              by_cases hjt : j < t
              · have hji : (j : Int) < t := by omega
                have hjR : j < i := by omega
                have hjRi : (j : Int) < i := by omega
                have hM8 : Mat wr base g i (t + 1) B cp A := hM.kept (fun k hk => hB8.block k (by
                  rcases hk with rfl | ⟨r, hr, rfl⟩
                  · exact hM.glt
                  · exact (hM.row r hr).lt))
                have hc1 := hM8.hd hjR
                have hc2 := hM8.cell hjR (show t < t + 1 by omega)
                have hbs := hB8.size
                obtain ⟨d, Hd⟩ : ∃ d : Int, Hid (d = A j t) := ⟨_, rfl⟩
                rw [← Hd.out] at hc2
                go_wp2_with (first
                  | (at_builtin; refine wpList_append_own _ rfl _ _ 22 rfl _ 3 i3 (.int .i64 0) 1 8 und22 hi hz0 hz1 hz2 rfl (by decide) _ _ _ rfl (hown8.alloc _) ⟨wr.heap.size, 0, none⟩ 1 1 [.int .i64 d] rfl rfl ?c1 ?c2 ?c3 ?c4 ?c5 ?_)
                  | go_in)
                case c1 =>
                  intro j u hj
                  match j, hj with
                  | 0, hj => simp at hj; subst hj; simp [Addr.add]
                case c2 => intro u hu; simp at hu; subst hu; rfl
                case c3 => unfold maxLen; omega
                case c4 => omega
                case c5 => simp; omega
                intro v' w6 hown6 hgrow6 _
                have hB10 := (hB8.alloc hbs _).grown hgrow6 (by simp; omega) (fun k hk => (hown8.lt k hk).1)
                go_wp2
                go_roundw
                case rel =>
                  refine ⟨j + 1, by go_num, by omega, ?_, hB10⟩
                  rw [List.range_succ, List.map_append, List.map_append, List.map_cons, List.map_nil, List.map_cons, List.map_nil, ← Hd.out]
                  first | exact hown6 | (rw [List.map_map]; exact hown6)
                case measure => simp [intOf]; omega
              · obtain rfl : j = t := by omega
                have hjd : decide ((j : Int) < (j : Int)) = false := by simp
                go_wp2
                go_ret2
                refine ⟨1, _, (List.range j).map (fun r => A r j), rfl, Sl.owned (by simpa using hown8), .inr (.inr ⟨rfl, by omega, by simp, fun x hx => ?_, HG.out.some HZ.out, fun x hx r hr => ?_⟩), hB9⟩
                · rw [show ((List.range j).map (fun r => A r j)).getD x 0 = A x j by simp [hx]]
                  exact hrg x (by omega)
                · rw [show ((List.range j).map (fun r => A r j)).getD r 0 = A r j by simp [hr]]
                  exact HG.out.only hx r hr

end Go.Proofs.Ytglomemadcdagaa
