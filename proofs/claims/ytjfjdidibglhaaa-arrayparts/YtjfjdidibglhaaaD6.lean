/- The walk of the document's Without. -/
import Derived.Test.YtjfjdidibglhaaaD5
namespace Go.Proofs.Ytjfjdidibglhaaa
open Go.RowKit

/-- What is kept of a run, ahead of a place. -/
def wiL (c : Nat) (l : List Int) (j : Nat) : List Int := (l.take j).eraseIdx c
theorem wi_at {c j : Nat} {l : List Int} (hj : j < l.length) (e : j = c) : wiL c l (j + 1) = wiL c l j := by
  subst e
  unfold wiL
  rw [List.take_add_one, List.getElem?_eq_getElem hj, List.eraseIdx_append_of_length_le (by rw [List.length_take]; omega)]
  have h1 : j - (l.take j).length = 0 := by rw [List.length_take]; omega
  have h2 : (l.take j).eraseIdx j = l.take j := List.eraseIdx_of_length_le (by rw [List.length_take]; omega)
  rw [h1, h2]
  simp
theorem wi_other {c j : Nat} {l : List Int} (hj : j < l.length) (e : j ≠ c) : wiL c l (j + 1) = wiL c l j ++ [l.getD j 0] := by
  unfold wiL
  rw [List.take_add_one, List.getElem?_eq_getElem hj, List.getD_eq_getElem?_getD, List.getElem?_eq_getElem hj]
  have hl : (l.take j).length = j := by rw [List.length_take]; omega
  by_cases h : c < j
  · rw [List.eraseIdx_append_of_lt_length (by rw [hl]; exact h)]
    rfl
  · rw [List.eraseIdx_append_of_length_le (by rw [hl]; omega), hl]
    have h2 : (l.take j).eraseIdx c = l.take j := List.eraseIdx_of_length_le (by rw [hl]; omega)
    rw [h2, List.eraseIdx_of_length_le (by simp; omega)]
    rfl
theorem wi_len (c : Nat) (l : List Int) (j : Nat) : (wiL c l j).length ≤ j := by
  unfold wiL
  refine Nat.le_trans (List.length_eraseIdx_le _ _) ?_
  rw [List.length_take]
  omega
/-- Rows that are kept: all of them (level -1), or those of a level. -/
def keB (c : Nat) (lev : Int) (l : List Int) : Bool := decide (lev < 0) || (l.getD c 0 == lev)
def keL (c : Nat) (lev : Int) (ls : List (List Int)) : List (List Int) := (ls.filter (keB c lev)).map (·.eraseIdx c)
theorem keL_all (c : Nat) (ls : List (List Int)) : keL c (-1) ls = ls.map (·.eraseIdx c) := by
  have e : ls.filter (keB c (-1)) = ls := List.filter_eq_self.2 fun l _ => rfl
  unfold keL
  rw [e]
theorem keL_lev (c lev : Nat) (ls : List (List Int)) : keL c lev ls = tkL c lev ls := by
  unfold keL tkL
  congr 1
theorem keL_yes {c i : Nat} {lev : Int} {ls : List (List Int)} {l : List Int} (h : ls[i]? = some l) (e : keB c lev l = true) : keL c lev (ls.take (i + 1)) = keL c lev (ls.take i) ++ [l.eraseIdx c] := by
  unfold keL
  rw [List.take_add_one, h, List.filter_append, List.map_append]
  simp only [Option.toList_some, List.filter_cons, e, if_true, List.filter_nil, List.map_cons, List.map_nil]
theorem keL_no {c i : Nat} {lev : Int} {ls : List (List Int)} {l : List Int} (h : ls[i]? = some l) (e : keB c lev l = false) : keL c lev (ls.take (i + 1)) = keL c lev (ls.take i) := by
  unfold keL
  rw [List.take_add_one, h, List.filter_append, List.map_append]
  simp only [Option.toList_some, List.filter_cons, e, List.filter_nil, List.map_nil, List.append_nil, Bool.false_eq_true, if_false]
theorem keL_len (c i : Nat) (lev : Int) (ls : List (List Int)) : (keL c lev (ls.take i)).length ≤ i := by
  unfold keL
  rw [List.length_map]
  exact Nat.le_trans (List.length_filter_le _ _) (by rw [List.length_take]; omega)
set_option maxRecDepth 100000 in
set_option maxHeartbeats 16000000 in
theorem Without_any (s k c : Nat) (lev : Int) (ls : List (List Int)) (v : Value) (w : World) (hv : Rw w v ls) (hG : GoodA s (k + 1) ls) (hc : c < k + 1) :
    Calls Try.prog 15 #[v, .int .i64 (c : Int), .int .i64 lev] w fun e w' => (∃ y, e = .returned y ∧ OZ w' w.heap.size y (keL c lev ls)) ∧ Below w.heap.size w w' := by
  obtain ⟨i40, ji3, jz0, jz1, jz2⟩ := info40
  have HI : Hid (Try.prog.info? 40 = some i40 ∧ i40.zero = some (.slice none 0 0) ∧ i40.size = 1 ∧ i40.bytes = 24) := ⟨ji3, jz0, jz1, jz2⟩
  clear ji3 jz0 jz1 jz2
  obtain ⟨i3, ti, tz0, tz1, tz2⟩ := info3
  have HI3 : Hid (Try.prog.info? 3 = some i3 ∧ i3.zero = some (.int .i64 0) ∧ i3.size = 1 ∧ i3.bytes = 8) := ⟨ti, tz0, tz1, tz2⟩
  clear ti tz0 tz1 tz2
  have hk8 := hG.k8
  have hn128 := hG.n128
  obtain ⟨n, Hn⟩ : ∃ n, Hid (ls.length = n) := ⟨_, rfl⟩
  have HV : Hid (∀ W, Below w.heap.size w W → Rw W v ls) := fun W b => hv.below b
  obtain ⟨a, cap, rfl, -⟩ := hv
  rw [Hn.out] at HV hn128 ⊢
  have HAT : Hid (∀ i, i < n → ∃ b, ls[i]? = some b) := fun i hi => ⟨_, List.getElem?_eq_getElem (by rw [Hn.out]; exact hi)⟩
  have HLK : Hid (∀ (i : Nat) (l : List Int), ls[i]? = some l → l.length = k + 1) := fun i l h => hG.len l (List.mem_of_getElem? h)
  have HEN : Hid (keL c lev (ls.take n) = keL c lev ls) := by show _ = _; rw [List.take_of_length_le (by rw [Hn.out]; exact Nat.le_refl _)]
  have HOZ0 : Hid (OZ w w.heap.size (.slice none 0 0) (keL c lev (ls.take 0))) := OZ.nil _ _
  clear hG
  go_enter Try.func15, Try.ntmps15
  go_wp2
  go_loopw [7, 8, 9, 10] (fun ov iv _ _ wr => ∃ i : Nat, iv = .int .i64 (i : Int) ∧ i ≤ n ∧ OZ wr w.heap.size ov (keL c lev (ls.take i)) ∧ Below w.heap.size w wr) (fun _ iv _ _ _ => (n - intOf iv).toNat)
  case atStart => exact ⟨0, rfl, by omega, HOZ0.out, Below.refl _ _⟩
  case round =>
    clear HOZ0
    obtain ⟨i, rfl, hi, hO, hB⟩ := hrel
    have hs3 := hB.size
    by_cases hlt : i < n
    · have hdi : decide ((i : Int) < (n : Int)) = true := by simp; omega
      have hii : (i : Int) < (n : Int) := by omega
      obtain ⟨l, hli⟩ := HAT.out i hlt
      have hlk := HLK.out i l hli
      obtain ⟨b, off, x, rfl, hci, hSi⟩ := (HV.out wr hB).at hli rfl
      obtain ⟨lb, lo, lc, rfl, hlb, hcj0⟩ := hSi.form hlk (show 0 < k + 1 by omega)
      have hbl := block_lt_of_cell hci
      have hcj := hcj0 c hc
      have hcc : (c : Int) < (k : Int) + 1 := by omega
      have HY : Hid (keB c lev l = true → keL c lev (ls.take (i + 1)) = keL c lev (ls.take i) ++ [l.eraseIdx c]) := keL_yes hli
      have HNO : Hid (keB c lev l = false → keL c lev (ls.take (i + 1)) = keL c lev (ls.take i)) := keL_no hli
      have hLl : (keL c lev (ls.take i)).length ≤ i := keL_len c i lev ls
      obtain ⟨Ls, HLs⟩ : ∃ Ls, Hid (keL c lev (ls.take i) = Ls) := ⟨_, rfl⟩
      rw [HLs.out] at hO HY HNO hLl
      obtain ⟨q, Hq⟩ : ∃ q, Hid (Ls.length = q) := ⟨_, rfl⟩
      rw [Hq.out] at hLl
      obtain ⟨oa, oc, eo⟩ := hO.form
      rw [Hq.out] at eo
      subst eo
      obtain ⟨w1, Hw1⟩ : ∃ w1 : World, Hid (w1 = wr) := ⟨_, rfl⟩
      have HCI : Hid (∀ W, Below w1.heap.size w1 W → W.cell? ⟨b, off + i, none⟩ = some (.slice (some ⟨lb, lo, none⟩) (k + 1) lc)) := fun W b' => by rw [Hw1.out] at b'; exact (b'.cell (p := ⟨b, off + i, none⟩) hbl).trans hci
      have HCJ : Hid (∀ (W : World) (j : Nat), Below w1.heap.size w1 W → j < k + 1 → W.cell? ⟨lb, lo + j, none⟩ = some (.int .i64 (l.getD j 0))) := fun W j b' hj => by rw [Hw1.out] at b'; exact (b'.cell (p := ⟨lb, lo + j, none⟩) hlb).trans (hcj0 j hj)
      have HB1 : Hid (Below w.heap.size w w1) := by rw [Hw1.out]; exact hB
      have HO1 : Hid (OZ w1 w.heap.size (.slice oa q oc) Ls) := by rw [Hw1.out]; exact hO
      have hkeep : (lev < 0 ∨ (0 ≤ lev ∧ l.getD c 0 = lev)) ∨ (0 ≤ lev ∧ l.getD c 0 ≠ lev) := by omega
      obtain ⟨xc, Hxc⟩ : ∃ xc, Hid (l.getD c 0 = xc) := ⟨_, rfl⟩
      have HKB : Hid (keB c lev l = (decide (lev < 0) || (xc == lev))) := by show _ = _; rw [← Hxc.out]; rfl
      rw [Hxc.out] at hcj hkeep
      clear hcj0 hSi hO
      rcases hkeep with hkp | ⟨h0, hne⟩
      · have HHT : Hid (keL c lev (ls.take (i + 1)) = Ls ++ [l.eraseIdx c]) := HY.out (by
          rw [HKB.out, Bool.or_eq_true, decide_eq_true_eq, beq_iff_eq]
          rcases hkp with h | ⟨_, h⟩
          · exact .inl h
          · exact .inr h)
        have HEL : Hid (wiL c l (k + 1) = l.eraseIdx c) := by show _ = _; unfold wiL; rw [List.take_of_length_le (by rw [hlk]; exact Nat.le_refl _)]
        have HLL : Hid (l.length = k + 1) := hlk
        have hstart : Hid (w1.ownsRow w1.heap.size 3 1 (.slice none 0 0) (wiL c l 0).length ((wiL c l 0).map (Value.int .i64))) := World.ownsRow_nil _ _ _ _
        have hfork : (∃ d0 : Bool, decide (0 ≤ lev) = d0 ∧ (d0 = true → ((xc != lev) = false))) := ⟨decide (0 ≤ lev), rfl, fun h => by
          have h' := of_decide_eq_true h
          rcases hkp with k1 | ⟨_, k1⟩
          · omega
          · rw [k1]; simp⟩
        obtain ⟨d0, hd0, hd1⟩ := hfork
        clear hkp HY HNO HKB hli hlk
        have part : ∀ P : Prop, (d0 = false → P) → (d0 = true → P) → P := fun P h1 h2 => by cases d0; exact h1 rfl; exact h2 rfl
        apply part
        all_goals
          intro ed
          subst ed
          (try (have hd2 := hd1 rfl))
          clear hd1 part
          go_wp2
          go_loopw [9, 10] (fun rv jv wr' => ∃ j : Nat, jv = .int .i64 (j : Int) ∧ j ≤ k + 1 ∧ wr'.ownsRow w1.heap.size 3 1 rv (wiL c l j).length ((wiL c l j).map (Value.int .i64)) ∧ Below w1.heap.size w1 wr') (fun _ jv _ => (k + 1 - intOf jv).toNat)
          case atStart => exact ⟨0, rfl, by omega, by rw [← Hw1.out]; exact hstart.out, by rw [Hw1.out]; exact Below.refl _ _⟩
          case round =>
            clear hB hci hcj hstart
            obtain ⟨j, rfl, hj, hown, hB2⟩ := hrel
            have hci := HCI.out _ hB2
            have hs2 := hB2.size
            have hwl := wi_len c l j
            by_cases hlj : j < k + 1
            · have hdj : decide ((j : Int) < (k : Int) + 1) = true := by simp; omega
              have hdjn : decide (j < k + 1) = true := by simp; omega
              have hji : (j : Int) < (k : Int) + 1 := by omega
              have hcj := HCJ.out _ j hB2 hlj
              have H1 : Hid (j = c → wiL c l (j + 1) = wiL c l j) := fun e => wi_at (by rw [HLL.out]; exact hlj) e
              have H2 : Hid (j ≠ c → wiL c l (j + 1) = wiL c l j ++ [l.getD j 0]) := fun e => wi_other (by rw [HLL.out]; exact hlj) e
              obtain ⟨xj, Hxj⟩ : ∃ xj, Hid (l.getD j 0 = xj) := ⟨_, rfl⟩
              rw [Hxj.out] at hcj H2
              obtain ⟨R, HR⟩ : ∃ R, Hid (wiL c l j = R) := ⟨_, rfl⟩
              rw [HR.out] at hown hwl H1 H2
              obtain ⟨rl, Hrl⟩ : ∃ rl, Hid (R.length = rl) := ⟨_, rfl⟩
              rw [Hrl.out] at hown hwl
              obtain ⟨ra, rc, rfl⟩ := own_sliceI hown
              by_cases e : j = c
              · have de : ((j : Int) != (c : Int)) = false := by simp; omega
                have HW : Hid (wiL c l (j + 1) = R) := H1.out e
                clear e H1 H2
                go_wp2
                go_roundw
                case rel => exact ⟨j + 1, by go_num, by omega, by rw [HW.out, Hrl.out]; exact hown, hB2⟩
                case measure => simp [intOf]; omega
              · have de : ((j : Int) != (c : Int)) = true := by simp; omega
                have HW : Hid (wiL c l (j + 1) = R ++ [xj]) := H2.out e
                have hi3 := HI3.out.1
                have hz0 := HI3.out.2.1
                have hz1 := HI3.out.2.2.1
                have hz2 := HI3.out.2.2.2
                clear e H1 H2
                go_wp2_with (first
                  | (at_builtin; refine wpList_append_own _ rfl _ _ 40 rfl w1.heap.size 3 i3 (.int .i64 0) 1 8 und22 hi3 hz0 hz1 hz2 rfl (by decide) _ _ _ rfl (hown.alloc _) ⟨wr.heap.size, 0, none⟩ 1 1 [.int .i64 xj] rfl rfl (fun j u hj => by (match j, hj with | 0, hj => simp at hj; subst hj; simp [Addr.add])) (fun u hu => by (simp at hu; subst hu; rfl)) (by (unfold maxLen; omega)) (by omega) (by (simp; omega)) ?_; intro v' w2 hown' hgrow _)
                  | go_in)
                have hb2 : Below w1.heap.size w1 w2 := (hB2.alloc (by omega) _).grown hgrow (by simp; omega) (fun k hk => (hown.lt k hk).1)
                have hown2 : w2.ownsRow w1.heap.size 3 1 v' (wiL c l (j + 1)).length ((wiL c l (j + 1)).map (Value.int .i64)) := by
                  rw [HW.out, List.length_append, List.map_append, Hrl.out]
                  exact hown'
                clear hown' hgrow hown hB2 hi3 hz0 hz1 hz2
                go_roundw
                case rel => exact ⟨j + 1, by go_num, by omega, hown2, hb2⟩
                case measure => simp [intOf]; omega
            · have hdj : decide ((j : Int) < (k : Int) + 1) = false := by simp; omega
              have hdjn : decide (j < k + 1) = false := by simp; omega
              have hjk : j = k + 1 := by omega
              have hrow : wr.ownsRow w1.heap.size 3 1 u9 (l.eraseIdx c).length ((l.eraseIdx c).map (Value.int .i64)) := by
                rw [hjk, HEL.out] at hown
                exact hown
              obtain ⟨el, Hel⟩ : ∃ el, Hid (l.eraseIdx c = el) := ⟨_, rfl⟩
              rw [Hel.out] at hrow HHT
              obtain ⟨rl, Hrl⟩ : ∃ rl, Hid (el.length = rl) := ⟨_, rfl⟩
              rw [Hrl.out] at hrow
              obtain ⟨ra, rc, rfl⟩ := own_sliceI hrow
              obtain ⟨vals, hv1, hv2⟩ := HO1.out.below hB2
              rw [Hq.out] at hv1
              have hi3 := HI.out.1
              have hz0 := HI.out.2.1
              have hz1 := HI.out.2.2.1
              have hz2 := HI.out.2.2.2
              have hBB := Below.next HB1.out hB2
              have hsB := HB1.out.size
              clear hown hlj hjk hwl
              go_wp2_with (first
                | (at_builtin; refine wpList_append_own _ rfl _ _ 22 rfl w.heap.size 40 i40 (.slice none 0 0) 1 24 undR hi3 hz0 hz1 hz2 rfl (by decide) _ _ _ rfl (hv1.alloc _) ⟨wr.heap.size, 0, none⟩ 1 1 [.slice ra rl rc] rfl rfl (news_row wr _ _) (fun u hu => by (simp at hu; subst hu; rfl)) (by (unfold maxLen; omega)) (by omega) (by (simp; omega)) ?_; intro v' w3 hown' hgrow _)
                | go_in)
              have hal := balloc wr (.cells #[.slice ra rl rc] 40)
              have hB3 : Below w.heap.size w w3 := (hBB.alloc (by omega) _).grown hgrow (by simp; omega) (fun k hk => (hv1.lt k hk).1)
              have hO3 : OZ w3 w.heap.size v' (Ls ++ [el]) := OZ.more (own_keep (by rw [Hq.out]; exact hv1) fun b _ hb => hal.block b hb) (fun j u m e1 e2 => (hv2 j u m e1 e2).below hal) (show OZw _ _ _ _ from (show OZw wr w.heap.size (.slice ra rl rc) el from by unfold OZw; rw [Hrl.out]; exact ownsRow_low hrow hsB).below hal) (by rw [Hq.out]; exact hown') hgrow
              clear hown' hgrow hv1 hv2
              go_roundw
              case rel => exact ⟨i + 1, by go_num, by omega, by rw [HHT.out]; exact hO3, hB3⟩
              case measure => simp [intOf]; omega
      · have HHT : Hid (keL c lev (ls.take (i + 1)) = Ls) := HNO.out (by
          rw [HKB.out, Bool.or_eq_false_iff, decide_eq_false_iff_not, beq_eq_false_iff_ne]
          exact ⟨by omega, hne⟩)
        have d0 : decide (0 ≤ lev) = true := decide_eq_true h0
        have d1 : (xc != lev) = true := by simpa using hne
        have hO2 : OZ wr w.heap.size (.slice oa q oc) Ls := by rw [← Hw1.out]; exact HO1.out
        clear HY HNO HKB hli hlk h0 hne
        go_wp2
        go_roundw
        case rel => exact ⟨i + 1, by go_num, by omega, by rw [HHT.out]; exact hO2, hB⟩
        case measure => simp [intOf]; omega
    · have hdi : decide ((i : Int) < (n : Int)) = false := by simp; omega
      obtain rfl : i = n := by omega
      rw [HEN.out] at hO
      go_wp2
      go_ret
      exact ⟨⟨_, rfl, hO⟩, hB⟩
end Go.Proofs.Ytjfjdidibglhaaa
