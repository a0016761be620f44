/- The walk of the document's DerivedOf. -/
import Derived.Test.YtnnopfdckillpaaDoorDDu
import Derived.Test.YtnnopfdckillpaaDoorDPart
namespace Go.Proofs.YtnnopfdckillpaaDoor
open Go.RowKit

set_option maxRecDepth 100000 in
set_option maxHeartbeats 500000 in
theorem DerivedOf_main (v p : Nat) (B : List (List Nat)) (u : Value) (w : World) (G : GoodD v B) (hu : Rw w u (toZ B)) (hp : p < v) (hv2 : 2 ≤ v) :
    Calls Tryd.prog 15 #[.agg #[.int .i64 (v : Int), u], .int .i64 (p : Int)] w fun e w' => ∃ x, e = .returned (.tuple #[.agg #[.int .i64 ((v - 1 : Nat) : Int), x], .int .i64 0]) ∧ OR w' (w.heap.size + 3) x (deriv v p B) ∧ Below w.heap.size w w' := by
  obtain ⟨a, cap, rfl, hD⟩ := drow_of hu
  obtain ⟨i3, hi3, hz0, hz1, hz2⟩ := info3
  obtain ⟨i36, ji3, jz0, jz1, jz2⟩ := info36
  have h200 := G.few
  have hv40 := G.le
  have HD : Hid (DRow w a B) := hD
  have HBL : Hid (∀ b ∈ B, b.length ≤ v) := fun b hb => (G.bls b hb).le
  have HAT : Hid (∀ i, i < B.length → ∃ b, B[i]? = some b) := fun i hi => ⟨_, List.getElem?_eq_getElem hi⟩
  have HTA : Hid (deriv v p (B.take B.length) = deriv v p B) := by show _ = _; rw [List.take_length]
  have HLN : Hid (∀ i, (deriv v p (B.take i)).length ≤ i) := fun i => by
    unfold deriv
    rw [List.length_map]
    have := List.length_filter_le (fun b => b.contains p) (B.take i)
    rw [List.length_take] at this
    omega
  obtain ⟨c, hc⟩ : ∃ c, c = v - 1 := ⟨_, rfl⟩
  have hci : (v : Int) - 1 = (c : Int) := by omega
  have hbx := BoxS.start w v c (.slice a B.length cap)
  have hb0 : Below w.heap.size w (((w.alloc (.cells #[.int .i64 (v : Int), .slice a B.length cap] 24)).alloc (.cells #[.int .i64 0, .slice none 0 0] 24)).alloc (.cells #[.int .i64 (c : Int), .slice none 0 0] 24)) := Below.next (Below.next (balloc _ _) (balloc _ _)) (balloc _ _)
  obtain ⟨M, HM⟩ : ∃ M, Hid (deriv v p B = M) := ⟨_, rfl⟩
  rw [HM.out] at HTA ⊢
  rw [← hc]
  have HSU : Hid (∀ (b : List Nat) x, (List.range (x + 1)).filter (fun x => b.contains (sk p x)) = (List.range x).filter (fun x => b.contains (sk p x)) ++ if b.contains (sk p x) = true then [x] else []) := fun b x => filter_succ _ x
  have HTS : Hid (∀ i b, B[i]? = some b → b.contains p = true → deriv v p (B.take (i + 1)) = deriv v p (B.take i) ++ [(List.range c).filter fun x => b.contains (sk p x)]) := fun i b h hb => by
    unfold deriv
    rw [List.take_add_one, h, List.filter_append, List.map_append, hc]
    simp []
    have hb' : p ∈ b := by simpa using hb
    simp [hb']
  have HTN : Hid (∀ i b, B[i]? = some b → b.contains p = false → deriv v p (B.take (i + 1)) = deriv v p (B.take i)) := fun i b h hb => by
    unfold deriv
    rw [List.take_add_one, h, List.filter_append, List.map_append]
    have hb' : p ∉ b := by simpa using hb
    simp [hb']
  have HOL : Hid (∀ (b : List Nat) x, ((List.range x).filter (fun x => b.contains (sk p x))).length ≤ x) := fun b x => by
    have := List.length_filter_le (fun x => b.contains (sk p x)) (List.range x)
    rw [List.length_range] at this
    exact this
  have HSK : Hid (∀ x, sk p x = if p ≤ x then x + 1 else x) := fun x => by show _ = _; unfold sk; split <;> split <;> omega
  have hd1 : decide ((p : Int) < 0) = false := decide_eq_false (by omega)
  have hd2 : decide ((v : Int) ≤ (p : Int)) = false := decide_eq_false (by omega)
  have hd3 : decide (v ≤ p) = false := decide_eq_false (by omega)
  have hn0 : ((v : Int) == 1) = false := beq_eq_false_iff_ne.2 (by omega)
  have hc40 : c ≤ 39 := by omega
  have HCV : Hid (c = v - 1) := hc
  clear hc
  generalize hBn : B.length = n at *
  obtain ⟨s, Hs⟩ : ∃ s, Hid (w.heap.size = s) := ⟨_, rfl⟩
  have hs : w.heap.size = s := Hs.out
  rw [hs] at hbx
  clear hD hu
  have q0 : ((w.alloc (.cells #[.int .i64 (v : Int), .slice a n cap] 24)).alloc (.cells #[.int .i64 0, .slice none 0 0] 24)).cell? ⟨s, 0, none⟩ = some (.int .i64 (v : Int)) := by rw [← hs]; exact (des_box v (.slice a n cap) w _ (balloc _ _)).1
  go_enter Tryd.func15, Tryd.ntmps15
  go_wp2
  go_loopw [7] (fun iv wr => ∃ (i : Nat) (ov : Value) (Ls : List (List Nat)), iv = .int .i64 (i : Int) ∧ i ≤ n ∧ Hid (deriv v p (B.take i) = Ls) ∧ BoxS s v c (.slice a n cap) ov wr ∧ OR wr (s + 3) ov Ls ∧ Below s w wr) (fun iv _ => (n - intOf iv).toNat)
  case atStart => exact ⟨0, _, [], rfl, by omega, (by simp [deriv] : deriv v p (B.take 0) = []), hbx, OR.nil _ _, hs ▸ hb0⟩
  case round =>
    clear hbx hb0 q0
    obtain ⟨i, ov, Ls, rfl, hi, HLs, hbx, hOR, hB⟩ := hrel
    have hsz := hbx.lt
    have hLl : Ls.length ≤ i := by rw [← HLs.out]; exact HLN.out i
    obtain ⟨y0, y1, y2, y3⟩ := hbx.cells
    by_cases hlt : i < n
    · have hdi : decide ((i : Int) < (n : Int)) = true := by simp; omega
      have hii : (i : Int) < (n : Int) := by omega
      obtain ⟨b, hbi⟩ := HAT.out i hlt
      obtain ⟨bb, off, ua, uc, rfl, hrow⟩ := HD.out i b hbi
      have HROW : Hid (∀ W, Below w.heap.size w W → W.cell? ⟨bb, off + i, none⟩ = some (.slice ua b.length uc) ∧ Sl W (.slice ua b.length uc) (b.map Int.ofNat)) := hrow
      obtain ⟨hr, hrs⟩ := hrow _ (by rw [hs]; exact hB)
      have hbl := HBL.out b (List.mem_of_getElem? hbi)
      have HLB : Hid (b.length ≤ 99) := by show _ ≤ _; omega
      have CL := Lies_any b p _ _ wr hrs HLB.out rfl
      have HTY := fun h => HTS.out i b hbi h
      have HTZ := fun h => HTN.out i b hbi h
      replace HTY : Hid (b.contains p = true → deriv v p (B.take (i + 1)) = Ls ++ [(List.range c).filter fun x => b.contains (sk p x)]) := by rw [← HLs.out]; exact HTY
      replace HTZ : Hid (b.contains p = false → deriv v p (B.take (i + 1)) = Ls) := by rw [← HLs.out]; exact HTZ
      generalize hbn : b.length = bn at *
      cases hcp : b.contains p with
      | false =>
        rw [hcp] at CL
        have HL2 : Hid (deriv v p (B.take (i + 1)) = Ls) := HTZ.out hcp
        clear hcp HTY HTZ hbi hrow hrs
        go_wp2_with (go_at_call 33; refine CL.mono ?_; rintro e w4 ⟨rfl, hw⟩; replace hw := hw.symm; subst hw; clear CL)
        go_roundw
        case rel => exact ⟨i + 1, ov, Ls, by go_num, by omega, HL2, hbx, hOR, hB⟩
        case measure => simp [intOf]; omega
      | true =>
        rw [hcp] at CL
        have HTS1 : Hid (deriv v p (B.take (i + 1)) = Ls ++ [(List.range c).filter fun x => b.contains (sk p x)]) := HTY.out hcp
        obtain ⟨w1, Hw1⟩ : ∃ w1 : World, Hid (w1 = wr) := ⟨_, rfl⟩
        have HBX : Hid (BoxS s v c (.slice (some ⟨bb, off, none⟩) n cap) ov w1) := by rw [Hw1.out]; exact hbx
        have HOR : Hid (OR w1 (s + 3) ov Ls) := by rw [Hw1.out]; exact hOR
        have HB1 : Hid (Below s w w1) := by rw [Hw1.out]; exact hB
        have HSZ : Hid (s + 3 ≤ w1.heap.size) := by rw [Hw1.out]; exact hsz
        clear hcp HTY HTZ hbi hrow hrs hbx hOR hB hsz
        go_wp2_with (go_at_call 33; refine CL.mono ?_; rintro e w4 ⟨rfl, hw⟩; replace hw := hw.symm; subst hw; clear CL)
        go_loopw [9, 10] (fun bv xv wr' => ∃ (x : Nat) (l : List Nat), xv = .int .i64 (x : Int) ∧ x ≤ c ∧ Hid ((List.range x).filter (fun x => b.contains (sk p x)) = l) ∧ wr'.ownsRow w1.heap.size 3 1 bv l.length ((l.map Int.ofNat).map (Value.int .i64)) ∧ Below w1.heap.size w1 wr') (fun _ xv _ => (c - intOf xv).toNat)
        case atStart => exact ⟨0, [], rfl, by omega, rfl, World.ownsRow_nil _ _ _ _, by rw [Hw1.out]; exact Below.refl _ _⟩
        case round =>
          clear y0 y1 y2 y3 hr
          obtain ⟨x, l, rfl, hx, HL, hown, hB⟩ := hrel
          have hbz := hB.size
          have hBs : Below s w wr := (HB1.out).trans (hB.mono (by have := HSZ.out; omega))
          have hbx := HBX.out.low (hB.mono HSZ.out)
          obtain ⟨y0, y1, y2, y3⟩ := hbx.cells
          have hll : l.length ≤ x := by rw [← HL.out]; exact HOL.out b x
          obtain ⟨hr, hrs⟩ := HROW.out _ (by rw [hs]; exact hBs)
          by_cases hlx : x < c
          · have hdx : decide ((x : Int) < (c : Int)) = true := by simp; omega
            have hsu := HSU.out b x
            rw [HL.out] at hsu
            have CL := Lies_any b (sk p x) _ _ wr hrs (by rw [hbn]; exact HLB.out) rfl
            have hsk := HSK.out x
            obtain ⟨y, Hy⟩ : ∃ y, Hid (sk p x = y) := ⟨_, rfl⟩
            rw [Hy.out] at CL hsu hsk
            by_cases hpx : p ≤ x
            · rw [if_pos hpx] at hsk
              subst hsk
              have hdp : decide ((p : Int) ≤ (x : Int)) = true := decide_eq_true (by omega)
              have hdp2 : decide (p ≤ x) = true := decide_eq_true hpx
              have hci2 : (((x + 1 : Nat) : Int)) = (x : Int) + 1 := by omega
              rw [hci2] at CL
              cases hc : b.contains (x + 1) with
              | false =>
                rw [hc] at CL hsu
                have HL2 : Hid ((List.range (x + 1)).filter (fun x => b.contains (sk p x)) = l) := by rw [hsu]; show _ = _; simp
                clear hc hsu HL hrs hpx hci2
                go_wp2_with (go_at_call 33; refine CL.mono ?_; rintro e w4 ⟨rfl, hw⟩; replace hw := hw.symm; subst hw; clear CL)
                go_roundw
                case rel => exact ⟨x + 1, l, by go_num, by omega, HL2, hown, hB⟩
                case measure => simp [intOf]; omega
              | true =>
                rw [hc] at CL hsu
                have HL2 : Hid ((List.range (x + 1)).filter (fun x => b.contains (sk p x)) = l ++ [x]) := by rw [hsu]; show _ = _; simp
                clear hc hsu HL hrs hpx hci2
                obtain ⟨k, Hk⟩ : ∃ k, Hid (l.length = k) := ⟨_, rfl⟩
                rw [Hk.out] at hown hll
                go_wp2_with (first
                  | (go_at_call 33; refine CL.mono ?_; rintro e w4 ⟨rfl, hw⟩; replace hw := hw.symm; subst hw; clear CL)
                  | (at_builtin; refine wpList_append_own _ rfl _ _ 33 rfl w1.heap.size 3 i3 (.int .i64 0) 1 8 und22 hi3 hz0 hz1 hz2 rfl (by decide) _ _ _ rfl (hown.alloc _) ⟨wr.heap.size, 0, none⟩ 1 1 [.int .i64 (x : Int)] rfl rfl ?c1 ?c2 ?c3 ?c4 ?c5 ?_)
                  | go_in)
                case c1 =>
                  intro j u hj
                  match j, hj with
                  | 0, hj => simp at hj; subst hj; simp [Addr.add]
                case c2 => intro u hu; simp at hu; subst hu; rfl
                case c3 => unfold maxLen; omega
                case c4 => omega
                case c5 => simp; omega
                · intro v' w2 hown' hgrow _
                  have hb2 : Below w1.heap.size w1 w2 := (hB.alloc hbz _).grown hgrow (by simp; omega) (fun k hk => (hown.lt k hk).1)
                  go_wp2
                  go_roundw
                  case rel => exact ⟨x + 1, l ++ [x], by go_num, by omega, HL2, by simpa [Hk.out] using hown', hb2⟩
                  case measure => simp [intOf]; omega
            · rw [if_neg hpx] at hsk
              subst hsk
              have hdp : decide ((p : Int) ≤ (y : Int)) = false := decide_eq_false (by omega)
              have hdp2 : decide (p ≤ y) = false := decide_eq_false hpx
              cases hc : b.contains y with
              | false =>
                rw [hc] at CL hsu
                have HL2 : Hid ((List.range (y + 1)).filter (fun x => b.contains (sk p x)) = l) := by rw [hsu]; show _ = _; simp
                clear hc hsu HL hrs hpx
                go_wp2_with (go_at_call 33; refine CL.mono ?_; rintro e w4 ⟨rfl, hw⟩; replace hw := hw.symm; subst hw; clear CL)
                go_roundw
                case rel => exact ⟨y + 1, l, by go_num, by omega, HL2, hown, hB⟩
                case measure => simp [intOf]; omega
              | true =>
                rw [hc] at CL hsu
                have HL2 : Hid ((List.range (y + 1)).filter (fun x => b.contains (sk p x)) = l ++ [y]) := by rw [hsu]; show _ = _; simp
                clear hc hsu HL hrs hpx
                obtain ⟨k, Hk⟩ : ∃ k, Hid (l.length = k) := ⟨_, rfl⟩
                rw [Hk.out] at hown hll
                go_wp2_with (first
                  | (go_at_call 33; refine CL.mono ?_; rintro e w4 ⟨rfl, hw⟩; replace hw := hw.symm; subst hw; clear CL)
                  | (at_builtin; refine wpList_append_own _ rfl _ _ 33 rfl w1.heap.size 3 i3 (.int .i64 0) 1 8 und22 hi3 hz0 hz1 hz2 rfl (by decide) _ _ _ rfl (hown.alloc _) ⟨wr.heap.size, 0, none⟩ 1 1 [.int .i64 (y : Int)] rfl rfl ?c1 ?c2 ?c3 ?c4 ?c5 ?_)
                  | go_in)
                case c1 =>
                  intro j u hj
                  match j, hj with
                  | 0, hj => simp at hj; subst hj; simp [Addr.add]
                case c2 => intro u hu; simp at hu; subst hu; rfl
                case c3 => unfold maxLen; omega
                case c4 => omega
                case c5 => simp; omega
                · intro v' w2 hown' hgrow _
                  have hb2 : Below w1.heap.size w1 w2 := (hB.alloc hbz _).grown hgrow (by simp; omega) (fun k hk => (hown.lt k hk).1)
                  go_wp2
                  go_roundw
                  case rel => exact ⟨y + 1, l ++ [y], by go_num, by omega, HL2, by simpa [Hk.out] using hown', hb2⟩
                  case measure => simp [intOf]; omega
          · have hdx : decide ((x : Int) < (c : Int)) = false := by simp; omega
            obtain rfl : x = c := by omega
            have HTS2 : Hid (deriv v p (B.take (i + 1)) = Ls ++ [l]) := by rw [← HL.out]; exact HTS1.out
            have hs3 : s + 3 ≤ wr.heap.size := hbx.lt
            have hrow := own_low hown HSZ.out
            replace hrow : ORow wr (s + 3) _ l := hrow
            obtain ⟨vals, h1, h2⟩ := HOR.out.below hB
            have HH2 : Hid (∀ (i_1 : Nat) (u : Value) (l : List Nat), vals[i_1]? = some u → Ls[i_1]? = some l → ORow wr (s + 3) u l) := h2
            have HH1 : Hid (wr.ownsRow (s + 3) 33 1 ov Ls.length vals) := h1
            obtain ⟨ll2, Hll2⟩ : ∃ q, Hid (Ls.length = q) := ⟨_, rfl⟩
            rw [Hll2.out] at h1 hLl
            obtain ⟨oa, oc, rfl⟩ := own_form h1
            obtain ⟨ra, rc, rfl⟩ := own_form hown
            generalize l.length = ll at *
            clear h2 HTS HTN hown hrs
            go_wp2_with (first
              | (at_builtin; refine wpList_append_own _ rfl _ _ 22 rfl (s + 3) 33 i36 (.slice none 0 0) 1 24 undR ji3 jz0 jz1 jz2 rfl (by decide) _ _ _ rfl (h1.alloc _) ⟨wr.heap.size, 0, none⟩ 1 1 [.slice ra ll rc] rfl rfl ?c1 ?c2 ?c3 ?c4 ?c5 ?_)
              | go_in)
            case c1 =>
              intro j u hj
              match j, hj with
              | 0, hj => simp at hj; subst hj; simp [Addr.add]
            case c2 => intro u hu; simp at hu; subst hu; rfl
            case c3 => unfold maxLen; omega
            case c4 => omega
            case c5 => simp; omega
            · intro v' w2 hown' hgrow _
              have hal := balloc wr (.cells #[.slice ra ll rc] 33)
              have hB2 : Below (s + 3) wr w2 := ((Below.refl _ wr).alloc hs3 _).grown hgrow (by simp; omega) (fun k hk => (h1.lt k hk).1)
              have hO2 : OR w2 (s + 3) v' (Ls ++ [l]) := OR.more (own_keep HH1.out fun b _ hb => hal.block b hb) (fun i_1 u l' e1 e2 => (HH2.out i_1 u l' e1 e2).below hal) (hrow.below hal) (by rw [Hll2.out]; exact hown') hgrow
              rw [← HTS2.out] at hO2
              have hbx2 := hbx.low hB2
              obtain ⟨va, vc, rfl⟩ := own_form hown'
              have hO3 := hO2.keep (w' := w2.setCell ⟨s + 1 + 1, 1, none⟩ (.slice va (ll2 + 1) vc)) (fun b hb _ => heap_setCell_other w2 ⟨s + 1 + 1, 1, none⟩ b _ (by show b ≠ s + 1 + 1; omega))
              have hbx3 := hbx2.put (.slice va (ll2 + 1) vc)
              have hB3 := (hBs.trans (hB2.mono (by omega))).setCell (p := ⟨s + 1 + 1, 1, none⟩) (by show s ≤ s + 1 + 1; omega) (.slice va (ll2 + 1) vc)
              have hfz : w2.frozen? ⟨s + 1 + 1, 1, none⟩ = false := frozen_of_row w2 (s + 2) 1 _ _ hbx2.o
              obtain ⟨z0, z1, z2, z3⟩ := hbx2.cells
              clear hO2 hbx2 hbx hB2 hal hgrow hown' h1 y0 y1 y2 y3 hrow
              go_wp2
              go_roundw
              case rel => exact ⟨i + 1, _, _, by go_num, by omega, rfl, hbx3, hO3, hB3⟩
              case measure => simp [intOf]; omega
    · have hdi : decide ((i : Int) < (n : Int)) = false := by simp; omega
      obtain rfl : i = n := by omega
      obtain rfl : M = Ls := by rw [← HTA.out, HLs.out]
      obtain ⟨oa, oc, rfl⟩ := hOR.cap
      generalize M.length = ml at *
      have a2 : wr.cell? ⟨s + 1, 0, none⟩ = some (.int .i64 0) := by rw [cell_of_row _ _ _ _ _ _ hbx.r]; rfl
      have a3 : wr.cell? ⟨s + 1, 1, none⟩ = some (.slice none 0 0) := by rw [cell_of_row _ _ _ _ _ _ hbx.r]; rfl
      have f0 : wr.frozen? ⟨s + 1, 0, none⟩ = false := frozen_of_row wr _ 0 _ _ hbx.r
      have f1 : wr.frozen? ⟨s + 1, 1, none⟩ = false := frozen_of_row wr _ 1 _ _ hbx.r
      have hn1 := heap_setCell_same wr (s + 1) 0 _ _ (.int .i64 (c : Int)) hbx.r
      have hn2 := heap_setCell_same _ (s + 1) 1 _ _ (.slice oa ml oc) hn1
      have hO2 := (hOR.keep (w' := wr.setCell ⟨s + 1, 0, none⟩ (.int .i64 (c : Int))) (fun b hb _ => heap_setCell_other wr ⟨s + 1, 0, none⟩ b _ (by show b ≠ s + 1; omega))).keep (w' := (wr.setCell ⟨s + 1, 0, none⟩ (.int .i64 (c : Int))).setCell ⟨s + 1, 1, none⟩ (.slice oa ml oc)) (fun b hb _ => heap_setCell_other _ ⟨s + 1, 1, none⟩ b _ (by show b ≠ s + 1; omega))
      have hB2 := (hB.setCell (p := ⟨s + 1, 0, none⟩) (by show s ≤ s + 1; omega) (.int .i64 (c : Int))).setCell (p := ⟨s + 1, 1, none⟩) (by show s ≤ s + 1; omega) (.slice oa ml oc)
      clear hbx hOR
      go_wp2
      exact post_d2 4 5 Tryd.results15 rfl hn2 rfl rfl ⟨_, rfl, by rw [hs]; exact hO2, by rw [hs]; exact hB2⟩
end Go.Proofs.YtnnopfdckillpaaDoor
