/- The walk of the document's DualOf. -/
import Derived.Test.YtnnopfdckillpaaDoorDCo
import Derived.Test.YtnnopfdckillpaaDoorDPart
namespace Go.Proofs.YtnnopfdckillpaaDoor
open Go.RowKit

/-- The blocks that have a point. -/
def dz (B : List (List Nat)) (x : Nat) : List Nat := (List.range B.length).filter fun i => (B.getD i []).contains x
theorem post_d2 {fn : Func} {R : Ending → World → Prop} {a : Act} {w : World} {g : Nat} {x y z : Value} (slot u : Tmp) (hres : fn.results = #[.cell slot 24, .tmp u]) (hp : a.tmps.getD slot undef = .pointer (some ⟨g, 0, none⟩)) (hr : w.heap[g]? = some (.cells #[x, y] 24 (0, 0))) (hu : a.tmps.getD u undef = z) (hd : a.defers = []) (hR : R (.returned (.tuple #[.agg #[x, y], z])) w) : bodyPost Tryd.prog fn R .ret a w := by
  refine bodyPost_ret (v := .tuple #[.agg #[x, y], z]) ?_ hd hR
  rw [results_cell_tmp hres, hp, hu]
  have h1 : (asAddr (.pointer (some ⟨g, 0, none⟩))).run Tryd.prog w = .ok ⟨g, 0, none⟩ w := by simp [asAddr]
  rw [h1]
  show ((loadVar 24 ⟨g, 0, none⟩).run Tryd.prog w).andThen _ = _
  rw [run_loadVar_row w g 24 24 #[x, y] (0, 0) _ hr Tryd.underlying24 rfl inf24]
  rfl
set_option maxRecDepth 100000 in
set_option maxHeartbeats 8000000 in
theorem DualOf_main (v : Nat) (B : List (List Nat)) (u : Value) (w : World) (G : GoodD v B) (hu : Rw w u (toZ B)) (hne : B ≠ []) (h40 : B.length ≤ 40) :
    Calls Tryd.prog 14 #[.agg #[.int .i64 (v : Int), u]] w fun e w' => ∃ x, e = .returned (.tuple #[.agg #[.int .i64 (B.length : Int), x], .int .i64 0]) ∧ OR w' (w.heap.size + 3) x (dual v B) ∧ Below w.heap.size w w' := by
  obtain ⟨a, cap, rfl, hD⟩ := drow_of hu
  obtain ⟨i3, hi3, hz0, hz1, hz2⟩ := info3
  obtain ⟨i36, ji3, jz0, jz1, jz2⟩ := info36
  have h200 := G.few
  have hv40 := G.le
  have HD : Hid (DRow w a B) := hD
  have HBL : Hid (∀ b ∈ B, b.length ≤ v) := fun b hb => (G.bls b hb).le
  have HAT : Hid (∀ i, i < B.length → ∃ b, B[i]? = some b) := fun i hi => ⟨_, List.getElem?_eq_getElem hi⟩
  have hpos : 0 < B.length := List.length_pos_iff.2 hne
  have HTA : Hid ((List.range v).map (dz B) = dual v B) := rfl
  have HLN : Hid (∀ x, ((List.range x).map (dz B)).length = x) := fun x => by simp
  have hbx := BoxS.start w v B.length (.slice a B.length cap)
  have hb0 : Below w.heap.size w (((w.alloc (.cells #[.int .i64 (v : Int), .slice a B.length cap] 24)).alloc (.cells #[.int .i64 0, .slice none 0 0] 24)).alloc (.cells #[.int .i64 (B.length : Int), .slice none 0 0] 24)) := Below.next (Below.next (balloc _ _) (balloc _ _)) (balloc _ _)
  obtain ⟨M, HM⟩ : ∃ M, Hid (dual v B = M) := ⟨_, rfl⟩
  rw [HM.out] at HTA ⊢
  have HSU : Hid (∀ x i, (List.range (i + 1)).filter (fun i => (B.getD i []).contains x) = (List.range i).filter (fun i => (B.getD i []).contains x) ++ if (B.getD i []).contains x = true then [i] else []) := fun x i => filter_succ _ i
  have HDZ : Hid (∀ x, (List.range B.length).filter (fun i => (B.getD i []).contains x) = dz B x) := fun x => rfl
  have HTS : Hid (∀ x, (List.range (x + 1)).map (dz B) = (List.range x).map (dz B) ++ [dz B x]) := fun x => by rw [List.range_succ, List.map_append]; rfl
  have HOL : Hid (∀ x i, ((List.range i).filter (fun i => (B.getD i []).contains x)).length ≤ i) := fun x i => by
    have := List.length_filter_le (fun i => (B.getD i []).contains x) (List.range i)
    rw [List.length_range] at this
    exact this
  have hd40 : decide ((40 : Int) < (B.length : Int)) = false := decide_eq_false (by omega)
  have hn0 : ((B.length : Int) == 0) = false := beq_eq_false_iff_ne.2 (by omega)
  clear hne
  generalize hBn : B.length = n at *
  obtain ⟨s, Hs⟩ : ∃ s, Hid (w.heap.size = s) := ⟨_, rfl⟩
  have hs : w.heap.size = s := Hs.out
  rw [hs] at hbx
  clear hD hu
  have q0 : ((w.alloc (.cells #[.int .i64 (v : Int), .slice a n cap] 24)).alloc (.cells #[.int .i64 0, .slice none 0 0] 24)).cell? ⟨s, 1, none⟩ = some (.slice a n cap) := by rw [← hs]; exact (des_box v (.slice a n cap) w _ (balloc _ _)).2
  go_enter Tryd.func14, Tryd.ntmps14
  go_wp2
  go_loopw [5] (fun xv wr => ∃ (x : Nat) (ov : Value), xv = .int .i64 (x : Int) ∧ x ≤ v ∧ BoxS s v n (.slice a n cap) ov wr ∧ OR wr (s + 3) ov ((List.range x).map (dz B)) ∧ Below s w wr) (fun xv _ => (v - intOf xv).toNat)
  case atStart => exact ⟨0, _, rfl, by omega, hbx, OR.nil _ _, hs ▸ hb0⟩
  case round =>
    clear hbx hb0 q0
    obtain ⟨x, ov, rfl, hx, hbx, hOR, hB⟩ := hrel
    have hsz := hbx.lt
    obtain ⟨y0, y1, y2, y3⟩ := hbx.cells
    by_cases hlt : x < v
    · have hdi : decide ((x : Int) < (v : Int)) = true := by simp; omega
      have hii : (x : Int) < (v : Int) := by omega
      obtain ⟨w1, Hw1⟩ : ∃ w1 : World, Hid (w1 = wr) := ⟨_, rfl⟩
      have HBX : Hid (BoxS s v n (.slice a n cap) ov w1) := by rw [Hw1.out]; exact hbx
      have HOR : Hid (OR w1 (s + 3) ov ((List.range x).map (dz B))) := by rw [Hw1.out]; exact hOR
      have HB1 : Hid (Below s w w1) := by rw [Hw1.out]; exact hB
      have HSZ : Hid (s + 3 ≤ w1.heap.size) := by rw [Hw1.out]; exact hsz
      clear hbx hOR hB hsz
      go_wp2
      go_loopw [6, 7] (fun bv iv wr' => ∃ (i : Nat) (l : List Nat), iv = .int .i64 (i : Int) ∧ i ≤ n ∧ Hid ((List.range i).filter (fun i => (B.getD i []).contains x) = l) ∧ wr'.ownsRow w1.heap.size 3 1 bv l.length ((l.map Int.ofNat).map (Value.int .i64)) ∧ Below w1.heap.size w1 wr') (fun _ iv _ => (n - intOf iv).toNat)
      case atStart => exact ⟨0, [], rfl, by omega, rfl, World.ownsRow_nil _ _ _ _, by rw [Hw1.out]; exact Below.refl _ _⟩
      case round =>
        clear y0 y1 y2 y3
        obtain ⟨i, l, rfl, hi, HL, hown, hB⟩ := hrel
        have hbz := hB.size
        have hBs : Below s w wr := (HB1.out).trans (hB.mono (by have := HSZ.out; omega))
        have hbx := HBX.out.low (hB.mono HSZ.out)
        obtain ⟨y0, y1, y2, y3⟩ := hbx.cells
        have hll : l.length ≤ i := by rw [← HL.out]; exact HOL.out x i
        by_cases hli : i < n
        · have hdx : decide ((i : Int) < (n : Int)) = true := by simp; omega
          have hxi : (i : Int) < (n : Int) := by omega
          obtain ⟨b, hbi⟩ := HAT.out i hli
          obtain ⟨bb, off, ua, uc, rfl, hrow⟩ := HD.out i b hbi
          obtain ⟨hr, hrs⟩ := hrow _ (by rw [hs]; exact hBs)
          have hbl := HBL.out b (List.mem_of_getElem? hbi)
          have CL := Lies_any b x _ _ wr hrs (by omega) rfl
          have hsu := HSU.out x i
          rw [HL.out, show B.getD i [] = b by rw [List.getD_eq_getElem?_getD, hbi]; rfl] at hsu
          generalize b.length = bn at *
          cases hc : b.contains x with
          | false =>
            rw [hc] at CL hsu
            have HL2 : Hid ((List.range (i + 1)).filter (fun i => (B.getD i []).contains x) = l) := by rw [hsu]; show _ = _; simp
            clear hc hsu HL hrs hrow hbi
            go_wp2_with (go_at_call 33; refine CL.mono ?_; rintro e w4 ⟨rfl, hw⟩; replace hw := hw.symm; subst hw; clear CL)
            go_roundw
            case rel => exact ⟨i + 1, l, by go_num, by omega, HL2, hown, hB⟩
            case measure => simp [intOf]; omega
          | true =>
            rw [hc] at CL hsu
            have HL2 : Hid ((List.range (i + 1)).filter (fun i => (B.getD i []).contains x) = l ++ [i]) := by rw [hsu]; show _ = _; simp
            clear hc hsu HL hrs hrow hbi
            obtain ⟨k, Hk⟩ : ∃ k, Hid (l.length = k) := ⟨_, rfl⟩
            rw [Hk.out] at hown hll
            go_wp2_with (first
              | (go_at_call 33; refine CL.mono ?_; rintro e w4 ⟨rfl, hw⟩; replace hw := hw.symm; subst hw; clear CL)
              | (at_builtin; refine wpList_append_own _ rfl _ _ 33 rfl w1.heap.size 3 i3 (.int .i64 0) 1 8 und22 hi3 hz0 hz1 hz2 rfl (by decide) _ _ _ rfl (hown.alloc _) ⟨wr.heap.size, 0, none⟩ 1 1 [.int .i64 (i : Int)] rfl rfl ?c1 ?c2 ?c3 ?c4 ?c5 ?_)
              | go_in)
            case c1 =>
              intro j u hj
              match j, hj with
              | 0, hj => simp at hj; subst hj; simp [Addr.add]
            case c2 => intro u hu; simp at hu; subst hu; rfl
            case c3 => unfold maxLen; omega
            case c4 => omega
            case c5 => simp; omega
            · intro v' w2 hown' hgrow _
              have hb2 : Below w1.heap.size w1 w2 := (hB.alloc hbz _).grown hgrow (by simp; omega) (fun k hk => (hown.lt k hk).1)
              go_wp2
              go_roundw
              case rel => exact ⟨i + 1, l ++ [i], by go_num, by omega, HL2, by simpa [Hk.out] using hown', hb2⟩
              case measure => simp [intOf]; omega
        · have hdx : decide ((i : Int) < (n : Int)) = false := by simp; omega
          obtain rfl : i = n := by omega
          have HTS2 : Hid ((List.range (x + 1)).map (dz B) = (List.range x).map (dz B) ++ [l]) := by show _ = _; rw [HTS.out, ← HDZ.out, HL.out]
          have hs3 : s + 3 ≤ wr.heap.size := hbx.lt
          have hrow := own_low hown HSZ.out
          replace hrow : ORow wr (s + 3) _ l := hrow
          obtain ⟨vals, h1, h2⟩ := HOR.out.below hB
          have hln := HLN.out x
          have HH2 : Hid (∀ (i_1 : Nat) (u : Value) (l : List Nat), vals[i_1]? = some u → ((List.range x).map (dz B))[i_1]? = some l → ORow wr (s + 3) u l) := h2
          have HH1 : Hid (wr.ownsRow (s + 3) 33 1 ov ((List.range x).map (dz B)).length vals) := h1
          rw [hln] at h1
          obtain ⟨oa, oc, rfl⟩ := own_form h1
          obtain ⟨ra, rc, rfl⟩ := own_form hown
          generalize l.length = ll at *
          clear h2 HTS hln hown
          go_wp2_with (first
            | (at_builtin; refine wpList_append_own _ rfl _ _ 22 rfl (s + 3) 33 i36 (.slice none 0 0) 1 24 undR ji3 jz0 jz1 jz2 rfl (by decide) _ _ _ rfl (h1.alloc _) ⟨wr.heap.size, 0, none⟩ 1 1 [.slice ra ll rc] rfl rfl ?c1 ?c2 ?c3 ?c4 ?c5 ?_)
            | go_in)
          case c1 =>
            intro j u hj
            match j, hj with
            | 0, hj => simp at hj; subst hj; simp [Addr.add]
          case c2 => intro u hu; simp at hu; subst hu; rfl
          case c3 => unfold maxLen; omega
          case c4 => omega
          case c5 => simp; omega
          · intro v' w2 hown' hgrow _
            have hal := balloc wr (.cells #[.slice ra ll rc] 33)
            have hB2 : Below (s + 3) wr w2 := ((Below.refl _ wr).alloc hs3 _).grown hgrow (by simp; omega) (fun k hk => (h1.lt k hk).1)
            have hO2 : OR w2 (s + 3) v' ((List.range x).map (dz B) ++ [l]) := OR.more (own_keep HH1.out fun b _ hb => hal.block b hb) (fun i_1 u l' e1 e2 => (HH2.out i_1 u l' e1 e2).below hal) (hrow.below hal) (by rw [HLN.out x]; exact hown') hgrow
            rw [← HTS2.out] at hO2
            have hbx2 := hbx.low hB2
            obtain ⟨va, vc, rfl⟩ := own_form hown'
            have hO3 := hO2.keep (w' := w2.setCell ⟨s + 1 + 1, 1, none⟩ (.slice va (x + 1) vc)) (fun b hb _ => heap_setCell_other w2 ⟨s + 1 + 1, 1, none⟩ b _ (by show b ≠ s + 1 + 1; omega))
            have hbx3 := hbx2.put (.slice va (x + 1) vc)
            have hB3 := (hBs.trans (hB2.mono (by omega))).setCell (p := ⟨s + 1 + 1, 1, none⟩) (by show s ≤ s + 1 + 1; omega) (.slice va (x + 1) vc)
            have hfz : w2.frozen? ⟨s + 1 + 1, 1, none⟩ = false := frozen_of_row w2 (s + 2) 1 _ _ hbx2.o
            obtain ⟨z0, z1, z2, z3⟩ := hbx2.cells
            clear hO2 hbx2 hbx hB2 hal hgrow hown' h1 y0 y1 y2 y3 hrow
            go_wp2
            go_roundw
            case rel => exact ⟨x + 1, _, by go_num, by omega, hbx3, hO3, hB3⟩
            case measure => simp [intOf]; omega
    · have hdi : decide ((x : Int) < (v : Int)) = false := by simp; omega
      obtain rfl : x = v := by omega
      obtain ⟨oa, oc, rfl⟩ := hOR.cap
      rw [HTA.out] at hOR hbx y3
      generalize ((List.range x).map (dz B)).length = ol at *
      generalize M.length = ml at *
      have a2 : wr.cell? ⟨s + 1, 0, none⟩ = some (.int .i64 0) := by rw [cell_of_row _ _ _ _ _ _ hbx.r]; rfl
      have a3 : wr.cell? ⟨s + 1, 1, none⟩ = some (.slice none 0 0) := by rw [cell_of_row _ _ _ _ _ _ hbx.r]; rfl
      have f0 : wr.frozen? ⟨s + 1, 0, none⟩ = false := frozen_of_row wr _ 0 _ _ hbx.r
      have f1 : wr.frozen? ⟨s + 1, 1, none⟩ = false := frozen_of_row wr _ 1 _ _ hbx.r
      have hn1 := heap_setCell_same wr (s + 1) 0 _ _ (.int .i64 (n : Int)) hbx.r
      have hn2 := heap_setCell_same _ (s + 1) 1 _ _ (.slice oa ml oc) hn1
      have hO2 := (hOR.keep (w' := wr.setCell ⟨s + 1, 0, none⟩ (.int .i64 (n : Int))) (fun b hb _ => heap_setCell_other wr ⟨s + 1, 0, none⟩ b _ (by show b ≠ s + 1; omega))).keep (w' := (wr.setCell ⟨s + 1, 0, none⟩ (.int .i64 (n : Int))).setCell ⟨s + 1, 1, none⟩ (.slice oa ml oc)) (fun b hb _ => heap_setCell_other _ ⟨s + 1, 1, none⟩ b _ (by show b ≠ s + 1; omega))
      have hB2 := (hB.setCell (p := ⟨s + 1, 0, none⟩) (by show s ≤ s + 1; omega) (.int .i64 (n : Int))).setCell (p := ⟨s + 1, 1, none⟩) (by show s ≤ s + 1; omega) (.slice oa ml oc)
      clear hbx hOR
      go_wp2
      exact post_d2 2 3 Tryd.results14 rfl hn2 rfl rfl ⟨_, rfl, by rw [hs]; exact hO2, by rw [hs]; exact hB2⟩
end Go.Proofs.YtnnopfdckillpaaDoor
