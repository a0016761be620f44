/- The walk of the document's ComplementOf. -/
import Derived.Test.YtnnopfdckillpaaDoorDOw
namespace Go.Proofs.YtnnopfdckillpaaDoor
open Go.RowKit

/-- The three boxes: the design, the answer, what is built. -/
structure BoxS (s v p : Nat) (dv ov : Value) (W : World) : Prop where
  d : W.heap[s]? = some (.cells #[.int .i64 (v : Int), dv] 24 (0, 0))
  r : W.heap[s + 1]? = some (.cells #[.int .i64 0, .slice none 0 0] 24 (0, 0))
  o : W.heap[s + 2]? = some (.cells #[.int .i64 (p : Int), ov] 24 (0, 0))
theorem BoxS.lt {s v p : Nat} {dv ov : Value} {W : World} (h : BoxS s v p dv ov W) : s + 3 ≤ W.heap.size := by
  have := (Array.getElem?_eq_some_iff.1 h.o).1
  omega
theorem BoxS.low {s v p : Nat} {dv ov : Value} {W W' : World} (h : BoxS s v p dv ov W) (b : Below (s + 3) W W') : BoxS s v p dv ov W' :=
  ⟨(b.block s (by omega)).trans h.d, (b.block (s + 1) (by omega)).trans h.r, (b.block (s + 2) (by omega)).trans h.o⟩
theorem BoxS.cells {s v p : Nat} {dv ov : Value} {W : World} (h : BoxS s v p dv ov W) : W.cell? ⟨s, 0, none⟩ = some (.int .i64 (v : Int)) ∧ W.cell? ⟨s, 1, none⟩ = some dv ∧ W.cell? ⟨s + 1 + 1, 0, none⟩ = some (.int .i64 (p : Int)) ∧ W.cell? ⟨s + 1 + 1, 1, none⟩ = some ov :=
  ⟨by rw [cell_of_row _ _ _ _ _ _ h.d]; rfl, by rw [cell_of_row _ _ _ _ _ _ h.d]; rfl, by rw [cell_of_row _ _ _ _ _ _ h.o]; rfl, by rw [cell_of_row _ _ _ _ _ _ h.o]; rfl⟩
theorem BoxS.put {s v p : Nat} {dv ov : Value} {W : World} (h : BoxS s v p dv ov W) (nv : Value) : BoxS s v p dv nv (W.setCell ⟨s + 1 + 1, 1, none⟩ nv) :=
  ⟨(heap_setCell_other W ⟨s + 2, 1, none⟩ s nv (by show s ≠ s + 2; omega)).trans h.d, (heap_setCell_other W ⟨s + 2, 1, none⟩ (s + 1) nv (by show s + 1 ≠ s + 2; omega)).trans h.r, heap_setCell_same W (s + 2) 1 _ _ nv h.o⟩
theorem BoxS.start (w : World) (v p : Nat) (dv : Value) : BoxS w.heap.size v p dv (.slice none 0 0) (((w.alloc (.cells #[.int .i64 (v : Int), dv] 24)).alloc (.cells #[.int .i64 0, .slice none 0 0] 24)).alloc (.cells #[.int .i64 (p : Int), .slice none 0 0] 24)) := by
  refine ⟨?_, ?_, ?_⟩
  · exact ((balloc _ _).block _ (by simp; omega)).trans (((balloc _ _).block _ (by simp)).trans (heap_alloc_new w _))
  · have := heap_alloc_new (w.alloc (.cells #[.int .i64 (v : Int), dv] 24)) (.cells #[.int .i64 0, .slice none 0 0] 24)
    rw [show (w.alloc (.cells #[.int .i64 (v : Int), dv] 24)).heap.size = w.heap.size + 1 by simp] at this
    exact ((balloc _ _).block _ (by simp)).trans this
  · have := heap_alloc_new ((w.alloc (.cells #[.int .i64 (v : Int), dv] 24)).alloc (.cells #[.int .i64 0, .slice none 0 0] 24)) (.cells #[.int .i64 (p : Int), .slice none 0 0] 24)
    rw [show ((w.alloc (.cells #[.int .i64 (v : Int), dv] 24)).alloc (.cells #[.int .i64 0, .slice none 0 0] 24)).heap.size = w.heap.size + 2 by simp] at this
    exact this
theorem oth_succ (x : Nat) (b : List Nat) : oth (x + 1) b = oth x b ++ if b.contains x = true then [] else [x] := by
  unfold oth
  rw [filter_succ]
  cases b.contains x <;> rfl
theorem take_map_succ {B : List (List Nat)} (f : List Nat → List Nat) {i : Nat} {b : List Nat} (h : B[i]? = some b) : (B.take (i + 1)).map f = (B.take i).map f ++ [f b] := by
  rw [List.take_add_one, h, List.map_append]; rfl
theorem inf24 : (Tryd.prog.info? 24).map (·.size) = some 2 := by kernel_rfl
theorem own_form {w : World} {base n : Nat} {e : TypeId} {v : Value} {xs : List Value} (h : w.ownsRow base e 1 v n xs) : ∃ a c, v = .slice a n c := by
  obtain ⟨_, ⟨rfl, rfl⟩ | ⟨g, cap, cur, rfl, _⟩⟩ := h
  · exact ⟨_, _, rfl⟩
  · exact ⟨_, _, rfl⟩
theorem post_d {fn : Func} {R : Ending → World → Prop} {a : Act} {w : World} {g : Nat} {x y : Value} (slot : Tmp) (hres : fn.results = #[.cell slot 24]) (hp : a.tmps.getD slot undef = .pointer (some ⟨g, 0, none⟩)) (hr : w.heap[g]? = some (.cells #[x, y] 24 (0, 0))) (hd : a.defers = []) (hR : R (.returned (.agg #[x, y])) w) : bodyPost Tryd.prog fn R .ret a w :=
  bodyPost_ret (results_cell_row hres a.tmps w g 24 #[x, y] (0, 0) _ hp hr Tryd.underlying24 rfl inf24) hd hR
set_option maxRecDepth 100000 in
set_option maxHeartbeats 8000000 in
theorem ComplementOf_any (v : Nat) (B : List (List Nat)) (u : Value) (w : World) (G : GoodD v B) (hu : Rw w u (toZ B)) :
    Calls Tryd.prog 13 #[.agg #[.int .i64 (v : Int), u]] w fun e w' => ∃ x, e = .returned (.agg #[.int .i64 (v : Int), x]) ∧ OR w' (w.heap.size + 3) x (B.map (oth v)) ∧ Below w.heap.size w w' := by
  obtain ⟨a, cap, rfl, hD⟩ := drow_of hu
  obtain ⟨i3, hi3, hz0, hz1, hz2⟩ := info3
  obtain ⟨i36, ji3, jz0, jz1, jz2⟩ := info36
  have h200 := G.few
  have hv40 := G.le
  have HD : Hid (DRow w a B) := hD
  have HBL : Hid (∀ b ∈ B, b.length ≤ v) := fun b hb => (G.bls b hb).le
  have HAT : Hid (∀ i, i < B.length → ∃ b, B[i]? = some b) := fun i hi => ⟨_, List.getElem?_eq_getElem hi⟩
  have HTA : Hid ((B.take B.length).map (oth v) = B.map (oth v)) := by show _ = _; rw [List.take_length]
  have HLN : Hid (∀ i, i ≤ B.length → ((B.take i).map (oth v)).length = i) := fun i hi => by rw [List.length_map, List.length_take]; omega
  have hbx := BoxS.start w v v (.slice a B.length cap)
  have hb0 : Below w.heap.size w (((w.alloc (.cells #[.int .i64 (v : Int), .slice a B.length cap] 24)).alloc (.cells #[.int .i64 0, .slice none 0 0] 24)).alloc (.cells #[.int .i64 (v : Int), .slice none 0 0] 24)) := Below.next (Below.next (balloc _ _) (balloc _ _)) (balloc _ _)
  obtain ⟨M, HM⟩ : ∃ M, Hid (B.map (oth v) = M) := ⟨_, rfl⟩
  rw [HM.out] at HTA ⊢
  generalize hBn : B.length = n at *
  obtain ⟨s, Hs⟩ : ∃ s, Hid (w.heap.size = s) := ⟨_, rfl⟩
  have hs : w.heap.size = s := Hs.out
  rw [hs] at hbx
  clear hD hu
  go_enter Tryd.func13, Tryd.ntmps13
  go_wp2
  go_loopw [4] (fun iv wr => ∃ (i : Nat) (ov : Value), iv = .int .i64 (i : Int) ∧ i ≤ n ∧ BoxS s v v (.slice a n cap) ov wr ∧ OR wr (s + 3) ov ((B.take i).map (oth v)) ∧ Below s w wr) (fun iv _ => (n - intOf iv).toNat)
  case atStart => exact ⟨0, _, rfl, by omega, hbx, OR.nil _ _, hs ▸ hb0⟩
  case round =>
    clear hbx hb0
    obtain ⟨i, ov, rfl, hi, hbx, hOR, hB⟩ := hrel
    have hsz := hbx.lt
    obtain ⟨y0, y1, y2, y3⟩ := hbx.cells
    by_cases hlt : i < n
    · have hdi : decide ((i : Int) < (n : Int)) = true := by simp; omega
      have hii : (i : Int) < (n : Int) := by omega
      obtain ⟨b, hbi⟩ := HAT.out i hlt
      obtain ⟨bb, off, ua, uc, rfl, hrow⟩ := HD.out i b hbi
      have HROW : Hid (∀ W, Below w.heap.size w W → W.cell? ⟨bb, off + i, none⟩ = some (.slice ua b.length uc) ∧ Sl W (.slice ua b.length uc) (b.map Int.ofNat)) := hrow
      have hbl := HBL.out b (List.mem_of_getElem? hbi)
      have HTS : Hid ((B.take (i + 1)).map (oth v) = (B.take i).map (oth v) ++ [oth v b]) := take_map_succ _ hbi
      have HSU : Hid (∀ x, oth (x + 1) b = oth x b ++ if b.contains x = true then [] else [x]) := fun x => oth_succ x b
      have HOL : Hid (∀ x, (oth x b).length ≤ x) := fun x => by
        have := List.length_filter_le (fun x => !b.contains x) (List.range x)
        rw [List.length_range] at this
        exact this
      have HLB : Hid (b.length ≤ 99) := by show _ ≤ _; omega
      obtain ⟨w1, Hw1⟩ : ∃ w1 : World, Hid (w1 = wr) := ⟨_, rfl⟩
      have HBX : Hid (BoxS s v v (.slice (some ⟨bb, off, none⟩) n cap) ov w1) := by rw [Hw1.out]; exact hbx
      have HOR : Hid (OR w1 (s + 3) ov ((B.take i).map (oth v))) := by rw [Hw1.out]; exact hOR
      have HB1 : Hid (Below s w w1) := by rw [Hw1.out]; exact hB
      have HSZ : Hid (s + 3 ≤ w1.heap.size) := by rw [Hw1.out]; exact hsz
      generalize hbn : b.length = bn at *
      clear hbi hrow hbx hOR hB hsz
      go_wp2
      go_loopw [5, 6] (fun bv xv wr' => ∃ (x : Nat) (l : List Nat), xv = .int .i64 (x : Int) ∧ x ≤ v ∧ Hid (oth x b = l) ∧ wr'.ownsRow w1.heap.size 3 1 bv l.length ((l.map Int.ofNat).map (Value.int .i64)) ∧ Below w1.heap.size w1 wr') (fun _ xv _ => (v - intOf xv).toNat)
      case atStart => exact ⟨0, [], rfl, by omega, rfl, World.ownsRow_nil _ _ _ _, by rw [Hw1.out]; exact Below.refl _ _⟩
      case round =>
        clear y0 y1 y2 y3
        obtain ⟨x, l, rfl, hx, HL, hown, hB⟩ := hrel
        have hbz := hB.size
        have hBs : Below s w wr := (HB1.out).trans (hB.mono (by have := HSZ.out; omega))
        have hbx := HBX.out.low (hB.mono HSZ.out)
        obtain ⟨y0, y1, y2, y3⟩ := hbx.cells
        have hll : l.length ≤ x := by rw [← HL.out]; exact HOL.out x
        obtain ⟨hr, hrs⟩ := HROW.out _ (by rw [hs]; exact hBs)
        by_cases hlx : x < v
        · have hdx : decide ((x : Int) < (v : Int)) = true := by simp; omega
          have hxi : (x : Int) < (v : Int) := by omega
          have CL := Lies_any b x _ _ wr hrs (by rw [hbn]; exact HLB.out) rfl
          have hsu := HSU.out x
          rw [HL.out] at hsu
          cases hc : b.contains x with
          | true =>
            rw [hc] at CL hsu
            have HL2 : Hid (oth (x + 1) b = l) := by rw [hsu]; show _ = _; simp
            clear hc hsu HL hrs
            go_wp2_with (go_at_call 33; refine CL.mono ?_; rintro e w4 ⟨rfl, hw⟩; replace hw := hw.symm; subst hw; clear CL)
            go_roundw
            case rel => exact ⟨x + 1, l, by go_num, by omega, HL2, hown, hB⟩
            case measure => simp [intOf]; omega
          | false =>
            rw [hc] at CL hsu
            have HL2 : Hid (oth (x + 1) b = l ++ [x]) := by rw [hsu]; show _ = _; simp
            clear hc hsu HL hrs
            obtain ⟨k, Hk⟩ : ∃ k, Hid (l.length = k) := ⟨_, rfl⟩
            rw [Hk.out] at hown hll
            go_wp2_with (first
              | (go_at_call 33; refine CL.mono ?_; rintro e w4 ⟨rfl, hw⟩; replace hw := hw.symm; subst hw; clear CL)
              | (at_builtin; refine wpList_append_own _ rfl _ _ 33 rfl w1.heap.size 3 i3 (.int .i64 0) 1 8 und22 hi3 hz0 hz1 hz2 rfl (by decide) _ _ _ rfl (hown.alloc _) ⟨wr.heap.size, 0, none⟩ 1 1 [.int .i64 (x : Int)] rfl rfl ?c1 ?c2 ?c3 ?c4 ?c5 ?_)
              | go_in)
            case c1 =>
              intro j u hj
              match j, hj with
              | 0, hj => simp at hj; subst hj; simp [Addr.add]
            case c2 => intro u hu; simp at hu; subst hu; rfl
            case c3 => unfold maxLen; omega
            case c4 => omega
            case c5 => simp; omega
            · intro v' w2 hown' hgrow _
              have hb2 : Below w1.heap.size w1 w2 := (hB.alloc hbz _).grown hgrow (by simp; omega) (fun k hk => (hown.lt k hk).1)
              go_wp2
              go_roundw
              case rel => exact ⟨x + 1, l ++ [x], by go_num, by omega, HL2, by simpa [Hk.out] using hown', hb2⟩
              case measure => simp [intOf]; omega
        · have hdx : decide ((x : Int) < (v : Int)) = false := by simp; omega
          obtain rfl : x = v := by omega
          have HTS2 : Hid ((B.take (i + 1)).map (oth x) = (B.take i).map (oth x) ++ [l]) := by rw [← HL.out]; exact HTS.out
          have hs3 : s + 3 ≤ wr.heap.size := hbx.lt
          have hrow := own_low hown HSZ.out
          replace hrow : ORow wr (s + 3) _ l := hrow
          obtain ⟨vals, h1, h2⟩ := HOR.out.below hB
          have hln := HLN.out i (by omega)
          have HH2 : Hid (∀ (i_1 : Nat) (u : Value) (l : List Nat), vals[i_1]? = some u → ((B.take i).map (oth x))[i_1]? = some l → ORow wr (s + 3) u l) := h2
          have HH1 : Hid (wr.ownsRow (s + 3) 33 1 ov ((B.take i).map (oth x)).length vals) := h1
          rw [hln] at h1
          obtain ⟨oa, oc, rfl⟩ := own_form h1
          obtain ⟨ra, rc, rfl⟩ := own_form hown
          generalize l.length = ll at *
          clear hrs h2 HTS hln hown
          go_wp2_with (first
            | (at_builtin; refine wpList_append_own _ rfl _ _ 22 rfl (s + 3) 33 i36 (.slice none 0 0) 1 24 undR ji3 jz0 jz1 jz2 rfl (by decide) _ _ _ rfl (h1.alloc _) ⟨wr.heap.size, 0, none⟩ 1 1 [.slice ra ll rc] rfl rfl ?c1 ?c2 ?c3 ?c4 ?c5 ?_)
            | go_in)
          case c1 =>
            intro j u hj
            match j, hj with
            | 0, hj => simp at hj; subst hj; simp [Addr.add]
          case c2 => intro u hu; simp at hu; subst hu; rfl
          case c3 => unfold maxLen; omega
          case c4 => omega
          case c5 => simp; omega
          · intro v' w2 hown' hgrow _
            have hal := balloc wr (.cells #[.slice ra ll rc] 33)
            have hB2 : Below (s + 3) wr w2 := ((Below.refl _ wr).alloc hs3 _).grown hgrow (by simp; omega) (fun k hk => (h1.lt k hk).1)
            have hO2 : OR w2 (s + 3) v' ((B.take i).map (oth x) ++ [l]) := OR.more (own_keep HH1.out fun b _ hb => hal.block b hb) (fun i_1 u l' e1 e2 => (HH2.out i_1 u l' e1 e2).below hal) (hrow.below hal) (by rw [HLN.out i (by omega)]; exact hown') hgrow
            rw [← HTS2.out] at hO2
            have hbx2 := hbx.low hB2
            obtain ⟨va, vc, rfl⟩ := own_form hown'
            have hO3 := hO2.keep (w' := w2.setCell ⟨s + 1 + 1, 1, none⟩ (.slice va (i + 1) vc)) (fun b hb _ => heap_setCell_other w2 ⟨s + 1 + 1, 1, none⟩ b _ (by show b ≠ s + 1 + 1; omega))
            have hbx3 := hbx2.put (.slice va (i + 1) vc)
            have hB3 := (hBs.trans (hB2.mono (by omega))).setCell (p := ⟨s + 1 + 1, 1, none⟩) (by show s ≤ s + 1 + 1; omega) (.slice va (i + 1) vc)
            have hfz : w2.frozen? ⟨s + 1 + 1, 1, none⟩ = false := frozen_of_row w2 (s + 2) 1 _ _ hbx2.o
            obtain ⟨z0, z1, z2, z3⟩ := hbx2.cells
            clear hO2 hbx2 hbx hB2 hal hgrow hown' h1 y0 y1 y2 y3 hrow
            go_wp2
            go_roundw
            case rel => exact ⟨i + 1, _, by go_num, by omega, hbx3, hO3, hB3⟩
            case measure => simp [intOf]; omega
    · have hdi : decide ((i : Int) < (n : Int)) = false := by simp; omega
      obtain rfl : i = n := by omega
      obtain ⟨oa, oc, rfl⟩ := hOR.cap
      rw [HTA.out] at hOR hbx y3
      generalize ((B.take i).map (oth v)).length = ol at *
      generalize M.length = ml at *
      have a2 : wr.cell? ⟨s + 1, 0, none⟩ = some (.int .i64 0) := by rw [cell_of_row _ _ _ _ _ _ hbx.r]; rfl
      have a3 : wr.cell? ⟨s + 1, 1, none⟩ = some (.slice none 0 0) := by rw [cell_of_row _ _ _ _ _ _ hbx.r]; rfl
      have f0 : wr.frozen? ⟨s + 1, 0, none⟩ = false := frozen_of_row wr _ 0 _ _ hbx.r
      have f1 : wr.frozen? ⟨s + 1, 1, none⟩ = false := frozen_of_row wr _ 1 _ _ hbx.r
      have hn1 := heap_setCell_same wr (s + 1) 0 _ _ (.int .i64 (v : Int)) hbx.r
      have hn2 := heap_setCell_same _ (s + 1) 1 _ _ (.slice oa ml oc) hn1
      have hO2 := (hOR.keep (w' := wr.setCell ⟨s + 1, 0, none⟩ (.int .i64 (v : Int))) (fun b hb _ => heap_setCell_other wr ⟨s + 1, 0, none⟩ b _ (by show b ≠ s + 1; omega))).keep (w' := (wr.setCell ⟨s + 1, 0, none⟩ (.int .i64 (v : Int))).setCell ⟨s + 1, 1, none⟩ (.slice oa ml oc)) (fun b hb _ => heap_setCell_other _ ⟨s + 1, 1, none⟩ b _ (by show b ≠ s + 1; omega))
      have hB2 := (hB.setCell (p := ⟨s + 1, 0, none⟩) (by show s ≤ s + 1; omega) (.int .i64 (v : Int))).setCell (p := ⟨s + 1, 1, none⟩) (by show s ≤ s + 1; omega) (.slice oa ml oc)
      clear hbx hOR
      go_wp2
      exact post_d 2 Tryd.results13 rfl hn2 rfl ⟨_, rfl, by rw [hs]; exact hO2, by rw [hs]; exact hB2⟩
end Go.Proofs.YtnnopfdckillpaaDoor
