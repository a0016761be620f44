/- The walk of the document's ResidualOf. -/
import Derived.Test.YtnnopfdckillpaaDoorDDr
import Derived.Deep.RegionHeld3
namespace Go.Proofs.YtnnopfdckillpaaDoor
open Go.RowKit

/-- What is left of the first i blocks but the k-th, among some points. -/
def rsP (left : List Nat) (k : Nat) (B : List (List Nat)) : List (List Nat) := (B.take k ++ B.drop (k + 1)).map fun b => (List.range left.length).filter fun x => b.contains (left.getD x 0)
theorem rsP_same {left : List Nat} {k : Nat} {B : List (List Nat)} {b : List Nat} (h : B[k]? = some b) : rsP left k (B.take (k + 1)) = rsP left k (B.take k) := by
  have hk := (List.getElem?_eq_some_iff.1 h).1
  unfold rsP
  rw [List.take_take, List.take_take, Nat.min_eq_left (by omega), Nat.min_self, List.drop_eq_nil_of_le (by rw [List.length_take]; omega), List.drop_eq_nil_of_le (by rw [List.length_take]; omega)]
theorem rsP_more {left : List Nat} {k i : Nat} {B : List (List Nat)} {b : List Nat} (h : B[i]? = some b) (hn : i ≠ k) : rsP left k (B.take (i + 1)) = rsP left k (B.take i) ++ [(List.range left.length).filter fun x => b.contains (left.getD x 0)] := by
  have hi := (List.getElem?_eq_some_iff.1 h).1
  have hl : (B.take i).length = i := by rw [List.length_take]; omega
  have e : B.take (i + 1) = B.take i ++ [b] := by rw [List.take_add_one, h]; rfl
  unfold rsP
  rw [e]
  rcases Nat.lt_or_ge i k with hc | hc
  · have t1 : (B.take i ++ [b]).drop (k + 1) = [] := List.drop_eq_nil_of_le (by rw [List.length_append, hl]; simp; omega)
    have t2 : (B.take i ++ [b]).take k = B.take i ++ [b] := List.take_of_length_le (by rw [List.length_append, hl]; simp; omega)
    have t3 : (B.take i).drop (k + 1) = [] := List.drop_eq_nil_of_le (by omega)
    have t4 : (B.take i).take k = B.take i := List.take_of_length_le (by omega)
    rw [t1, t2, t3, t4, List.append_nil, List.append_nil, List.map_append]
    rfl
  · rw [List.take_append_of_le_length (by omega), List.drop_append_of_le_length (by omega), ← List.append_assoc, List.map_append]
    rfl
theorem rsP_len (left : List Nat) (k i : Nat) (B : List (List Nat)) : (rsP left k (B.take i)).length ≤ i := by
  unfold rsP
  rw [List.length_map, List.length_append, List.length_take, List.length_drop, List.length_take]
  omega
theorem rsP_all (v k : Nat) (B : List (List Nat)) : rsP (oth v (B.getD k [])) k (B.take B.length) = resid v k B := by rw [List.take_length]; rfl

set_option maxRecDepth 100000 in
set_option maxHeartbeats 4000000 in
theorem ResidualOf_main (v k : Nat) (B : List (List Nat)) (u : Value) (w : World) (G : GoodD v B) (hu : Rw w u (toZ B)) (hk : k < B.length) :
    Calls Tryd.prog 16 #[.agg #[.int .i64 (v : Int), u], .int .i64 (k : Int)] w fun e w' => ((oth v (B.getD k []) = [] ∧ e = .returned (.tuple #[.agg #[.int .i64 0, .slice none 0 0], .int .i64 2])) ∨ (oth v (B.getD k []) ≠ [] ∧ ∃ x, e = .returned (.tuple #[.agg #[.int .i64 ((oth v (B.getD k [])).length : Int), x], .int .i64 0]) ∧ ∃ base, w.heap.size ≤ base ∧ OR w' base x (resid v k B))) ∧ Below w.heap.size w w' := by
  obtain ⟨a, cap, rfl, hD⟩ := drow_of hu
  obtain ⟨i3, hi3, hz0, hz1, hz2⟩ := info3
  obtain ⟨i36, ji3, jz0, jz1, jz2⟩ := info36
  have h200 := G.few
  have hv40 := G.le
  have HD : Hid (DRow w a B) := hD
  have HBL : Hid (∀ b ∈ B, b.length ≤ v) := fun b hb => (G.bls b hb).le
  have HAT : Hid (∀ i, i < B.length → ∃ b, B[i]? = some b) := fun i hi => ⟨_, List.getElem?_eq_getElem hi⟩
  obtain ⟨bk, hbk⟩ := HAT.out k hk
  have egk : B.getD k [] = bk := by rw [List.getD_eq_getElem?_getD, hbk]; rfl
  have HTA : Hid (rsP (oth v bk) k (B.take B.length) = resid v k B) := by show _ = _; rw [← egk]; exact rsP_all v k B
  rw [egk]
  have HLN : Hid (∀ left i, (rsP left k (B.take i)).length ≤ i) := fun left i => rsP_len left k i B
  have HR0 : Hid (∀ left, rsP left k (B.take 0) = []) := fun left => by show _ = _; simp [rsP]
  obtain ⟨M, HM⟩ : ∃ M, Hid (resid v k B = M) := ⟨_, rfl⟩
  rw [HM.out] at HTA ⊢
  obtain ⟨LF, HLF⟩ : ∃ D, Hid (oth v bk = D) := ⟨_, rfl⟩
  rw [HLF.out] at HTA ⊢
  obtain ⟨c, Hc⟩ : ∃ c, Hid (LF.length = c) := ⟨_, rfl⟩
  rw [Hc.out]
  have HSU : Hid (∀ (left b : List Nat) x, (List.range (x + 1)).filter (fun x => b.contains (left.getD x 0)) = (List.range x).filter (fun x => b.contains (left.getD x 0)) ++ if b.contains (left.getD x 0) = true then [x] else []) := fun left b x => filter_succ _ x
  have HTS : Hid (∀ left i b, B[i]? = some b → i ≠ k → rsP left k (B.take (i + 1)) = rsP left k (B.take i) ++ [(List.range left.length).filter fun x => b.contains (left.getD x 0)]) := fun left i b h hn => rsP_more h hn
  have HTN : Hid (∀ left b, B[k]? = some b → rsP left k (B.take (k + 1)) = rsP left k (B.take k)) := fun left b h => rsP_same h
  have HOL : Hid (∀ (left b : List Nat) x, ((List.range x).filter (fun x => b.contains (left.getD x 0))).length ≤ x) := fun left b x => by
    have := List.length_filter_le (fun x => b.contains (left.getD x 0)) (List.range x)
    rw [List.length_range] at this
    exact this
  have HOS : Hid (∀ x, oth (x + 1) bk = oth x bk ++ if bk.contains x = true then [] else [x]) := fun x => oth_succ x bk
  have HOT : Hid (∀ x, (oth x bk).length ≤ x) := fun x => by show _ ≤ _; unfold oth; exact Nat.le_trans (List.length_filter_le _ _) (by simp)
  have HBKL : Hid (bk.length ≤ 99) := by show _ ≤ _; have := HBL.out bk (List.mem_of_getElem? hbk); omega
  have hd1 : decide ((k : Int) < 0) = false := decide_eq_false (by omega)
  have hd2 : decide ((B.length : Int) ≤ (k : Int)) = false := decide_eq_false (by omega)
  have hd3 : decide (B.length ≤ k) = false := decide_eq_false (by omega)
  have hkk : (k : Int) < (B.length : Int) := by omega
  obtain ⟨x0, x1⟩ := des_box v (.slice a B.length cap) w _ (balloc (w.alloc (.cells #[.int .i64 (v : Int), .slice a B.length cap] 24)) (.cells #[.int .i64 0, .slice none 0 0] 24))
  have hr0 := heap_alloc_new (w.alloc (.cells #[.int .i64 (v : Int), .slice a B.length cap] 24)) (.cells #[.int .i64 0, .slice none 0 0] 24)
  rw [World.size_alloc] at hr0
  have hb0 : Below w.heap.size w ((w.alloc (.cells #[.int .i64 (v : Int), .slice a B.length cap] 24)).alloc (.cells #[.int .i64 0, .slice none 0 0] 24)) := Below.next (balloc _ _) (balloc _ _)
  obtain ⟨w0, Hw0⟩ : ∃ w0, Hid (w0 = (w.alloc (.cells #[.int .i64 (v : Int), .slice a B.length cap] 24)).alloc (.cells #[.int .i64 0, .slice none 0 0] 24)) := ⟨_, rfl⟩
  have hs0 : w0.heap.size = w.heap.size + 2 := by rw [Hw0.out]; simp
  have HC : Hid (∀ W, Below w0.heap.size w0 W → W.cell? ⟨w.heap.size, 0, none⟩ = some (.int .i64 (v : Int)) ∧ W.cell? ⟨w.heap.size, 1, none⟩ = some (.slice a B.length cap) ∧ W.heap[w.heap.size + 1]? = some (.cells #[.int .i64 0, .slice none 0 0] 24 (0, 0))) := fun W hW => ⟨(hW.cell (p := ⟨w.heap.size, 0, none⟩) (by show w.heap.size < _; omega)).trans (by rw [Hw0.out]; exact x0), (hW.cell (p := ⟨w.heap.size, 1, none⟩) (by show w.heap.size < _; omega)).trans (by rw [Hw0.out]; exact x1), (hW.block _ (by omega)).trans (by rw [Hw0.out]; exact hr0)⟩
  rw [← Hw0.out] at hb0
  have HB0 : Hid (Below w.heap.size w w0) := hb0
  have HS0 : Hid (w0.heap.size = w.heap.size + 2) := hs0
  generalize hBn : B.length = n at *
  clear hD hu hb0 hs0 hr0
  go_enter Tryd.func16, Tryd.ntmps16
  go_wp2
  go_loopw [6, 7] (fun lv xv wr => ∃ (x : Nat) (l : List Nat), xv = .int .i64 (x : Int) ∧ x ≤ v ∧ Hid (oth x bk = l) ∧ wr.ownsRow w0.heap.size 3 1 lv l.length ((l.map Int.ofNat).map (Value.int .i64)) ∧ Below w0.heap.size w0 wr) (fun _ xv _ => (v - intOf xv).toNat)
  case atStart => exact ⟨0, [], rfl, by omega, rfl, World.ownsRow_nil _ _ _ _, by rw [← Hw0.out]; exact Below.refl _ _⟩
  case round =>
    clear x0 x1
    obtain ⟨x, l, rfl, hx, HL, hown, hB⟩ := hrel
    obtain ⟨y0, y1, yr⟩ := HC.out _ hB
    have hbz := hB.size
    have hll : l.length ≤ x := by rw [← HL.out]; exact HOT.out x
    by_cases hlt : x < v
    · have hdi : decide ((x : Int) < (v : Int)) = true := by simp; omega
      obtain ⟨bb, off, ua, uc, rfl, hrow⟩ := HD.out k bk hbk
      obtain ⟨hr, hrs⟩ := hrow _ (Below.next HB0.out hB)
      have CL := Lies_any bk x _ _ wr hrs HBKL.out rfl
      have hsu := HOS.out x
      rw [HL.out] at hsu
      generalize bk.length = bn at *
      cases hc : bk.contains x with
      | true =>
        rw [hc] at CL hsu
        have HL2 : Hid (oth (x + 1) bk = l) := by rw [hsu]; show _ = _; simp
        clear hc hsu HL hrs hrow yr
        go_wp2_with (go_at_call 33; refine CL.mono ?_; rintro e w4 ⟨rfl, hw⟩; replace hw := hw.symm; subst hw; clear CL)
        go_roundw
        case rel => exact ⟨x + 1, l, by go_num, by omega, HL2, hown, hB⟩
        case measure => simp [intOf]; omega
      | false =>
        rw [hc] at CL hsu
        have HL2 : Hid (oth (x + 1) bk = l ++ [x]) := by rw [hsu]; show _ = _; simp
        clear hc hsu HL hrs hrow yr
        obtain ⟨kl, Hk⟩ : ∃ kl, Hid (l.length = kl) := ⟨_, rfl⟩
        rw [Hk.out] at hown hll
        go_wp2_with (first
          | (go_at_call 33; refine CL.mono ?_; rintro e w4 ⟨rfl, hw⟩; replace hw := hw.symm; subst hw; clear CL)
          | (at_builtin; refine wpList_append_own _ rfl _ _ 33 rfl w0.heap.size 3 i3 (.int .i64 0) 1 8 und22 hi3 hz0 hz1 hz2 rfl (by decide) _ _ _ rfl (hown.alloc _) ⟨wr.heap.size, 0, none⟩ 1 1 [.int .i64 (x : Int)] rfl rfl ?c1 ?c2 ?c3 ?c4 ?c5 ?_)
          | go_in)
        case c1 =>
          intro j u hj
          match j, hj with
          | 0, hj => simp at hj; subst hj; simp [Addr.add]
        case c2 => intro u hu; simp at hu; subst hu; rfl
        case c3 => unfold maxLen; omega
        case c4 => omega
        case c5 => simp; omega
        · intro v' w2 hown' hgrow _
          have hb2 : Below w0.heap.size w0 w2 := (hB.alloc hbz _).grown hgrow (by simp; omega) (fun k hk => (hown.lt k hk).1)
          go_wp2
          go_roundw
          case rel => exact ⟨x + 1, l ++ [x], by go_num, by omega, HL2, by simpa [Hk.out] using hown', hb2⟩
          case measure => simp [intOf]; omega
    · have hdi : decide ((x : Int) < (v : Int)) = false := by simp; omega
      obtain rfl : x = v := by omega
      obtain rfl : l = LF := HL.out.symm.trans HLF.out
      clear HL HOS HOT HLF
      have HSL : Hid (Sl wr _ (l.map Int.ofNat)) := Sl.owned (by rw [List.length_map]; exact hown)
      have f0 : wr.frozen? ⟨w.heap.size + 1, 0, none⟩ = false := frozen_of_row wr _ 0 _ _ yr
      have f1 : wr.frozen? ⟨w.heap.size + 1, 1, none⟩ = false := frozen_of_row wr _ 1 _ _ yr
      have a2 : wr.cell? ⟨w.heap.size + 1, 0, none⟩ = some (.int .i64 0) := by rw [cell_of_row _ _ _ _ _ _ yr]; rfl
      have a3 : wr.cell? ⟨w.heap.size + 1, 1, none⟩ = some (.slice none 0 0) := by rw [cell_of_row _ _ _ _ _ _ yr]; rfl
      obtain ⟨la, lc, el⟩ := own_form hown
      rw [Hc.out] at el hll
      subst el
      by_cases hl0 : l = []
      · have hc0 : c = 0 := by rw [← Hc.out, hl0]; rfl
        subst hc0
        have h6 := heap_setCell_same wr (w.heap.size + 1) 0 _ 24 (.int .i64 0) yr
        have h7 := heap_setCell_same _ (w.heap.size + 1) 1 _ 24 (.slice none 0 0) h6
        clear hown HSL
        go_wp2
        exact post_d2 4 5 Tryd.results16 rfl (by simpa using h7) rfl rfl ⟨.inl ⟨hl0, rfl⟩, ((Below.next HB0.out hB).setCell (p := ⟨w.heap.size + 1, 0, none⟩) (by show _ ≤ w.heap.size + 1; omega) _).setCell (p := ⟨w.heap.size + 1, 1, none⟩) (by show _ ≤ w.heap.size + 1; omega) _⟩
      · obtain ⟨wA, hwA⟩ : ∃ wA : World, wA = wr := ⟨_, rfl⟩
        subst hwA
        have hcp : 0 < c := by rw [← Hc.out]; exact List.length_pos_iff.2 hl0
        have hc0 : ((c : Int) == 0) = false := beq_eq_false_iff_ne.2 (by omega)
        have hc0' : (c == 0) = false := beq_eq_false_iff_ne.2 (by omega)
        have HL0 : Hid (l ≠ []) := hl0
        have HYR : Hid (wA.heap[w.heap.size + 1]? = some (.cells #[.int .i64 0, .slice none 0 0] 24 (0, 0))) := yr
        obtain ⟨lb, lo, rfl, hlc⟩ : ∃ lb lo, la = some ⟨lb, lo, none⟩ ∧ Hid (∀ x, x < c → wA.cell? ⟨lb, lo + x, none⟩ = some (.int .i64 ((l.getD x 0 : Nat) : Int))) := by
          obtain ⟨a', cap', e', h'⟩ := HSL.out
          simp only [Value.slice.injEq] at e'
          obtain ⟨rfl, -, -⟩ := e'
          obtain ⟨lb, lo, e1, -⟩ := h' 0 (by rw [List.length_map, Hc.out]; exact hcp)
          refine ⟨lb, lo, e1, fun x hx => ?_⟩
          obtain ⟨lb', lo', e2, h2⟩ := h' x (by rw [List.length_map, Hc.out]; exact hx)
          rw [e1] at e2
          simp only [Option.some.injEq, Addr.mk.injEq] at e2
          obtain ⟨rfl, rfl, -⟩ := e2
          rw [h2]
          have : x < l.length := by rw [Hc.out]; exact hx
          simp [List.getD_eq_getElem?_getD, List.getElem?_eq_getElem this]
        have HLC : Hid (∀ W x, x < c → Below wA.heap.size wA W → W.cell? ⟨lb, lo + x, none⟩ = some (.int .i64 ((l.getD x 0 : Nat) : Int))) := fun W x hx hW => (hW.cell (World.block_lt_of_cell? _ _ (hlc.out x hx))).trans (hlc.out x hx)
        have HC2 : Hid (∀ W, Below wA.heap.size wA W → W.cell? ⟨w.heap.size, 0, none⟩ = some (.int .i64 (x : Int)) ∧ W.cell? ⟨w.heap.size, 1, none⟩ = some (.slice a n cap) ∧ W.heap[w.heap.size + 1]? = some (.cells #[.int .i64 0, .slice none 0 0] 24 (0, 0))) := fun W hW => HC.out W (Below.next hB hW)
        have HBW : Hid (Below w.heap.size w wA) := Below.next HB0.out hB
        have HSA : Hid (w.heap.size + 2 ≤ wA.heap.size) := by show _ ≤ _; rw [← HS0.out]; exact hbz
        have ho0 : (wA.alloc (.cells #[.int .i64 (c : Int), .slice none 0 0] 24)).heap[wA.heap.size]? = some (.cells #[.int .i64 (c : Int), .slice none 0 0] 24 (0, 0)) := heap_alloc_new _ _
        have hbA := balloc wA (.cells #[.int .i64 (c : Int), .slice none 0 0] 24)
        have HO0 : Hid (∀ W, W = wA.alloc (.cells #[.int .i64 (c : Int), .slice none 0 0] 24) → W.heap[wA.heap.size]? = some (.cells #[.int .i64 (c : Int), .slice none 0 0] 24 (0, 0)) ∧ Below wA.heap.size wA W) := fun W e => by rw [e]; exact ⟨ho0, hbA⟩
        clear hown HSL hlc hl0 yr HC hB ho0 hbA HB0 HS0
        go_wp2
        go_loopw [10] (fun iv wr' => ∃ (i : Nat) (ov : Value) (Ls : List (List Nat)), iv = .int .i64 (i : Int) ∧ i ≤ n ∧ Hid (rsP l k (B.take i) = Ls) ∧ wr'.heap[wA.heap.size]? = some (.cells #[.int .i64 (c : Int), ov] 24 (0, 0)) ∧ OR wr' (wA.heap.size + 1) ov Ls ∧ Below wA.heap.size wA wr') (fun iv _ => (n - intOf iv).toNat)
        case atStart => exact ⟨0, _, [], rfl, by omega, HR0.out l, (HO0.out _ rfl).1, OR.nil _ _, (HO0.out _ rfl).2⟩
        case round =>
          clear HO0 y0 y1 a2 a3 f0 f1
          obtain ⟨i, ov, Ls, rfl, hi, HLs, hob, hOR, hBA⟩ := hrel
          have hLl : Ls.length ≤ i := by rw [← HLs.out]; exact HLN.out l i
          obtain ⟨y0, y1, yr⟩ := HC2.out _ hBA
          have o0 : wr.cell? ⟨wA.heap.size, 0, none⟩ = some (.int .i64 (c : Int)) := by rw [cell_of_row _ _ _ _ _ _ hob]; rfl
          have o1 : wr.cell? ⟨wA.heap.size, 1, none⟩ = some ov := by rw [cell_of_row _ _ _ _ _ _ hob]; rfl
          have hoL : Hid (wA.heap.size + 1 ≤ wr.heap.size) := (Array.getElem?_eq_some_iff.1 hob).1
          by_cases hlt : i < n
          · have hdi : decide ((i : Int) < (n : Int)) = true := by simp; omega
            have hii : (i : Int) < (n : Int) := by omega
            obtain ⟨b, hbi⟩ := HAT.out i hlt
            by_cases hik : i = k
            · have hde : ((i : Int) == (k : Int)) = true := by simp; omega
              have hde2 : (i == k) = true := by simp; omega
              have HL2 : Hid (rsP l k (B.take (i + 1)) = Ls) := by
                show _ = _
                rw [← HLs.out, hik]
                exact HTN.out l b (hik ▸ hbi)
              clear hik hbi hoL
              go_wp2
              go_roundw
              case rel => exact ⟨i + 1, ov, Ls, by go_num, by omega, HL2, hob, hOR, hBA⟩
              case measure => simp [intOf]; omega
            · have hde : ((i : Int) == (k : Int)) = false := beq_eq_false_iff_ne.2 (by omega)
              have hde2 : (i == k) = false := beq_eq_false_iff_ne.2 hik
              have HTS1 : Hid (rsP l k (B.take (i + 1)) = Ls ++ [(List.range c).filter fun x => b.contains (l.getD x 0)]) := by
                show _ = _
                rw [HTS.out l i b hbi hik, HLs.out, Hc.out]
              obtain ⟨bb, off, ua, uc, rfl, hrow⟩ := HD.out i b hbi
              have HROW : Hid (∀ W, Below w.heap.size w W → W.cell? ⟨bb, off + i, none⟩ = some (.slice ua b.length uc) ∧ Sl W (.slice ua b.length uc) (b.map Int.ofNat)) := hrow
              have HLB : Hid (b.length ≤ 99) := by show _ ≤ _; have := HBL.out b (List.mem_of_getElem? hbi); omega
              obtain ⟨wq, Hwq⟩ : ∃ wq : World, Hid (wq = wr) := ⟨_, rfl⟩
              have HOB : Hid (wq.heap[wA.heap.size]? = some (.cells #[.int .i64 (c : Int), ov] 24 (0, 0))) := by rw [Hwq.out]; exact hob
              have HOR : Hid (OR wq (wA.heap.size + 1) ov Ls) := by rw [Hwq.out]; exact hOR
              have HB1 : Hid (Below wA.heap.size wA wq) := by rw [Hwq.out]; exact hBA
              have HSZ : Hid (wA.heap.size + 1 ≤ wq.heap.size) := by rw [Hwq.out]; exact hoL
              generalize hbn : b.length = bn at *
              clear hbi hrow hob hOR hBA hoL hik HLs
              go_wp2
              go_loopw [11, 12] (fun bv xv wr' => ∃ (x : Nat) (lx : List Nat), xv = .int .i64 (x : Int) ∧ x ≤ c ∧ Hid ((List.range x).filter (fun x => b.contains (l.getD x 0)) = lx) ∧ wr'.ownsRow wq.heap.size 3 1 bv lx.length ((lx.map Int.ofNat).map (Value.int .i64)) ∧ Below wq.heap.size wq wr') (fun _ xv _ => (c - intOf xv).toNat)
              case atStart => exact ⟨0, [], rfl, by omega, rfl, World.ownsRow_nil _ _ _ _, by rw [Hwq.out]; exact Below.refl _ _⟩
              case round =>
                clear y0 y1 yr o0 o1
                obtain ⟨x, lx, rfl, hx, HL, hown, hB⟩ := hrel
                have hbz := hB.size
                have hBs : Below wA.heap.size wA wr := (HB1.out).trans (hB.mono (by have := HSZ.out; omega))
                have hob : wr.heap[wA.heap.size]? = some (.cells #[.int .i64 (c : Int), ov] 24 (0, 0)) := (hB.block _ HSZ.out).trans HOB.out
                obtain ⟨y0, y1, yr⟩ := HC2.out _ hBs
                have hlx2 : lx.length ≤ x := by rw [← HL.out]; exact HOL.out l b x
                obtain ⟨hr, hrs⟩ := HROW.out _ (HBW.out.trans (hBs.mono HBW.out.size))
                by_cases hlx : x < c
                · have hdx : decide ((x : Int) < (c : Int)) = true := by simp; omega
                  have hxc : (x : Int) < (c : Int) := by omega
                  have hsu := HSU.out l b x
                  rw [HL.out] at hsu
                  have hlz := HLC.out wr x hlx hBs
                  obtain ⟨z, Hz⟩ : ∃ z, Hid (l.getD x 0 = z) := ⟨_, rfl⟩
                  rw [Hz.out] at hlz hsu
                  have CT := fun W (b' : Below wr.heap.size wr W) => (Lies_any b z _ _ W (hrs.below b') (by rw [hbn]; exact HLB.out) rfl).mono (R' := fun e w' => e = .returned (.bool (b.contains z)) ∧ Below W.heap.size W w') (by rintro e w' ⟨h, rfl⟩; exact ⟨h, Below.refl _ _⟩)
                  clear hob hBs
                  cases hc : b.contains z with
                  | false =>
                    rw [hc] at hsu
                    simp only [hc] at CT
                    have HL2 : Hid ((List.range (x + 1)).filter (fun x => b.contains (l.getD x 0)) = lx) := by rw [hsu]; show _ = _; simp
                    clear hc hsu HL
                    have HS : Hid (∀ W', Below wr.heap.size wr W' → (fun w' => w'.cell? ⟨w.heap.size, 1, none⟩ = some (.slice (some ⟨bb, off, none⟩) n cap) ∧ w'.cell? ⟨bb, off + i, none⟩ = some (.slice ua bn uc) ∧ w'.cell? ⟨lb, lo + x, none⟩ = some (.int .i64 (z : Int))) W') := fun W' b => ⟨(b.cell (World.block_lt_of_cell? _ _ y1)).trans y1, (b.cell (World.block_lt_of_cell? _ _ hr)).trans hr, (b.cell (World.block_lt_of_cell? _ _ hlz)).trans hlz⟩
                    clear y0 y1 yr hr hlz hrs
                    go_wp2
                    refine wp_region_noPanic ?_
                    refine wp_region_held_drew (S := fun w' => w'.cell? ⟨w.heap.size, 1, none⟩ = some (.slice (some ⟨bb, off, none⟩) n cap) ∧ w'.cell? ⟨bb, off + i, none⟩ = some (.slice ua bn uc) ∧ w'.cell? ⟨lb, lo + x, none⟩ = some (.int .i64 (z : Int))) (by kernel_rfl) (HS.out _ (Below.refl _ wr).drew) (fun hSx => ?_)
                    have d0 : Below wr.heap.size wr wr.drew := (Below.refl _ wr).drew
                    refine wpAnyH_take (i := 0) (v := .pointer (some ⟨w.heap.size, 1, none⟩)) rfl (by kernel_rfl) (by kernel_rfl) (by kernel_rfl) (fun _ _ _ h => h) (Or.inl ⟨by rfl, fun w' hSw => by (try dsimp only at hSw); obtain ⟨hs0, hs1, hs2⟩ := hSw; go_simp⟩) hSx ?_
                    try simp only [Act.put, List.setIfInBounds_toArray]
                    refine wpAnyH_take (i := 1) (v := .slice (some ⟨bb, off, none⟩) n cap) rfl (by kernel_rfl) (by kernel_rfl) (by kernel_rfl) (fun _ _ _ h => h) (Or.inl ⟨by rfl, fun w' hSw => by (try dsimp only at hSw); obtain ⟨hs0, hs1, hs2⟩ := hSw; go_simp⟩) hSx ?_
                    try simp only [Act.put]
                    refine wpAnyH_take (i := 2) (v := .int .i64 (i : Int)) rfl (by kernel_rfl) (by kernel_rfl) (by kernel_rfl) (fun _ _ _ h => h) (Or.inl ⟨by rfl, fun w' hSw => by (try dsimp only at hSw); obtain ⟨hs0, hs1, hs2⟩ := hSw; go_simp⟩) hSx ?_
                    try simp only [Act.put]
                    refine wpAnyH_take (i := 3) (v := .pointer (some ⟨bb, off + i, none⟩)) rfl (by kernel_rfl) (by kernel_rfl) (by kernel_rfl) (fun _ _ _ h => h) (Or.inl ⟨by rfl, fun w' hSw => by (try dsimp only at hSw); obtain ⟨hs0, hs1, hs2⟩ := hSw; go_simp⟩) hSx ?_
                    try simp only [Act.put]
                    refine wpAnyH_take (i := 4) (v := .slice ua bn uc) rfl (by kernel_rfl) (by kernel_rfl) (by kernel_rfl) (fun _ _ _ h => h) (Or.inl ⟨by rfl, fun w' hSw => by (try dsimp only at hSw); obtain ⟨hs0, hs1, hs2⟩ := hSw; go_simp⟩) hSx ?_
                    try simp only [Act.put]
                    refine wpAnyH_take (i := 5) (v := .slice (some ⟨lb, lo, none⟩) c lc) rfl (by kernel_rfl) (by kernel_rfl) (by kernel_rfl) (fun _ _ _ h => h) (Or.inl ⟨by rfl, fun w' hSw => by (try dsimp only at hSw); obtain ⟨hs0, hs1, hs2⟩ := hSw; go_simp⟩) hSx ?_
                    try simp only [Act.put]
                    refine wpAnyH_take (i := 6) (v := .int .i64 (x : Int)) rfl (by kernel_rfl) (by kernel_rfl) (by kernel_rfl) (fun _ _ _ h => h) (Or.inl ⟨by rfl, fun w' hSw => by (try dsimp only at hSw); obtain ⟨hs0, hs1, hs2⟩ := hSw; go_simp⟩) hSx ?_
                    try simp only [Act.put]
                    refine wpAnyH_take (i := 7) (v := .pointer (some ⟨lb, lo + x, none⟩)) rfl (by kernel_rfl) (by kernel_rfl) (by kernel_rfl) (fun _ _ _ h => h) (Or.inl ⟨by rfl, fun w' hSw => by (try dsimp only at hSw); obtain ⟨hs0, hs1, hs2⟩ := hSw; go_simp⟩) hSx ?_
                    try simp only [Act.put]
                    refine wpAnyH_take (i := 8) (v := .int .i64 (z : Int)) rfl (by kernel_rfl) (by kernel_rfl) (by kernel_rfl) (fun _ _ _ h => h) (Or.inl ⟨by rfl, fun w' hSw => by (try dsimp only at hSw); obtain ⟨hs0, hs1, hs2⟩ := hSw; go_simp⟩) hSx ?_
                    try simp only [Act.put]
                    refine wpAnyH_ready (rs := [9]) (by kernel_rfl) (by simp) ?_
                    refine AllReadyH.cons rfl (fun J hJ => ?_) AllReadyH.nil
                    go_simp
                    refine (CT _ d0).mono ?_
                    rintro e w1 ⟨rfl, b1⟩
                    have d1 := Below.next d0 b1
                    go_wp2_with fail
                    refine hJ.out _ _ (HS.out _ d1) (fun hSx => ?_)
                    clear hJ J
                    try simp only [Act.put, List.setIfInBounds_toArray, List.set_cons_zero, List.set_cons_succ]
                    refine wpAnyH_take (i := 10) (v := .bool false) rfl (by kernel_rfl) (by kernel_rfl) (by kernel_rfl) (fun _ _ _ h => h) (Or.inl ⟨by rfl, fun w' hSw => by (try dsimp only at hSw); obtain ⟨hs0, hs1, hs2⟩ := hSw; go_simp⟩) hSx ?_
                    try simp only [Act.put, List.setIfInBounds_toArray]
                    refine wpAnyH_done (by kernel_rfl) ?_ _
                    refine NoPanic.normal ?_
                    clear hSx HS CT
                    have hown1 := own_keep hown fun b _ hb => d1.block b hb
                    have hB1 := Below.next hB d1
                    clear hown hB
                    go_wp2
                    go_roundw
                    case rel => exact ⟨x + 1, lx, by go_num, by omega, HL2, hown1, hB1⟩
                    case measure => simp [intOf]; omega
                  | true =>
                    rw [hc] at hsu
                    simp only [hc] at CT
                    have HL2 : Hid ((List.range (x + 1)).filter (fun x => b.contains (l.getD x 0)) = lx ++ [x]) := by rw [hsu]; show _ = _; simp
                    clear hc hsu HL
                    obtain ⟨kx, Hk⟩ : ∃ kx, Hid (lx.length = kx) := ⟨_, rfl⟩
                    rw [Hk.out] at hown hlx2
                    have HS : Hid (∀ W', Below wr.heap.size wr W' → (fun w' => w'.cell? ⟨w.heap.size, 1, none⟩ = some (.slice (some ⟨bb, off, none⟩) n cap) ∧ w'.cell? ⟨bb, off + i, none⟩ = some (.slice ua bn uc) ∧ w'.cell? ⟨lb, lo + x, none⟩ = some (.int .i64 (z : Int))) W') := fun W' b => ⟨(b.cell (World.block_lt_of_cell? _ _ y1)).trans y1, (b.cell (World.block_lt_of_cell? _ _ hr)).trans hr, (b.cell (World.block_lt_of_cell? _ _ hlz)).trans hlz⟩
                    clear y0 y1 yr hr hlz hrs
                    go_wp2
                    refine wp_region_noPanic ?_
                    refine wp_region_held_drew (S := fun w' => w'.cell? ⟨w.heap.size, 1, none⟩ = some (.slice (some ⟨bb, off, none⟩) n cap) ∧ w'.cell? ⟨bb, off + i, none⟩ = some (.slice ua bn uc) ∧ w'.cell? ⟨lb, lo + x, none⟩ = some (.int .i64 (z : Int))) (by kernel_rfl) (HS.out _ (Below.refl _ wr).drew) (fun hSx => ?_)
                    have d0 : Below wr.heap.size wr wr.drew := (Below.refl _ wr).drew
                    refine wpAnyH_take (i := 0) (v := .pointer (some ⟨w.heap.size, 1, none⟩)) rfl (by kernel_rfl) (by kernel_rfl) (by kernel_rfl) (fun _ _ _ h => h) (Or.inl ⟨by rfl, fun w' hSw => by (try dsimp only at hSw); obtain ⟨hs0, hs1, hs2⟩ := hSw; go_simp⟩) hSx ?_
                    try simp only [Act.put, List.setIfInBounds_toArray]
                    refine wpAnyH_take (i := 1) (v := .slice (some ⟨bb, off, none⟩) n cap) rfl (by kernel_rfl) (by kernel_rfl) (by kernel_rfl) (fun _ _ _ h => h) (Or.inl ⟨by rfl, fun w' hSw => by (try dsimp only at hSw); obtain ⟨hs0, hs1, hs2⟩ := hSw; go_simp⟩) hSx ?_
                    try simp only [Act.put]
                    refine wpAnyH_take (i := 2) (v := .int .i64 (i : Int)) rfl (by kernel_rfl) (by kernel_rfl) (by kernel_rfl) (fun _ _ _ h => h) (Or.inl ⟨by rfl, fun w' hSw => by (try dsimp only at hSw); obtain ⟨hs0, hs1, hs2⟩ := hSw; go_simp⟩) hSx ?_
                    try simp only [Act.put]
                    refine wpAnyH_take (i := 3) (v := .pointer (some ⟨bb, off + i, none⟩)) rfl (by kernel_rfl) (by kernel_rfl) (by kernel_rfl) (fun _ _ _ h => h) (Or.inl ⟨by rfl, fun w' hSw => by (try dsimp only at hSw); obtain ⟨hs0, hs1, hs2⟩ := hSw; go_simp⟩) hSx ?_
                    try simp only [Act.put]
                    refine wpAnyH_take (i := 4) (v := .slice ua bn uc) rfl (by kernel_rfl) (by kernel_rfl) (by kernel_rfl) (fun _ _ _ h => h) (Or.inl ⟨by rfl, fun w' hSw => by (try dsimp only at hSw); obtain ⟨hs0, hs1, hs2⟩ := hSw; go_simp⟩) hSx ?_
                    try simp only [Act.put]
                    refine wpAnyH_take (i := 5) (v := .slice (some ⟨lb, lo, none⟩) c lc) rfl (by kernel_rfl) (by kernel_rfl) (by kernel_rfl) (fun _ _ _ h => h) (Or.inl ⟨by rfl, fun w' hSw => by (try dsimp only at hSw); obtain ⟨hs0, hs1, hs2⟩ := hSw; go_simp⟩) hSx ?_
                    try simp only [Act.put]
                    refine wpAnyH_take (i := 6) (v := .int .i64 (x : Int)) rfl (by kernel_rfl) (by kernel_rfl) (by kernel_rfl) (fun _ _ _ h => h) (Or.inl ⟨by rfl, fun w' hSw => by (try dsimp only at hSw); obtain ⟨hs0, hs1, hs2⟩ := hSw; go_simp⟩) hSx ?_
                    try simp only [Act.put]
                    refine wpAnyH_take (i := 7) (v := .pointer (some ⟨lb, lo + x, none⟩)) rfl (by kernel_rfl) (by kernel_rfl) (by kernel_rfl) (fun _ _ _ h => h) (Or.inl ⟨by rfl, fun w' hSw => by (try dsimp only at hSw); obtain ⟨hs0, hs1, hs2⟩ := hSw; go_simp⟩) hSx ?_
                    try simp only [Act.put]
                    refine wpAnyH_take (i := 8) (v := .int .i64 (z : Int)) rfl (by kernel_rfl) (by kernel_rfl) (by kernel_rfl) (fun _ _ _ h => h) (Or.inl ⟨by rfl, fun w' hSw => by (try dsimp only at hSw); obtain ⟨hs0, hs1, hs2⟩ := hSw; go_simp⟩) hSx ?_
                    try simp only [Act.put]
                    refine wpAnyH_ready (rs := [9]) (by kernel_rfl) (by simp) ?_
                    refine AllReadyH.cons rfl (fun J hJ => ?_) AllReadyH.nil
                    go_simp
                    refine (CT _ d0).mono ?_
                    rintro e w1 ⟨rfl, b1⟩
                    have d1 := Below.next d0 b1
                    go_wp2_with fail
                    refine hJ.out _ _ (HS.out _ d1) (fun hSx => ?_)
                    clear hJ J
                    try simp only [Act.put, List.setIfInBounds_toArray, List.set_cons_zero, List.set_cons_succ]
                    refine wpAnyH_take (i := 10) (v := .bool true) rfl (by kernel_rfl) (by kernel_rfl) (by kernel_rfl) (fun _ _ _ h => h) (Or.inl ⟨by rfl, fun w' hSw => by (try dsimp only at hSw); obtain ⟨hs0, hs1, hs2⟩ := hSw; go_simp⟩) hSx ?_
                    try simp only [Act.put, List.setIfInBounds_toArray]
                    refine wpAnyH_done (by kernel_rfl) ?_ _
                    refine NoPanic.normal ?_
                    clear hSx HS CT
                    have hown1 := own_keep hown fun b _ hb => d1.block b hb
                    have hB1 := Below.next hB d1
                    have hbz1 := hB1.size
                    clear hown hB hbz
                    go_wp2_with (first
                      | (at_builtin; refine wpList_append_own _ rfl _ _ 33 rfl wq.heap.size 3 i3 (.int .i64 0) 1 8 und22 hi3 hz0 hz1 hz2 rfl (by decide) _ _ _ rfl (hown1.alloc _) ⟨w1.heap.size, 0, none⟩ 1 1 [.int .i64 (x : Int)] rfl rfl ?c1 ?c2 ?c3 ?c4 ?c5 ?_)
                      | go_in)
                    case c1 =>
                      intro j u hj
                      match j, hj with
                      | 0, hj => simp at hj; subst hj; simp [Addr.add]
                    case c2 => intro u hu; simp at hu; subst hu; rfl
                    case c3 => unfold maxLen; omega
                    case c4 => omega
                    case c5 => simp; omega
                    · intro v' w9 hown' hgrow _
                      have hb2 : Below wq.heap.size wq w9 := (hB1.alloc hbz1 _).grown hgrow (by simp; omega) (fun k hk => (hown1.lt k hk).1)
                      go_wp2
                      go_roundw
                      case rel => exact ⟨x + 1, lx ++ [x], by go_num, by omega, HL2, by simpa [Hk.out] using hown', hb2⟩
                      case measure => simp [intOf]; omega
                · have hdx : decide ((x : Int) < (c : Int)) = false := by simp; omega
                  obtain rfl : x = c := by omega
                  have HTS2 : Hid (rsP l k (B.take (i + 1)) = Ls ++ [lx]) := by rw [← HL.out]; exact HTS1.out
                  have hs3 : wA.heap.size + 1 ≤ wr.heap.size := Nat.le_trans HSZ.out hbz
                  have hrow := own_low hown HSZ.out
                  replace hrow : ORow wr (wA.heap.size + 1) _ lx := hrow
                  obtain ⟨vals, h1, h2⟩ := HOR.out.below hB
                  have HH2 : Hid (∀ (i_1 : Nat) (u : Value) (l : List Nat), vals[i_1]? = some u → Ls[i_1]? = some l → ORow wr (wA.heap.size + 1) u l) := h2
                  have HH1 : Hid (wr.ownsRow (wA.heap.size + 1) 33 1 ov Ls.length vals) := h1
                  have o0 : wr.cell? ⟨wA.heap.size, 0, none⟩ = some (.int .i64 (x : Int)) := by rw [cell_of_row _ _ _ _ _ _ hob]; rfl
                  have o1 : wr.cell? ⟨wA.heap.size, 1, none⟩ = some ov := by rw [cell_of_row _ _ _ _ _ _ hob]; rfl
                  obtain ⟨ll2, Hll2⟩ : ∃ q, Hid (Ls.length = q) := ⟨_, rfl⟩
                  rw [Hll2.out] at h1 hLl
                  obtain ⟨oa, oc, rfl⟩ := own_form h1
                  obtain ⟨ra, rc, rfl⟩ := own_form hown
                  generalize lx.length = ll at *
                  clear h2 HTS HTN hown hrs hr
                  go_wp2_with (first
                    | (at_builtin; refine wpList_append_own _ rfl _ _ 22 rfl (wA.heap.size + 1) 33 i36 (.slice none 0 0) 1 24 undR ji3 jz0 jz1 jz2 rfl (by decide) _ _ _ rfl (h1.alloc _) ⟨wr.heap.size, 0, none⟩ 1 1 [.slice ra ll rc] rfl rfl ?c1 ?c2 ?c3 ?c4 ?c5 ?_)
                    | go_in)
                  case c1 =>
                    intro j u hj
                    match j, hj with
                    | 0, hj => simp at hj; subst hj; simp [Addr.add]
                  case c2 => intro u hu; simp at hu; subst hu; rfl
                  case c3 => unfold maxLen; omega
                  case c4 => omega
                  case c5 => simp; omega
                  · intro v' w2 hown' hgrow _
                    have hal := balloc wr (.cells #[.slice ra ll rc] 33)
                    have hB2 : Below (wA.heap.size + 1) wr w2 := ((Below.refl _ wr).alloc hs3 _).grown hgrow (by simp; omega) (fun k hk => (h1.lt k hk).1)
                    have hO2 : OR w2 (wA.heap.size + 1) v' (Ls ++ [lx]) := OR.more (own_keep HH1.out fun b _ hb => hal.block b hb) (fun i_1 u l' e1 e2 => (HH2.out i_1 u l' e1 e2).below hal) (hrow.below hal) (by rw [Hll2.out]; exact hown') hgrow
                    rw [← HTS2.out] at hO2
                    have hob2 := (hB2.block wA.heap.size (by omega)).trans hob
                    obtain ⟨va, vc, rfl⟩ := own_form hown'
                    have hO3 := hO2.keep (w' := w2.setCell ⟨wA.heap.size, 1, none⟩ (.slice va (ll2 + 1) vc)) (fun b hb _ => heap_setCell_other w2 ⟨wA.heap.size, 1, none⟩ b _ (by show b ≠ wA.heap.size; omega))
                    have hob3 : (w2.setCell ⟨wA.heap.size, 1, none⟩ (.slice va (ll2 + 1) vc)).heap[wA.heap.size]? = some (.cells #[.int .i64 (x : Int), .slice va (ll2 + 1) vc] 24 (0, 0)) := by
                      have := heap_setCell_same w2 wA.heap.size 1 _ 24 (.slice va (ll2 + 1) vc) hob2
                      simpa using this
                    have hB3 := (hBs.trans (hB2.mono (by omega))).setCell (p := ⟨wA.heap.size, 1, none⟩) (by show wA.heap.size ≤ wA.heap.size; omega) (.slice va (ll2 + 1) vc)
                    have hfz : w2.frozen? ⟨wA.heap.size, 1, none⟩ = false := frozen_of_row w2 _ 1 _ _ hob2
                    have z0 : w2.cell? ⟨wA.heap.size, 0, none⟩ = some (.int .i64 (x : Int)) := by rw [cell_of_row _ _ _ _ _ _ hob2]; rfl
                    have z1 : w2.cell? ⟨wA.heap.size, 1, none⟩ = some (.slice oa ll2 oc) := by rw [cell_of_row _ _ _ _ _ _ hob2]; rfl
                    clear hO2 hob2 hob hB2 hal hgrow hown' h1 y0 y1 yr hrow o0 o1
                    go_wp2
                    go_roundw
                    case rel => exact ⟨i + 1, _, _, by go_num, by omega, rfl, hob3, hO3, hB3⟩
                    case measure => simp [intOf]; omega
          · have hdi : decide ((i : Int) < (n : Int)) = false := by simp; omega
            obtain rfl : i = n := by omega
            obtain rfl : M = Ls := by rw [← HTA.out, HLs.out]
            obtain ⟨oa, oc, rfl⟩ := hOR.cap
            generalize M.length = ml at *
            have a2 : wr.cell? ⟨w.heap.size + 1, 0, none⟩ = some (.int .i64 0) := by rw [cell_of_row _ _ _ _ _ _ yr]; rfl
            have a3 : wr.cell? ⟨w.heap.size + 1, 1, none⟩ = some (.slice none 0 0) := by rw [cell_of_row _ _ _ _ _ _ yr]; rfl
            have f0 : wr.frozen? ⟨w.heap.size + 1, 0, none⟩ = false := frozen_of_row wr _ 0 _ _ yr
            have f1 : wr.frozen? ⟨w.heap.size + 1, 1, none⟩ = false := frozen_of_row wr _ 1 _ _ yr
            have hn1 := heap_setCell_same wr (w.heap.size + 1) 0 _ _ (.int .i64 (c : Int)) yr
            have hn2 := heap_setCell_same _ (w.heap.size + 1) 1 _ _ (.slice oa ml oc) hn1
            have hsA := HSA.out
            have hO2 := (hOR.keep (w' := wr.setCell ⟨w.heap.size + 1, 0, none⟩ (.int .i64 (c : Int))) (fun b hb _ => heap_setCell_other wr ⟨w.heap.size + 1, 0, none⟩ b _ (by show b ≠ w.heap.size + 1; omega))).keep (w' := (wr.setCell ⟨w.heap.size + 1, 0, none⟩ (.int .i64 (c : Int))).setCell ⟨w.heap.size + 1, 1, none⟩ (.slice oa ml oc)) (fun b hb _ => heap_setCell_other _ ⟨w.heap.size + 1, 1, none⟩ b _ (by show b ≠ w.heap.size + 1; omega))
            have hB2 := ((HBW.out.trans (hBA.mono HBW.out.size)).setCell (p := ⟨w.heap.size + 1, 0, none⟩) (by show w.heap.size ≤ w.heap.size + 1; omega) (.int .i64 (c : Int))).setCell (p := ⟨w.heap.size + 1, 1, none⟩) (by show w.heap.size ≤ w.heap.size + 1; omega) (.slice oa ml oc)
            have HBS : Hid (w.heap.size ≤ wA.heap.size + 1) := by show _ ≤ _; omega
            clear hOR hsA
            go_wp2
            exact post_d2 4 5 Tryd.results16 rfl hn2 rfl rfl ⟨.inr ⟨HL0.out, _, rfl, _, HBS.out, hO2⟩, hB2⟩

end Go.Proofs.YtnnopfdckillpaaDoor
