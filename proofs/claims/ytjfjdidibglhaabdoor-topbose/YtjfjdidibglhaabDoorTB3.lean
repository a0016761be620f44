/- TopBose, the law. -/
import Derived.Test.YtjfjdidibglhaabDoorTBa
import Derived.Test.YtjfjdidibglhaabDoorTO2
import Derived.Test.YtjfjdidibglhaabDoorK3
import Derived.Test.YtjfjdidibglhaabDoorA10
import Derived.Test.YtjfjdidibglhaabDoorS5
/- A list of squares of one's own. -/
namespace Go.Proofs.YtjfjdidibglhaabDoor
open Go.RowKit

def SqO (w : World) (base : Nat) (v : Value) (q : Nat) (ls : List (List Nat)) : Prop := ∃ vals : List Value, w.ownsRow base 39 2 v ls.length vals ∧ ∀ (i : Nat) (l : List Nat), ls[i]? = some l → vals[i * 2]? = some (.int .i64 (q : Int)) ∧ ∃ u, vals[i * 2 + 1]? = some u ∧ ORow w base u l
theorem own_keep2 {w w' : World} {base n size : Nat} {e : TypeId} {v : Value} {xs : List Value} (h : w.ownsRow base e size v n xs) (k : ∀ b, base ≤ b → b < w.heap.size → w'.heap[b]? = w.heap[b]?) : w'.ownsRow base e size v n xs := by
  obtain ⟨h3, h4 | ⟨g, cap, cur, h5, h6, h7, h8⟩⟩ := h
  · exact ⟨h3, .inl h4⟩
  · exact ⟨h3, .inr ⟨g, cap, cur, h5, h6, (k g h6 (Array.getElem?_eq_some_iff.1 h7).1).trans h7, h8⟩⟩
theorem SqO.nil (w : World) (base q : Nat) : SqO w base (.slice none 0 0) q [] := ⟨[], World.ownsRow_nil _ _ _ _, fun i l h => by simp at h⟩
theorem SqO.keep {w w' : World} {base q : Nat} {v : Value} {ls : List (List Nat)} (h : SqO w base v q ls) (k : ∀ b, base ≤ b → b < w.heap.size → w'.heap[b]? = w.heap[b]?) : SqO w' base v q ls := by
  obtain ⟨vals, h1, h2⟩ := h
  exact ⟨vals, own_keep2 h1 k, fun i l hl => by
    obtain ⟨h3, u, h4, h5⟩ := h2 i l hl
    exact ⟨h3, u, h4, own_keep h5 k⟩⟩
theorem SqO.below {w w' : World} {base q : Nat} {v : Value} {ls : List (List Nat)} (h : SqO w base v q ls) (k : Below w.heap.size w w') : SqO w' base v q ls := h.keep fun b _ hb => k.block b hb
theorem SqO.more {wa w2 : World} {base q : Nat} {v v' u : Value} {ls : List (List Nat)} {l : List Nat} {vals : List Value} (h1 : wa.ownsRow base 39 2 v ls.length vals) (h2 : ∀ (i : Nat) (l : List Nat), ls[i]? = some l → vals[i * 2]? = some (.int .i64 (q : Int)) ∧ ∃ u, vals[i * 2 + 1]? = some u ∧ ORow wa base u l) (hu : ORow wa base u l)
    (hown : w2.ownsRow base 39 2 v' (ls.length + 1) (vals ++ [.int .i64 (q : Int), u])) (hgr : wa.grownBy w2 v.ownBlock) : SqO w2 base v' q (ls ++ [l]) := by
  have key : ∀ {u l}, ORow wa base u l → ORow w2 base u l := by
    rintro u l ⟨h0, hn | ⟨g, cap, cur, e1, hg, k1, k2⟩⟩
    · exact ⟨h0, .inl hn⟩
    · refine ⟨h0, .inr ⟨g, cap, cur, e1, hg, (hgr.block g (Array.getElem?_eq_some_iff.1 k1).1 (fun e => ?_)).trans k1, k2⟩⟩
      obtain ⟨_, ⟨rfl, _⟩ | ⟨g', cap', cur', rfl, _, hg', _⟩⟩ := h1
      · simp [Value.ownBlock] at e
      · have e2 : g = g' := by simpa [Value.ownBlock] using e
        subst e2
        rw [hg'] at k1
        simp at k1
  have hlen : vals.length = ls.length * 2 := h1.1
  refine ⟨vals ++ [.int .i64 (q : Int), u], by rw [List.length_append]; exact hown, fun i l' e2 => ?_⟩
  by_cases hi : i < ls.length
  · rw [List.getElem?_append_left hi] at e2
    obtain ⟨h3, u', h4, h5⟩ := h2 i l' e2
    exact ⟨by rw [List.getElem?_append_left (by omega)]; exact h3, u', by rw [List.getElem?_append_left (by omega)]; exact h4, key h5⟩
  · rw [List.getElem?_append_right (by omega)] at e2
    have h0 : i = ls.length := by
      rcases Nat.eq_zero_or_pos (i - ls.length) with h | h
      · omega
      · rw [List.getElem?_eq_none (by simp; omega)] at e2; simp at e2
    subst h0
    simp at e2
    subst e2
    refine ⟨by rw [List.getElem?_append_right (by omega), hlen, Nat.sub_self]; rfl, u, by rw [List.getElem?_append_right (by omega), hlen, show ls.length * 2 + 1 - ls.length * 2 = 1 by omega]; rfl, key hu⟩
theorem SqO.sq {w : World} {base q : Nat} {v : Value} {ls : List (List Nat)} (h : SqO w base v q ls) : Ar.SqL w v (ls.map fun l => ((q : Int), l.map Int.ofNat)) := by
  obtain ⟨vals, h1, h2⟩ := h
  obtain ⟨h3, ⟨rfl, h4⟩ | ⟨g, cap, cur, rfl, h6, h7, h8, h9, h10, ht⟩⟩ := h1
  · have : ls = [] := List.length_eq_zero_iff.1 h4
    subst this
    exact ⟨none, 0, rfl, fun i q h => by simp at h⟩
  · refine ⟨_, cap, by rw [List.length_map], fun i s hs => ?_⟩
    rw [List.getElem?_map] at hs
    cases hl : ls[i]? with
    | none => rw [hl] at hs; cases hs
    | some l =>
      rw [hl] at hs
      simp only [Option.map_some, Option.some.injEq] at hs
      subst hs
      have hi := (List.getElem?_eq_some_iff.1 hl).1
      obtain ⟨e1, u, e2, hu⟩ := h2 i l hl
      have c : ∀ j, j < ls.length * 2 → w.cell? ⟨g, 0 + j, none⟩ = vals[j]? := fun j hj => by
        rw [cell_of_row w g _ _ _ _ h7, Nat.zero_add, ← Array.getElem?_toList, ← ht, List.getElem?_take, if_pos hj]
      exact ⟨g, 0, u, rfl, by rw [c _ (by omega)]; exact e1, by rw [Nat.add_assoc, c _ (by omega)]; exact e2, hu.sl⟩
theorem SqO.form {w : World} {base q : Nat} {v : Value} {ls : List (List Nat)} (h : SqO w base v q ls) : ∃ a c, v = .slice a ls.length c := by
  obtain ⟨a, c, e, _⟩ := h.sq
  exact ⟨a, c, by rw [e, List.length_map]⟩
theorem undSq : Tryd.prog.underlying 37 = some (.slice 39) := by kernel_rfl
theorem infoSq : ∃ i, Tryd.prog.info? 39 = some i ∧ i.zero = some (.agg #[.int .i64 0, .slice none 0 0]) ∧ i.size = 2 ∧ i.bytes = 32 := by
  have h1 : (Tryd.prog.info? 39).map (·.zero) = some (some (.agg #[.int .i64 0, .slice none 0 0])) := by kernel_rfl
  have h2 : (Tryd.prog.info? 39).map (·.size) = some 2 := by kernel_rfl
  have h3 : (Tryd.prog.info? 39).map (·.bytes) = some 32 := by kernel_rfl
  cases h : Tryd.prog.info? 39 with
  | none => rw [h] at h1; cases h1
  | some i =>
    rw [h] at h1 h2 h3
    exact ⟨i, rfl, Option.some.inj h1, Option.some.inj h2, Option.some.inj h3⟩
/-- Rows of n numbers each, as they are read. -/
def GrT (w : World) (b o n : Nat) (B : List (List Nat)) : Prop := ∀ i, i < B.length → ∃ b1 o1 cc, w.cell? ⟨b, o + i, none⟩ = some (.slice (some ⟨b1, o1, none⟩) n cc) ∧ ∀ c, c < n → w.cell? ⟨b1, o1 + c, none⟩ = some (.int .i64 (((B.getD i []).getD c 0 : Nat) : Int))
theorem mapT_at (r : List Nat) (c : Nat) : (r.map Int.ofNat).getD c 0 = ((r.getD c 0 : Nat) : Int) := by
  rw [List.getD_eq_getElem?_getD, List.getD_eq_getElem?_getD, List.getElem?_map]
  cases r[c]? <;> rfl
theorem grT_of {w : World} {v : Value} {B : List (List Nat)} {n : Nat} (h : Rw w v (toZ B)) (h1 : 1 ≤ n) (hl : 1 ≤ B.length) (hB : ∀ r ∈ B, r.length = n) : ∃ b o c, v = .slice (some ⟨b, o, none⟩) B.length c ∧ ∀ W, Below w.heap.size w W → GrT W b o n B := by
  have key : ∀ W, Below w.heap.size w W → ∀ i, i < B.length → ∃ a cap b o b1 o1 cc, v = .slice a B.length cap ∧ a = some ⟨b, o, none⟩ ∧ W.cell? ⟨b, o + i, none⟩ = some (.slice (some ⟨b1, o1, none⟩) n cc) ∧ ∀ c, c < n → W.cell? ⟨b1, o1 + c, none⟩ = some (.int .i64 (((B.getD i []).getD c 0 : Nat) : Int)) := fun W hW i hi => by
    obtain ⟨a, cap, rfl, hr⟩ := h.below hW
    have hi2 : (toZ B)[i]? = some ((B.getD i []).map Int.ofNat) := by
      unfold toZ
      rw [List.getElem?_map, List.getElem?_eq_getElem hi, List.getD_eq_getElem?_getD, List.getElem?_eq_getElem hi]
      rfl
    obtain ⟨b, o, x, ea, hc, hs⟩ := hr i _ hi2
    have hm : B.getD i [] ∈ B := by
      rw [List.getD_eq_getElem?_getD, List.getElem?_eq_getElem hi]
      exact List.getElem_mem hi
    have hln := hB _ hm
    obtain ⟨xa, xc, rfl, hx⟩ := hs
    rw [List.length_map] at hx
    obtain ⟨b1, o1, e1, _⟩ := hx 0 (by omega)
    refine ⟨a, cap, b, o, b1, o1, xc, by simp [toZ], ea, by rw [hc, e1, List.length_map, hln], fun c hc => ?_⟩
    obtain ⟨b2, o2, e2, hx2⟩ := hx c (by omega)
    rw [e1] at e2
    simp only [Option.some.injEq, Addr.mk.injEq, and_true] at e2
    obtain ⟨rfl, rfl⟩ := e2
    rw [hx2, mapT_at]
  obtain ⟨a, cap, b, o, _, _, _, ev, ea, _, _⟩ := key w (Below.refl _ _) 0 hl
  refine ⟨b, o, cap, by rw [ev, ea], fun W hW i hi => ?_⟩
  obtain ⟨a', cap', b', o', b1, o1, cc, ev', ea', h1, h2⟩ := key W hW i hi
  rw [ev] at ev'
  simp only [Value.slice.injEq] at ev'
  rw [← ev'.1, ea] at ea'
  simp only [Option.some.injEq, Addr.mk.injEq, and_true] at ea'
  obtain ⟨rfl, rfl⟩ := ea'
  exact ⟨b1, o1, cc, h1, h2⟩
/-- The box of a design that is built. -/
structure BoxD (s z : Nat) (ov : Value) (W : World) : Prop where
  o : W.heap[s]? = some (.cells #[.int .i64 (z : Int), ov] 44 (0, 0))
theorem BoxD.lt {s z : Nat} {ov : Value} {W : World} (h : BoxD s z ov W) : s + 1 ≤ W.heap.size := (Array.getElem?_eq_some_iff.1 h.o).1
theorem BoxD.low {s z : Nat} {ov : Value} {W W' : World} (h : BoxD s z ov W) (b : Below (s + 1) W W') : BoxD s z ov W' := ⟨(b.block s (by omega)).trans h.o⟩
theorem BoxD.cells {s z : Nat} {ov : Value} {W : World} (h : BoxD s z ov W) : W.cell? ⟨s, 0, none⟩ = some (.int .i64 (z : Int)) ∧ W.cell? ⟨s, 1, none⟩ = some ov := ⟨by rw [cell_of_row _ _ _ _ _ _ h.o]; rfl, by rw [cell_of_row _ _ _ _ _ _ h.o]; rfl⟩
theorem BoxD.put {s z : Nat} {ov : Value} {W : World} (h : BoxD s z ov W) (nv : Value) : BoxD s z nv (W.setCell ⟨s, 1, none⟩ nv) := ⟨heap_setCell_same W s 1 _ _ nv h.o⟩
theorem BoxD.start (w : World) (z : Nat) : BoxD w.heap.size z (.slice none 0 0) (w.alloc (.cells #[.int .i64 (z : Int), .slice none 0 0] 44)) := ⟨heap_alloc_new w _⟩
end Go.Proofs.YtjfjdidibglhaabDoor

/- The walk of TopBose on a field of few elements. -/
namespace Go.Proofs.YtjfjdidibglhaabDoor
open Go.RowKit

/-- The first squares. -/
def mkQ (M : Nat → List Nat) (n : Nat) : List (List Nat) := (List.range n).map M
theorem mkQ_more (M : Nat → List Nat) (n : Nat) : mkQ M (n + 1) = mkQ M n ++ [M n] := by unfold mkQ; rw [List.range_succ, List.map_append]; rfl
theorem mkQ_len (M : Nat → List Nat) (n : Nat) : (mkQ M n).length = n := by simp [mkQ]
theorem own_form2 {w : World} {base n size : Nat} {e : TypeId} {v : Value} {xs : List Value} (h : w.ownsRow base e size v n xs) : ∃ a c, v = .slice a n c := by
  obtain ⟨_, ⟨rfl, rfl⟩ | ⟨g, cap, cur, rfl, _⟩⟩ := h
  · exact ⟨_, _, rfl⟩
  · exact ⟨_, _, rfl⟩
set_option maxRecDepth 100000 in
set_option maxHeartbeats 16000000 in
theorem bose_walk (p k : Int) (q : Nat) (v : Value) (M : Nat → List Nat) (w : World) (hv : ∃ a m c, v = .slice a m c) (h2 : 2 ≤ q) (h8 : q ≤ 8)
    (h13 : ∀ W, Below w.heap.size w W → Calls Tryd.prog 13 #[] W fun e w' => e = .returned (.bool true) ∧ Below W.heap.size W w')
    (h8s : ∀ W, Below w.heap.size w W → Calls Tryd.prog 8 #[.agg #[.int .i64 p, .int .i64 k, v]] W fun e w' => e = .returned (.int .i64 (q : Int)) ∧ Below W.heap.size W w')
    (h14 : ∀ W (a : Nat), Below w.heap.size w W → 1 ≤ a → a < q → Calls Tryd.prog 14 #[.agg #[.int .i64 p, .int .i64 k, v], .int .i64 (a : Int)] W fun e w' => (∃ y, e = .returned (.tuple #[.agg #[.int .i64 (q : Int), y], .int .i64 0]) ∧ ORow w' W.heap.size y (M (a - 1))) ∧ Below W.heap.size W w')
    (h15 : ∀ W lv, Below w.heap.size w W → Q35 q → Ar.SqL W lv ((mkQ M (q - 1)).map fun l => ((q : Int), l.map Int.ofNat)) → Calls Tryd.prog 15 #[lv] W fun e w' => (∃ y, e = .returned (.tuple #[y, .int .i64 0]) ∧ Rw w' y (toZ (rqT q))) ∧ Below W.heap.size W w')
    (h9 : ∀ W y, Q35 q → Rw W y (toZ (rqT q)) → Calls Tryd.prog 9 #[.int .i64 (q : Int), y] W fun e w' => e = .returned (.tuple #[.int .i64 2, .int .i64 0]) ∧ Below W.heap.size W w')
    (h16 : ∀ W y, Q35 q → Rw W y (toZ (BLp q ((q + 1) * q))) → Calls Tryd.prog 16 #[.agg #[.int .i64 ((q * q : Nat) : Int), y], .int .i64 2] W fun e w' => e = .returned (.tuple #[.int .i64 (q : Int), .int .i64 1, .int .i64 0]) ∧ Below W.heap.size W w') :
    Calls Tryd.prog 4 #[.agg #[.int .i64 p, .int .i64 k, v]] w fun e w' => e = .returned (.bool true) ∧ Below w.heap.size w w' := by
  obtain ⟨fa, fn, fc, rfl⟩ := hv
  obtain ⟨i39, hi, hz0, hz1, hz2⟩ := infoSq
  have b1 := balloc w (.cells #[.int .i64 p, .int .i64 k, .slice fa fn fc] 24)
  have HX := fl_box p k (.slice fa fn fc) w
  obtain ⟨w0, Hw0⟩ : ∃ w0, Hid (w.alloc (.cells #[.int .i64 p, .int .i64 k, .slice fa fn fc] 24) = w0) := ⟨_, rfl⟩
  rw [Hw0.out] at b1 HX
  have HX2 : Hid (∀ W, Below w0.heap.size w0 W → (W.cell? ⟨w.heap.size, 0, none⟩ = some (.int .i64 p) ∧ W.cell? ⟨w.heap.size, 1, none⟩ = some (.int .i64 k) ∧ W.cell? ⟨w.heap.size, 2, none⟩ = some (.slice fa fn fc))) := HX
  have HB0 : Hid (∀ W, Below w0.heap.size w0 W → Below w.heap.size w W) := fun W b => Below.next b1 b
  have H14 : Hid (∀ W (a : Nat), Below w.heap.size w W → 1 ≤ a → a < q → Calls Tryd.prog 14 #[.agg #[.int .i64 p, .int .i64 k, .slice fa fn fc], .int .i64 (a : Int)] W fun e w' => (∃ y, e = .returned (.tuple #[.agg #[.int .i64 (q : Int), y], .int .i64 0]) ∧ ORow w' W.heap.size y (M (a - 1))) ∧ Below W.heap.size W w') := h14
  have H15 : Hid (∀ W lv, Below w.heap.size w W → Q35 q → Ar.SqL W lv ((mkQ M (q - 1)).map fun l => ((q : Int), l.map Int.ofNat)) → Calls Tryd.prog 15 #[lv] W fun e w' => (∃ y, e = .returned (.tuple #[y, .int .i64 0]) ∧ Rw w' y (toZ (rqT q))) ∧ Below W.heap.size W w') := h15
  have H9 : Hid (∀ W y, Q35 q → Rw W y (toZ (rqT q)) → Calls Tryd.prog 9 #[.int .i64 (q : Int), y] W fun e w' => e = .returned (.tuple #[.int .i64 2, .int .i64 0]) ∧ Below W.heap.size W w') := h9
  have H16 : Hid (∀ W y, Q35 q → Rw W y (toZ (BLp q ((q + 1) * q))) → Calls Tryd.prog 16 #[.agg #[.int .i64 ((q * q : Nat) : Int), y], .int .i64 2] W fun e w' => e = .returned (.tuple #[.int .i64 (q : Int), .int .i64 1, .int .i64 0]) ∧ Below W.heap.size W w') := h16
  have H8 : Hid _ := h8s
  have C13 := h13 w0 b1
  clear HX h8s h14 h15 h9 h16 h13 b1
  go_enter Tryd.func4, Tryd.ntmps4
  go_wp2_with (first
    | (go_at_call 13; rw [Hw0.out]; refine C13.mono ?_; rintro e w1 ⟨rfl, b1⟩; clear C13; obtain ⟨x0, x1, x2⟩ := HX2.out w1 b1; have C8 := H8.out w1 (HB0.out w1 b1); clear H8)
    | (go_at_call 8; refine C8.mono ?_; rintro e w2 ⟨rfl, b2⟩; clear C8 x0 x1 x2))
  replace b2 := Below.next b1 b2
  clear b1
  have H2B : Hid (∀ W, Below w2.heap.size w2 W → Below w0.heap.size w0 W) := fun W b => Below.next b2 b
  clear b2
  go_loopw [5, 6] (fun lv av wr => ∃ (a n : Nat) (la : Option Addr) (lc : Nat), av = .int .i64 (a : Int) ∧ lv = .slice la n lc ∧ Hid (a = n + 1) ∧ 1 ≤ a ∧ a ≤ q ∧ a ≤ 7 ∧ n ≤ 8 ∧ SqO wr w2.heap.size (.slice la n lc) q (mkQ M n) ∧ Below w2.heap.size w2 wr) (fun _ av _ => (q - intOf av).toNat)
  case atStart => exact ⟨1, 0, none, 0, rfl, rfl, rfl, by omega, by omega, by omega, by omega, SqO.nil _ _ _, Below.refl _ _⟩
  case round =>
    obtain ⟨a, n, la, lc, rfl, rfl, Hna, ha1, haq, ha7, hn8, hO, hB⟩ := hrel
    by_cases hlt : a < q
    · have hd1 : decide ((a : Int) < (q : Int)) = true := by simp; omega
      have hd1i : (a : Int) < (q : Int) := by omega
      by_cases h6 : a ≤ 6
      · have hd2 : decide ((a : Int) ≤ 6) = true := by simp; omega
        have hd2i : (a : Int) ≤ 6 := by omega
        obtain ⟨x0, x1, x2⟩ := HX2.out wr (H2B.out wr hB)
        have C14 := H14.out wr a (HB0.out _ (H2B.out wr hB)) ha1 hlt
        obtain ⟨vals, hq1, hq2⟩ := hO
        have HQ1 : Hid (wr.ownsRow w2.heap.size 39 2 (.slice la n lc) (mkQ M n).length vals) := hq1
        have HQ2 : Hid (∀ (i : Nat) (l : List Nat), (mkQ M n)[i]? = some l → vals[i * 2]? = some (.int .i64 (q : Int)) ∧ ∃ u, vals[i * 2 + 1]? = some u ∧ ORow wr w2.heap.size u l) := hq2
        rw [mkQ_len] at hq1
        rw [show a - 1 = n by rw [Hna.out]; omega] at C14
        have hbz := hB.size
        clear hq2
        go_wp2_with (first
          | (go_at_call 14; refine C14.mono ?_; rintro e w3 ⟨⟨y, rfl, hy⟩, b3⟩; clear C14 x0 x1 x2; obtain ⟨ya, yc, rfl⟩ := own_form hy; have hq3 := own_keep2 hq1 (fun b _ hb => b3.block b hb); have hB3 := Below.next hB b3; have hb3z := b3.size; have hu := own_low hy hbz; clear hq1 hy)
          | (at_builtin; refine wpList_append_own _ rfl _ _ 37 rfl w2.heap.size 39 i39 (.agg #[.int .i64 0, .slice none 0 0]) 2 32 undSq hi hz0 hz1 hz2 rfl (by decide) _ _ _ rfl ((hq3.alloc _).alloc _) ⟨w3.heap.size + 1, 0, none⟩ 1 1 [.int .i64 (q : Int), .slice ya (M n).length yc] rfl rfl ?c1 ?c2 ?c3 ?c4 ?c5 ?_)
          | go_in)
        case c1 =>
          intro j u hj
          have hh := heap_alloc_new (w3.alloc (.cells #[.int .i64 (q : Int), .slice ya (M n).length yc] 39)) (.cells #[.int .i64 (q : Int), .slice ya (M n).length yc] 39)
          rw [World.size_alloc] at hh
          match j, hj with
          | 0, hj => simp only [List.getElem?_cons_zero, Option.some.injEq] at hj; subst hj; exact (cell_of_row _ (w3.heap.size + 1) 0 _ _ _ hh).trans rfl
          | 1, hj => simp only [List.getElem?_cons_succ, List.getElem?_cons_zero, Option.some.injEq] at hj; subst hj; exact (cell_of_row _ (w3.heap.size + 1) 1 _ _ _ hh).trans rfl
        case c2 => intro u hu; simp at hu; rcases hu with rfl | rfl <;> rfl
        case c3 => unfold maxLen; omega
        case c4 => omega
        case c5 => simp; omega
        · intro v' w5 hown' hgrow _
          have hal := Below.next (balloc w3 (.cells #[.int .i64 (q : Int), .slice ya (M n).length yc] 39)) (balloc _ (.cells #[.int .i64 (q : Int), .slice ya (M n).length yc] 39))
          have hB5 : Below w2.heap.size w2 w5 := (Below.next hB3 hal).grown hgrow (by simp; omega) (fun k hk => (hq3.lt k hk).1)
          have kk : ∀ b, w2.heap.size ≤ b → b < wr.heap.size → ((w3.alloc (.cells #[.int .i64 (q : Int), .slice ya (M n).length yc] 39)).alloc (.cells #[.int .i64 (q : Int), .slice ya (M n).length yc] 39)).heap[b]? = wr.heap[b]? := fun b _ hb => (hal.block b (by omega)).trans (b3.block b hb)
          have hO5 : SqO w5 w2.heap.size v' q (mkQ M n ++ [M n]) := SqO.more (own_keep2 HQ1.out kk) (fun i l e => by obtain ⟨e1, u, e2, e3⟩ := HQ2.out i l e; exact ⟨e1, u, e2, own_keep e3 kk⟩) (own_keep hu fun b _ hb => hal.block b hb) (by rw [mkQ_len]; exact hown') hgrow
          rw [← mkQ_more] at hO5
          obtain ⟨va, vc, rfl⟩ := own_form2 hown'
          have Hna2 : Hid (a + 1 = n + 1 + 1) := by show _ = _; rw [Hna.out]
          clear hown' hgrow hq3 hal kk hu HQ1 HQ2 b3 hB3
          go_wp2
          go_roundw
          case rel => exact ⟨a + 1, n + 1, va, vc, by go_num, rfl, Hna2, by omega, by omega, by omega, by have := Hna.out; omega, hO5, hB5⟩
          case measure => simp [intOf]; omega
      · have hd2 : decide ((a : Int) ≤ 6) = false := by simp; omega
        have hd2n : ¬ (a : Int) ≤ 6 := by omega
        have hq3 : decide ((q : Int) < 3) = false := by simp; omega
        have hq5 : decide ((5 : Int) < (q : Int)) = true := by simp; omega
        go_wp2
        go_ret
        exact ⟨rfl, HB0.out _ (H2B.out wr hB)⟩
    · have hd1 : decide ((a : Int) < (q : Int)) = false := by simp; omega
      have hd1n : decide (a < q) = false := by simp; omega
      obtain rfl : a = q := by omega
      by_cases hq3 : a < 3
      · have hqd3 : decide ((a : Int) < 3) = true := by simp; omega
        go_wp2
        go_ret
        exact ⟨rfl, HB0.out _ (H2B.out wr hB)⟩
      · have hqd3 : decide ((a : Int) < 3) = false := by simp; omega
        have hqd3n : decide (a < 3) = false := by simp; omega
        by_cases hq5 : 5 < a
        · have hqd5 : decide ((5 : Int) < (a : Int)) = true := by simp; omega
          go_wp2
          go_ret
          exact ⟨rfl, HB0.out _ (H2B.out wr hB)⟩
        · have hqd5 : decide ((5 : Int) < (a : Int)) = false := by simp; omega
          have hqd5n : decide (5 < a) = false := by simp; omega
          have HQ : Hid (Q35 a) := show _ ∨ _ from by omega
          obtain ⟨z, Hz⟩ : ∃ z, Hid (a * a = z) := ⟨_, rfl⟩
          obtain ⟨q1, Hq1⟩ : ∃ q1, Hid (a + 1 = q1) := ⟨_, rfl⟩
          have hz25 : z ≤ 25 := by rw [← Hz.out]; exact Nat.mul_le_mul (show a ≤ 5 by omega) (show a ≤ 5 by omega)
          have hz9 : 9 ≤ z := by rw [← Hz.out]; exact Nat.mul_le_mul (show 3 ≤ a by omega) (show 3 ≤ a by omega)
          have hq16 : q1 ≤ 6 := by rw [← Hq1.out]; omega
          have C15 := H15.out wr _ (HB0.out _ (H2B.out wr hB)) HQ.out (by rw [show a - 1 = n by rw [Hna.out]; omega]; exact hO.sq)
          have HGR : Hid (∀ W y, Rw W y (toZ (rqT a)) → ∃ b o c, y = .slice (some ⟨b, o, none⟩) z c ∧ ∀ W', Below W.heap.size W W' → GrT W' b o q1 (rqT a)) := fun W y h => by
            rw [← Hz.out, ← Hq1.out, ← st_len HQ.out]
            exact grT_of h (by omega) (by rw [st_len HQ.out, Hz.out]; omega) (fun r hr => (st_row HQ.out hr).1)
          have HLN : Hid ((rqT a).length = z) := by show _ = _; rw [st_len HQ.out, Hz.out]
          have C9 : Hid (∀ W y, Rw W y (toZ (rqT a)) → Calls Tryd.prog 9 #[.int .i64 (a : Int), y] W fun e w' => e = .returned (.tuple #[.int .i64 2, .int .i64 0]) ∧ Below W.heap.size W w') := fun W y h => H9.out W y HQ.out h
          have C16 : Hid (∀ W y, Rw W y (toZ (BLp a (q1 * a))) → Calls Tryd.prog 16 #[.agg #[.int .i64 (z : Int), y], .int .i64 2] W fun e w' => e = .returned (.tuple #[.int .i64 (a : Int), .int .i64 1, .int .i64 0]) ∧ Below W.heap.size W w') := fun W y h => by
            have := H16.out W y HQ.out (by rw [Hq1.out]; exact h)
            rwa [Hz.out] at this
          have hzm : (a : Int) * (a : Int) = (z : Int) := by rw [← Hz.out]; simp
          have hqa : (a : Int) + 1 = (q1 : Int) := by rw [← Hq1.out]; simp
          clear H15 H9 H16 hO H14
          go_wp2_with (first
            | (go_at_call 15; refine C15.mono ?_; rintro e w3 ⟨⟨y, rfl, hy⟩, b3⟩; clear C15; obtain ⟨ab, ao, ac, rfl, hGA⟩ := HGR.out w3 _ hy; have C9' := C9.out w3 _ hy; clear hy; obtain ⟨g1, o1, cc, r1, r2⟩ := hGA w3 (Below.refl _ _) 0 (by rw [HLN.out]; omega); rw [Nat.add_zero] at r1)
            | (go_at_call 9; refine C9'.mono ?_; rintro e w4 ⟨rfl, b4⟩; clear C9' r1 r2))
          have HGA : Hid (∀ W, Below w4.heap.size w4 W → GrT W ab ao q1 (rqT a)) := fun W b => hGA W (Below.next b4 b)
          have HBF : Hid (∀ W, Below w4.heap.size w4 W → Below w.heap.size w W) := fun W b => HB0.out W (H2B.out W (Below.next hB (Below.next b3 (Below.next b4 b))))
          obtain ⟨i3, ki3, kz0, kz1, kz2⟩ := info3
          obtain ⟨i36, ji3, jz0, jz1, jz2⟩ := info36
          have hbx0 := BoxD.start w4 z
          have hb0 := balloc w4 (.cells #[.int .i64 (z : Int), .slice none 0 0] 44)
          have Hmu : Hid (∀ c, c ≤ q1 → c * a ≤ 30) := fun c hc => Nat.mul_le_mul (show c ≤ 6 by omega) (show a ≤ 5 by omega)
          have Hqa : Hid (a + 1 = q1) := Hq1.out
          clear hGA b3 b4 HGR C9 hB H2B HB0 hzm hqa Hq1 Hz hd1 hd1n hlt haq
          go_loopw [13] (fun cv wr => ∃ (c m : Nat) (ov : Value), cv = .int .i64 (c : Int) ∧ c ≤ q1 ∧ Hid (m = c * a) ∧ m ≤ 30 ∧ BoxD w4.heap.size z ov wr ∧ OR wr (w4.heap.size + 1) ov (BLp a m) ∧ Below w4.heap.size w4 wr) (fun cv _ => (q1 - intOf cv).toNat)
          case atStart => exact ⟨0, 0, _, rfl, by omega, (Nat.zero_mul a).symm, by omega, hbx0, OR.nil _ _, hb0⟩
          case round =>
            clear hbx0 hb0
            obtain ⟨c, m, ov, rfl, hc, Hm, hm30, hbx, hOR, hB⟩ := hrel
            have hqa2 := Hqa.out
            by_cases hlc : c ≤ a
            · have hdc : decide ((c : Int) ≤ (a : Int)) = true := by simp; omega
              have hci : (c : Int) ≤ (a : Int) := by omega
              have hcq : c < q1 := by omega
              clear hqa2
              go_wp2
              go_loopw [14] (fun xv wr => ∃ (x m : Nat) (ov : Value), xv = .int .i64 (x : Int) ∧ x ≤ a ∧ Hid (m = c * a + x) ∧ m ≤ 30 ∧ BoxD w4.heap.size z ov wr ∧ OR wr (w4.heap.size + 1) ov (BLp a m) ∧ Below w4.heap.size w4 wr) (fun xv _ => (a - intOf xv).toNat)
              case atStart => exact ⟨0, m, ov, rfl, by omega, Hm.out.trans (Nat.add_zero _).symm, hm30, hbx, hOR, hB⟩
              case round =>
                clear hbx hOR hB hm30 Hm
                obtain ⟨x, m2, ov, rfl, hx, Hm, hm30, hbx, hOR, hB⟩ := hrel
                by_cases hlx : x < a
                · have hdx : decide ((x : Int) < (a : Int)) = true := by simp; omega
                  have hxi : (x : Int) < (a : Int) := by omega
                  have hsz := hbx.lt
                  have HTS : Hid (BLp a (m2 + 1) = BLp a m2 ++ [bkT a c x]) := by show _ = _; rw [Hm.out]; exact BLp_more hlx
                  have hm29 : m2 ≤ 29 := by
                    have := Hmu.out (c + 1) (by omega)
                    rw [Nat.succ_mul] at this
                    have := Hm.out
                    omega
                  have Hm2 : Hid (m2 + 1 = c * a + (x + 1)) := by show _ = _; rw [Hm.out]; omega
                  have HSU : Hid (∀ i, bkI a c x (i + 1) = bkI a c x i ++ if ((rqT a).getD i []).getD c 0 == x then [i] else []) := fun i => bkI_more a c x i
                  have HBE : Hid (bkI a c x z = bkT a c x) := by show _ = _; unfold bkI bkT; rw [← HLN.out, st_len HQ.out]
                  obtain ⟨w5, Hw5⟩ : ∃ w5 : World, Hid (w5 = wr) := ⟨_, rfl⟩
                  have HBX : Hid (BoxD w4.heap.size z ov w5) := by rw [Hw5.out]; exact hbx
                  have HOR : Hid (OR w5 (w4.heap.size + 1) ov (BLp a m2)) := by rw [Hw5.out]; exact hOR
                  have HB1 : Hid (Below w4.heap.size w4 w5) := by rw [Hw5.out]; exact hB
                  have HSZ : Hid (w4.heap.size + 1 ≤ w5.heap.size) := by rw [Hw5.out]; exact hsz
                  clear hbx hOR hB hsz Hm hm30
                  go_wp2
                  go_loopw [15, 16] (fun bv iv wr' => ∃ (i : Nat) (l : List Nat), iv = .int .i64 (i : Int) ∧ i ≤ z ∧ Hid (bkI a c x i = l) ∧ wr'.ownsRow w5.heap.size 3 1 bv l.length ((l.map Int.ofNat).map (Value.int .i64)) ∧ Below w5.heap.size w5 wr') (fun _ iv _ => (z - intOf iv).toNat)
                  case atStart => exact ⟨0, [], rfl, by omega, rfl, World.ownsRow_nil _ _ _ _, by rw [Hw5.out]; exact Below.refl _ _⟩
                  case round =>
                    obtain ⟨i, l, rfl, hi2, HL, hown, hB⟩ := hrel
                    have hbz := hB.size
                    have hBs : Below w4.heap.size w4 wr := (HB1.out).trans (hB.mono (by have := HSZ.out; omega))
                    have hbx := HBX.out.low (hB.mono HSZ.out)
                    have hll : l.length ≤ i := by rw [← HL.out]; exact bkI_len a c x i
                    by_cases hli : i < z
                    · have hdi : decide ((i : Int) < (z : Int)) = true := by simp; omega
                      have hii : (i : Int) < (z : Int) := by omega
                      obtain ⟨g1, o1, cc, hr1, hr2⟩ := HGA.out wr hBs i (by rw [HLN.out]; exact hli)
                      have hcc := hr2 c hcq
                      have hsu := HSU.out i
                      rw [HL.out] at hsu
                      obtain ⟨y, Hy⟩ : ∃ y, Hid (((rqT a).getD i []).getD c 0 = y) := ⟨_, rfl⟩
                      rw [Hy.out] at hsu hcc
                      clear hr2 hbx
                      by_cases hyx : y = x
                      · have hye : ((y : Int) == (x : Int)) = true := by simp [hyx]
                        have HL2 : Hid (bkI a c x (i + 1) = l ++ [i]) := by show _ = _; rw [hsu, hyx]; simp
                        clear hyx hsu HL Hy
                        obtain ⟨k, Hk⟩ : ∃ k, Hid (l.length = k) := ⟨_, rfl⟩
                        rw [Hk.out] at hown hll
                        go_wp2_with (first
                          | (at_builtin; refine wpList_append_own _ rfl _ _ 22 rfl w5.heap.size 3 i3 (.int .i64 0) 1 8 und22 ki3 kz0 kz1 kz2 rfl (by decide) _ _ _ rfl (hown.alloc _) ⟨wr.heap.size, 0, none⟩ 1 1 [.int .i64 (i : Int)] rfl rfl ?c1 ?c2 ?c3 ?c4 ?c5 ?_)
                          | go_in)
                        case c1 =>
                          intro j u hj
                          match j, hj with
                          | 0, hj => simp at hj; subst hj; simp [Addr.add]
                        case c2 => intro u hu; simp at hu; subst hu; rfl
                        case c3 => unfold maxLen; omega
                        case c4 => omega
                        case c5 => simp; omega
                        · intro v' w6 hown' hgrow _
                          have hb6 : Below w5.heap.size w5 w6 := (hB.alloc hbz _).grown hgrow (by simp; omega) (fun k hk => (hown.lt k hk).1)
                          go_wp2
                          go_roundw
                          case rel => exact ⟨i + 1, l ++ [i], by go_num, by omega, HL2, by simpa [Hk.out] using hown', hb6⟩
                          case measure => simp [intOf]; omega
                      · have hye : ((y : Int) == (x : Int)) = false := by simp; omega
                        have HL2 : Hid (bkI a c x (i + 1) = l) := by show _ = _; rw [hsu]; simp [hyx]
                        clear hyx hsu HL Hy
                        go_wp2
                        go_roundw
                        case rel => exact ⟨i + 1, l, by go_num, by omega, HL2, hown, hB⟩
                        case measure => simp [intOf]; omega
                    · have hdi : decide ((i : Int) < (z : Int)) = false := by simp; omega
                      have hdin : decide (i < z) = false := by simp; omega
                      have HTS2 : Hid (BLp a (m2 + 1) = BLp a m2 ++ [l]) := by rw [← HL.out, show i = z by omega, HBE.out]; exact HTS.out
                      have hs3 : w4.heap.size + 1 ≤ wr.heap.size := hbx.lt
                      have hrow := own_low hown HSZ.out
                      replace hrow : ORow wr (w4.heap.size + 1) _ l := hrow
                      obtain ⟨vals, h1, h2'⟩ := HOR.out.below hB
                      have HH2 : Hid (∀ (i_1 : Nat) (u : Value) (l : List Nat), vals[i_1]? = some u → (BLp a m2)[i_1]? = some l → ORow wr (w4.heap.size + 1) u l) := h2'
                      have HH1 : Hid (wr.ownsRow (w4.heap.size + 1) 22 1 ov (BLp a m2).length vals) := h1
                      rw [BLp_len] at h1
                      obtain ⟨oa, oc, rfl⟩ := own_form h1
                      obtain ⟨ra, rc, rfl⟩ := own_form hown
                      obtain ⟨y0, y1⟩ := hbx.cells
                      generalize l.length = ll at *
                      clear h2' HTS hown HL hi2
                      go_wp2_with (first
                        | (at_builtin; refine wpList_append_own _ rfl _ _ 25 rfl (w4.heap.size + 1) 22 i36 (.slice none 0 0) 1 24 undR ji3 jz0 jz1 jz2 rfl (by decide) _ _ _ rfl (h1.alloc _) ⟨wr.heap.size, 0, none⟩ 1 1 [.slice ra ll rc] rfl rfl ?c1 ?c2 ?c3 ?c4 ?c5 ?_)
                        | go_in)
                      case c1 =>
                        intro j u hj
                        match j, hj with
                        | 0, hj => simp at hj; subst hj; simp [Addr.add]
                      case c2 => intro u hu; simp at hu; subst hu; rfl
                      case c3 => unfold maxLen; omega
                      case c4 => omega
                      case c5 => simp; omega
                      · intro v' w6 hown' hgrow _
                        have hal := balloc wr (.cells #[.slice ra ll rc] 22)
                        have hB2 : Below (w4.heap.size + 1) wr w6 := ((Below.refl _ wr).alloc hs3 _).grown hgrow (by simp; omega) (fun k hk => (h1.lt k hk).1)
                        have hO2 : OR w6 (w4.heap.size + 1) v' (BLp a m2 ++ [l]) := OR.more (own_keep HH1.out fun b _ hb => hal.block b hb) (fun i_1 u l' e1 e2 => (HH2.out i_1 u l' e1 e2).below hal) (hrow.below hal) (by rw [BLp_len]; exact hown') hgrow
                        rw [← HTS2.out] at hO2
                        have hbx2 := hbx.low hB2
                        obtain ⟨va, vc, rfl⟩ := own_form hown'
                        have hO3 := hO2.keep (w' := w6.setCell ⟨w4.heap.size, 1, none⟩ (.slice va (m2 + 1) vc)) (fun b hb _ => heap_setCell_other w6 ⟨w4.heap.size, 1, none⟩ b _ (by show b ≠ w4.heap.size; omega))
                        have hbx3 := hbx2.put (.slice va (m2 + 1) vc)
                        have hB3 := (hBs.trans (hB2.mono (by omega))).setCell (p := ⟨w4.heap.size, 1, none⟩) (by show w4.heap.size ≤ w4.heap.size; omega) (.slice va (m2 + 1) vc)
                        have hfz : w6.frozen? ⟨w4.heap.size, 1, none⟩ = false := frozen_of_row w6 w4.heap.size 1 _ _ hbx2.o
                        obtain ⟨z0, z1⟩ := hbx2.cells
                        clear hO2 hbx2 hbx hB2 hal hgrow hown' h1 y0 y1 hrow
                        go_wp2
                        go_roundw
                        case rel => exact ⟨x + 1, m2 + 1, _, by go_num, by omega, Hm2, by omega, hbx3, hO3, hB3⟩
                        case measure => simp [intOf]; omega
                · have hdx : decide ((x : Int) < (a : Int)) = false := by simp; omega
                  have hdxn : decide (x < a) = false := by simp; omega
                  have Hm2 : Hid (m2 = (c + 1) * a) := by show _ = _; rw [Hm.out, Nat.succ_mul, show x = a by omega]
                  clear Hm
                  go_wp2
                  go_roundw
                  case rel => exact ⟨c + 1, m2, ov, by go_num, by omega, Hm2, hm30, hbx, hOR, hB⟩
                  case measure => simp [intOf]; omega
            · have hdc : decide ((c : Int) ≤ (a : Int)) = false := by simp; omega
              have hdcn : decide (c ≤ a) = false := by simp; omega
              obtain rfl : m = q1 * a := by rw [Hm.out, show c = q1 by omega]
              obtain ⟨oa, oc, rfl⟩ := hOR.cap
              have C := C16.out wr _ hOR.rw
              obtain ⟨y0, y1⟩ := hbx.cells
              have hBF := HBF.out wr hB
              generalize (BLp a (q1 * a)).length = ol at *
              clear hqa2 hOR hbx hB Hm
              go_wp2_with (go_at_call 16; refine C.mono ?_; rintro e w9 ⟨rfl, b9⟩; clear C)
              go_ret
              exact ⟨rfl, Below.next hBF b9⟩
end Go.Proofs.YtjfjdidibglhaabDoor

namespace Go.Proofs.YtjfjdidibglhaabDoor
open Go.RowKit

set_option maxRecDepth 100000 in
set_option maxHeartbeats 16000000 in
theorem bose_bad (p k o z : Int) (v : Value) (w : World) (hv : ∃ a m c, v = .slice a m c) (h0 : z ≠ 0)
    (h13 : ∀ W, Below w.heap.size w W → Calls Tryd.prog 13 #[] W fun e w' => e = .returned (.bool true) ∧ Below W.heap.size W w')
    (h8s : ∀ W, Below w.heap.size w W → Calls Tryd.prog 8 #[.agg #[.int .i64 p, .int .i64 k, v]] W fun e w' => e = .returned (.int .i64 o) ∧ Below W.heap.size W w')
    (h14 : ∀ W, Below w.heap.size w W → Calls Tryd.prog 14 #[.agg #[.int .i64 p, .int .i64 k, v], .int .i64 1] W fun e w' => e = .returned (.tuple #[.agg #[.int .i64 0, .slice none 0 0], .int .i64 z]) ∧ Below W.heap.size W w') :
    Calls Tryd.prog 4 #[.agg #[.int .i64 p, .int .i64 k, v]] w fun e w' => e = .returned (.bool true) ∧ Below w.heap.size w w' := by
  obtain ⟨fa, fn, fc, rfl⟩ := hv
  have b1 := balloc w (.cells #[.int .i64 p, .int .i64 k, .slice fa fn fc] 24)
  have HX := fl_box p k (.slice fa fn fc) w
  obtain ⟨w0, Hw0⟩ : ∃ w0, Hid (w.alloc (.cells #[.int .i64 p, .int .i64 k, .slice fa fn fc] 24) = w0) := ⟨_, rfl⟩
  rw [Hw0.out] at b1 HX
  have HX2 : Hid (∀ W, Below w0.heap.size w0 W → (W.cell? ⟨w.heap.size, 0, none⟩ = some (.int .i64 p) ∧ W.cell? ⟨w.heap.size, 1, none⟩ = some (.int .i64 k) ∧ W.cell? ⟨w.heap.size, 2, none⟩ = some (.slice fa fn fc))) := HX
  have HB0 : Hid (∀ W, Below w0.heap.size w0 W → Below w.heap.size w W) := fun W b => Below.next b1 b
  have hzb : (z != 0) = true := by simpa using h0
  have H14 : Hid _ := h14
  have H8 : Hid _ := h8s
  have C13 := h13 w0 b1
  clear HX h8s h14 h13 b1 h0
  go_enter Tryd.func4, Tryd.ntmps4
  go_wp2_with (first
    | (go_at_call 13; rw [Hw0.out]; refine C13.mono ?_; rintro e w1 ⟨rfl, b1⟩; clear C13; obtain ⟨x0, x1, x2⟩ := HX2.out w1 b1; have C8 := H8.out w1 (HB0.out w1 b1); clear H8)
    | (go_at_call 8; refine C8.mono ?_; rintro e w2 ⟨rfl, b2⟩; clear C8 x0 x1 x2))
  replace b2 := Below.next b1 b2
  clear b1
  have hbw := HB0.out w2 b2
  have C14 := H14.out w2 hbw
  obtain ⟨x0, x1, x2⟩ := HX2.out w2 b2
  clear H14
  go_loopw [5, 6] (fun lv av wr => av = .int .i64 1 ∧ lv = .slice none 0 0 ∧ wr = w2) (fun _ _ _ => 0)
  case atStart => exact ⟨rfl, rfl, rfl⟩
  case round =>
    obtain ⟨rfl, rfl, hw⟩ := hrel
    replace hw := hw.symm
    subst hw
    by_cases hlt : 1 < o
    · have hd : decide (1 < o) = true := by simpa using hlt
      go_wp2_with (first
        | (go_at_call 14; refine C14.mono ?_; rintro e w3 ⟨rfl, b3⟩; clear C14 x0 x1 x2)
        | go_in)
      go_ret
      exact ⟨rfl, Below.next (Below.next hbw b3) (balloc w3 _)⟩
    · have hd : decide (1 < o) = false := by simpa using hlt
      have hd3 : decide (o < 3) = true := by simp; omega
      have h3 : o < 3 := by omega
      go_wp2
      go_ret
      exact ⟨rfl, hbw⟩
theorem vn_ints (l : List Nat) : (l.map Int.ofNat).map (Value.int .i64) = vn l := by
  unfold vn
  rw [List.map_map]
  rfl
theorem madeL_len (P K a : Nat) (l : List Int) : (madeL P K l a).length = P ^ K * P ^ K := by unfold madeL flN; rw [List.length_map, List.length_range]
theorem Bose_law (p k : Int) (l : List Int) (v : Value) (w : World) (hD : Tab w) (hT : Fd.Tab w) (hl : Fd.Sl w v l) (hll : l.length ≤ maxLen) :
    Calls Tryd.prog 4 #[.agg #[.int .i64 p, .int .i64 k, v]] w fun e w' => e = .returned (.bool true) ∧ Below w.heap.size w w' := by
  have hv : ∃ a m c, v = .slice a m c := by obtain ⟨a, c, e, _⟩ := hl; exact ⟨a, _, c, e⟩
  have h13 : ∀ W, Below w.heap.size w W → Calls Tryd.prog 13 #[] W fun e w' => e = .returned (.bool true) ∧ Below W.heap.size W w' := fun W b => one_any W (hD.next b) (hT.below b)
  have h8 : ∀ W, Below w.heap.size w W → Calls Tryd.prog 8 #[.agg #[.int .i64 p, .int .i64 k, v]] W fun e w' => e = .returned (.int .i64 (Fd.ordZ p k)) ∧ Below W.heap.size W w' := fun W _ => Fd.size_any p k v W
  obtain ⟨z, hz⟩ := fault_some p k l
  by_cases h0 : z = 0
  · subst h0
    obtain ⟨P, K, rfl, rfl, hG⟩ := Fd.good_of hz
    have h2 := two_le hG
    have ho := hG.ord
    by_cases h88 : P ^ K ≤ 8
    · rw [ho] at h8
      refine bose_walk P K (P ^ K) v (fun i => madeL P K l (i + 1)) w hv h2 h88 h13 h8 (fun W a b h1 hq => ?_) (fun W lv b hQ hS => ?_) (fun W y hQ hy => ?_) fun W y hQ hy => ?_
      · refine (Made_ok P K a l v W (hT.below b) (hl.below b) hG h1 hq h88).mono ?_
        rintro e w' ⟨⟨y, rfl, hy⟩, b'⟩
        refine ⟨⟨y, rfl, ?_⟩, b'⟩
        show w'.ownsRow W.heap.size 3 1 y (madeL P K l (a - 1 + 1)).length ((((madeL P K l (a - 1 + 1)).map Int.ofNat)).map (Value.int .i64))
        rw [vn_ints, madeL_len, show a - 1 + 1 = a by omega]
        exact hy
      · have h35 : 3 ≤ P ^ K ∧ P ^ K ≤ 5 := by rcases hQ with e | e | e <;> omega
        have e : ((mkQ (fun i => madeL P K l (i + 1)) (P ^ K - 1)).map fun l => (((P ^ K : Nat) : Int), l.map Int.ofNat)) = qsT P K l (P ^ K - 1) := by
          unfold mkQ qsT
          rw [List.map_map]
          rfl
        rw [e] at hS
        refine (Ar.Squares_ok (P ^ K) _ lv W hS (good_qs hG (by omega) (by omega)) (by omega) h88).mono ?_
        rintro e w' ⟨⟨y, rfl, hy⟩, b'⟩
        rw [qs_T hG h35.1 h35.2, rw_T hQ] at hy
        exact ⟨⟨y, rfl, hy.rw⟩, b'⟩
      · refine (Strength_ok (P ^ K) (P ^ K + 1) _ y W hy (good_T hQ)).mono ?_
        rintro e w' ⟨⟨t, rfl, hs⟩, b⟩
        obtain rfl := hs.one (str_T hQ)
        exact ⟨rfl, b⟩
      · refine (Level_any _ 2 _ y W (good_D hQ) hy).mono ?_
        rintro e w' ⟨h, b⟩
        refine ⟨h.one (.inr ⟨2, rfl, by decide, ?_, .inl ⟨P ^ K, 1, lev_T hQ, rfl⟩⟩), b⟩
        have := Nat.mul_le_mul h2 h2
        omega
    · exact bose_bad P K _ 3 v w hv (by decide) h13 h8 fun W b => Made_full P K 1 l v W (hT.below b) (hl.below b) hG (by decide) (by omega) (by omega)
  · exact bose_bad p k _ z v w hv h0 h13 h8 fun W b => Made_bad p k 1 z l v W (hT.below b) (hl.below b) hll h0 (.inl ⟨h0, hz⟩)
end Go.Proofs.YtjfjdidibglhaabDoor
