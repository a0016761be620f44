/- The walk of blocks. -/
import Derived.Test.YtamdpcajfgbagaaH7
import Derived.Test.YtamdpcajfgbagaaDOw
namespace Go.Proofs.Ytamdpcajfgbagaa
open Go.RowKit

theorem inf33 : (Try.prog.info? 33).map (·.size) = some 2 := by kernel_rfl
theorem own_form {w : World} {base n : Nat} {e : TypeId} {v : Value} {xs : List Value} (h : w.ownsRow base e 1 v n xs) : ∃ a c, v = .slice a n c := by
  obtain ⟨_, ⟨rfl, rfl⟩ | ⟨g, cap, cur, rfl, _⟩⟩ := h
  · exact ⟨_, _, rfl⟩
  · exact ⟨_, _, rfl⟩
theorem post_d {fn : Func} {R : Ending → World → Prop} {a : Act} {w : World} {g : Nat} {x y : Value} (slot : Tmp) (hres : fn.results = #[.cell slot 33]) (hp : a.tmps.getD slot undef = .pointer (some ⟨g, 0, none⟩)) (hr : w.heap[g]? = some (.cells #[x, y] 33 (0, 0))) (hd : a.defers = []) (hR : R (.returned (.agg #[x, y])) w) : bodyPost Try.prog fn R .ret a w :=
  bodyPost_ret (results_cell_row hres a.tmps w g 33 #[x, y] (0, 0) _ hp hr Try.underlying33 rfl inf33) hd hR
theorem post_d2 {fn : Func} {R : Ending → World → Prop} {a : Act} {w : World} {g : Nat} {x y z : Value} (slot u : Tmp) (hres : fn.results = #[.cell slot 33, .tmp u]) (hp : a.tmps.getD slot undef = .pointer (some ⟨g, 0, none⟩)) (hr : w.heap[g]? = some (.cells #[x, y] 33 (0, 0))) (hu : a.tmps.getD u undef = z) (hd : a.defers = []) (hR : R (.returned (.tuple #[.agg #[x, y], z])) w) : bodyPost Try.prog fn R .ret a w := by
  refine bodyPost_ret (v := .tuple #[.agg #[x, y], z]) ?_ hd hR
  rw [results_cell_tmp hres, hp, hu]
  have h1 : (asAddr (.pointer (some ⟨g, 0, none⟩))).run Try.prog w = .ok ⟨g, 0, none⟩ w := by simp [asAddr]
  rw [h1]
  show ((loadVar 33 ⟨g, 0, none⟩).run Try.prog w).andThen _ = _
  rw [run_loadVar_row w g 33 33 #[x, y] (0, 0) _ hr Try.underlying33 rfl inf33]
  rfl
/-- The two boxes: the answer, what is built. -/
structure BoxT (s ra oa : Nat) (p : Nat) (ov : Value) (W : World) : Prop where
  r : W.heap[ra]? = some (.cells #[.int .i64 0, .slice none 0 0] 33 (0, 0))
  o : W.heap[oa]? = some (.cells #[.int .i64 (p : Int), ov] 33 (0, 0))
  lr : ra < s
  lo : oa < s
  ne : ra ≠ oa
theorem BoxT.lt {s r o p : Nat} {ov : Value} {W : World} (h : BoxT s r o p ov W) (hs : s ≤ W.heap.size) : r < W.heap.size ∧ o < W.heap.size := ⟨Nat.lt_of_lt_of_le h.lr hs, Nat.lt_of_lt_of_le h.lo hs⟩
theorem BoxT.low {s r o p : Nat} {ov : Value} {W W' : World} (h : BoxT s r o p ov W) (b : Below s W W') : BoxT s r o p ov W' :=
  ⟨(b.block r h.lr).trans h.r, (b.block o h.lo).trans h.o, h.lr, h.lo, h.ne⟩
theorem BoxT.cells {s r o p : Nat} {ov : Value} {W : World} (h : BoxT s r o p ov W) : W.cell? ⟨o, 0, none⟩ = some (.int .i64 (p : Int)) ∧ W.cell? ⟨o, 1, none⟩ = some ov :=
  ⟨by rw [cell_of_row _ _ _ _ _ _ h.o]; rfl, by rw [cell_of_row _ _ _ _ _ _ h.o]; rfl⟩
theorem BoxT.put {s r o p : Nat} {ov : Value} {W : World} (h : BoxT s r o p ov W) (nv : Value) : BoxT s r o p nv (W.setCell ⟨o, 1, none⟩ nv) :=
  ⟨(heap_setCell_other W ⟨o, 1, none⟩ r nv h.ne).trans h.r, heap_setCell_same W o 1 _ _ nv h.o, h.lr, h.lo, h.ne⟩
/-- The points where 1 stands, of the first columns. -/
def hbK (E : Nat → Nat → Int) (i k : Nat) : List Nat := (List.range k).filter fun j => E (i + 1) (j + 1) == 1
theorem hbK_succ (E : Nat → Nat → Int) (i k : Nat) : hbK E i (k + 1) = hbK E i k ++ if (E (i + 1) (k + 1) == 1) = true then [k] else [] := filter_succ _ k
theorem hbK_full (v : Nat) (E : Nat → Nat → Int) (i : Nat) : hbK E i v = hbR v E i := rfl
theorem hbK_len (E : Nat → Nat → Int) (i k : Nat) : (hbK E i k).length ≤ k := by
  have := List.length_filter_le (fun j => E (i + 1) (j + 1) == 1) (List.range k)
  rw [List.length_range] at this
  exact this
def hbT (v : Nat) (E : Nat → Nat → Int) (i : Nat) : List (List Nat) := (List.range i).map (hbR v E)
theorem hbT_succ (v : Nat) (E : Nat → Nat → Int) (i : Nat) : hbT v E (i + 1) = hbT v E i ++ [hbR v E i] := by unfold hbT; rw [List.range_succ, List.map_append]; rfl
@[simp] theorem hbT_len (v : Nat) (E : Nat → Nat → Int) (i : Nat) : (hbT v E i).length = i := by simp [hbT]
set_option maxRecDepth 100000 in
set_option maxHeartbeats 8000000 in
theorem blocks_any (v : Nat) (E : Nat → Nat → Int) (y : Value) (w : World) (hv : v ≤ 23) (hT : Teller y (v + 1) (v + 1) E w) :
    Calls Try.prog 22 #[.int .i64 ((v + 1 : Nat) : Int), y] w fun e w' => (∃ x, e = .returned (.agg #[.int .i64 (v : Int), x]) ∧ OR w' (w.heap.size + 2) x (hbL v E)) ∧ Below w.heap.size w w' := by
  obtain ⟨i3, hi3, hz0, hz1, hz2⟩ := info3
  obtain ⟨i36, ji3, jz0, jz1, jz2⟩ := info36
  obtain ⟨g, lb, rfl, eg, hT⟩ := hT
  have HT : Hid (TellAt g lb (v + 1) (v + 1) E w) := hT
  have HTA : Hid (hbT v E v = hbL v E) := rfl
  obtain ⟨n, Hn⟩ : ∃ n, Hid (v + 1 = n) := ⟨_, rfl⟩
  have hn1 : (n : Int) - 1 = (v : Int) := by rw [← Hn.out]; omega
  have hn24 : n ≤ 99 := by rw [← Hn.out]; omega
  rw [Hn.out] at HT ⊢
  obtain ⟨M, HM⟩ : ∃ M, Hid (hbL v E = M) := ⟨_, rfl⟩
  rw [HM.out] at HTA ⊢
  obtain ⟨s, Hs⟩ : ∃ s, Hid (w.heap.size = s) := ⟨_, rfl⟩
  have hs : w.heap.size = s := Hs.out
  have hbx : BoxT (s + 2) s (s + 1) v (.slice none 0 0) ((w.alloc (.cells #[.int .i64 0, .slice none 0 0] 33)).alloc (.cells #[.int .i64 (v : Int), .slice none 0 0] 33)) := by
    refine ⟨by rw [← hs]; exact first_box _ _ _ _, by rw [← hs]; exact second_box _ _ _ _, by omega, by omega, by omega⟩
  have hb0 : Below s w ((w.alloc (.cells #[.int .i64 0, .slice none 0 0] 33)).alloc (.cells #[.int .i64 (v : Int), .slice none 0 0] 33)) := by rw [← hs]; exact Below.next (balloc _ _) (balloc _ _)
  have hsz0 : s + 2 ≤ ((w.alloc (.cells #[.int .i64 0, .slice none 0 0] 33)).alloc (.cells #[.int .i64 (v : Int), .slice none 0 0] 33)).heap.size := by simp; omega
  clear hT
  go_enter Try.func22, Try.ntmps22
  go_wp2
  go_loopw [6] (fun xv wr => ∃ (x r : Nat) (ov : Value), xv = .int .i64 (r : Int) ∧ Hid (r = x + 1) ∧ r ≤ n ∧ BoxT (s + 2) s (s + 1) v ov wr ∧ OR wr (s + 2) ov (hbT v E x) ∧ s + 2 ≤ wr.heap.size ∧ Below s w wr) (fun xv _ => (n - intOf xv).toNat)
  case atStart => exact ⟨0, 1, _, rfl, (rfl : 1 = 0 + 1), by rw [← Hn.out]; omega, hbx, OR.nil _ _, hsz0, hb0⟩
  case round =>
    clear hbx hb0 hsz0
    obtain ⟨x, r, ov, rfl, Hr, hr, hbx, hOR, hsz, hB⟩ := hrel
    obtain ⟨y2, y3⟩ := hbx.cells
    by_cases hlt : r < n
    · have hdi : decide ((r : Int) < (n : Int)) = true := by simp; omega
      obtain ⟨w1, Hw1⟩ : ∃ w1 : World, Hid (w1 = wr) := ⟨_, rfl⟩
      have HBX : Hid (BoxT (s + 2) s (s + 1) v ov w1) := by rw [Hw1.out]; exact hbx
      have HOR : Hid (OR w1 (s + 2) ov (hbT v E x)) := by rw [Hw1.out]; exact hOR
      have HB1 : Hid (Below s w w1) := by rw [Hw1.out]; exact hB
      have HSZ : Hid (s + 2 ≤ w1.heap.size) := by rw [Hw1.out]; exact hsz
      clear hbx hOR hB hsz
      go_wp2
      go_loopw [7, 8] (fun bv iv wr' => ∃ (i c : Nat) (l : List Nat), iv = .int .i64 (c : Int) ∧ Hid (c = i + 1) ∧ c ≤ n ∧ Hid (hbK E x i = l) ∧ wr'.ownsRow w1.heap.size 3 1 bv l.length ((l.map Int.ofNat).map (Value.int .i64)) ∧ Below w1.heap.size w1 wr') (fun _ iv _ => (n - intOf iv).toNat)
      case atStart => exact ⟨0, 1, [], rfl, (rfl : 1 = 0 + 1), by rw [← Hn.out]; omega, (rfl : hbK E x 0 = []), World.ownsRow_nil _ _ _ _, by rw [Hw1.out]; exact Below.refl _ _⟩
      case round =>
        clear y2 y3
        obtain ⟨i, c, l, rfl, Hc, hi, HL, hown, hB⟩ := hrel
        have hbz := hB.size
        have hBs : Below s w wr := (HB1.out).trans (hB.mono (by have := HSZ.out; omega))
        have hbx := HBX.out.low (hB.mono HSZ.out)
        obtain ⟨y2, y3⟩ := hbx.cells
        have hll : l.length ≤ i := by rw [← HL.out]; exact hbK_len E x i
        have hin : i < n := by have := Hc.out; omega
        by_cases hli : c < n
        · have hdx : decide ((c : Int) < (n : Int)) = true := by simp; omega
          have C := HT.out _ (hs.symm ▸ hBs) r c hlt hli
          have hci : (c : Int) - 1 = (i : Int) := by rw [Hc.out]; omega
          have hsu := hbK_succ E x i
          rw [HL.out, ← Hr.out, ← Hc.out] at hsu
          have Hc2 : Hid (c + 1 = i + 1 + 1) := by show _ = _; rw [Hc.out]
          obtain ⟨z, Hz⟩ : ∃ z, Hid (E r c = z) := ⟨_, rfl⟩
          rw [Hz.out] at C hsu
          cases hc : z == 1 with
          | false =>
            rw [hc] at hsu
            have HL2 : Hid (hbK E x (i + 1) = l) := by show _ = _; rw [← Hc.out, hsu]; simp
            clear hsu HL
            go_wp2_with (go_at_fn g; refine C.mono ?_; rintro e w4 ⟨rfl, b4⟩; clear C)
            go_roundw
            case rel => exact ⟨i + 1, c + 1, l, by go_num, Hc2, by omega, HL2, orow_below hown b4, Below.next hB b4⟩
            case measure => simp [intOf]; omega
          | true =>
            rw [hc] at hsu
            have HL2 : Hid (hbK E x (i + 1) = l ++ [i]) := by show _ = _; rw [← Hc.out, hsu]; simp
            clear hsu HL
            obtain ⟨k, Hk⟩ : ∃ k, Hid (l.length = k) := ⟨_, rfl⟩
            rw [Hk.out] at hown hll
            go_wp2_with (first
              | (go_at_fn g; refine C.mono ?_; rintro e w4 ⟨rfl, b4⟩; clear C; have hown4 := orow_below hown b4; have hB4 := Below.next hB b4; have hbz4 := hB4.size)
              | (at_builtin; refine wpList_append_own _ rfl _ _ 22 rfl w1.heap.size 3 i3 (.int .i64 0) 1 8 und22 hi3 hz0 hz1 hz2 rfl (by decide) _ _ _ rfl (hown4.alloc _) ⟨w4.heap.size, 0, none⟩ 1 1 [.int .i64 (i : Int)] rfl rfl ?c1 ?c2 ?c3 ?c4 ?c5 ?_)
              | go_in)
            case c1 =>
              intro j u hj
              match j, hj with
              | 0, hj => simp at hj; subst hj; simp [Addr.add]
            case c2 => intro u hu; simp at hu; subst hu; rfl
            case c3 => unfold maxLen; omega
            case c4 => omega
            case c5 => simp; omega
            · intro v' w2 hown' hgrow _
              have hb2 : Below w1.heap.size w1 w2 := (hB4.alloc hbz4 _).grown hgrow (by simp; omega) (fun k hk => (hown4.lt k hk).1)
              go_wp2
              go_roundw
              case rel => exact ⟨i + 1, c + 1, l ++ [i], by go_num, Hc2, by omega, HL2, by simpa [Hk.out] using hown', hb2⟩
              case measure => simp [intOf]; omega
        · have hdx : decide ((c : Int) < (n : Int)) = false := by simp; omega
          have hiv : i = v := by have := Hc.out; have := Hn.out; omega
          have HTS2 : Hid (hbT v E (x + 1) = hbT v E x ++ [l]) := by show _ = _; rw [hbT_succ, ← HL.out, hiv, hbK_full]
          have hs3 : s + 2 ≤ wr.heap.size := Nat.le_trans HSZ.out hbz
          have hrow := orow_base hown HSZ.out
          replace hrow : ORow wr (s + 2) _ l := hrow
          obtain ⟨vals, h1, h2⟩ := HOR.out.below hB
          have hln := hbT_len v E x
          have HH2 : Hid (∀ (i_1 : Nat) (u : Value) (l : List Nat), vals[i_1]? = some u → (hbT v E x)[i_1]? = some l → ORow wr (s + 2) u l) := h2
          have HH1 : Hid (wr.ownsRow (s + 2) 22 1 ov (hbT v E x).length vals) := h1
          rw [hln] at h1
          obtain ⟨oa, oc, rfl⟩ := own_form h1
          obtain ⟨ra, rc, rfl⟩ := own_form hown
          have Hr2 : Hid (r + 1 = x + 1 + 1) := by show _ = _; rw [Hr.out]
          have hx99 : x ≤ 99 := by have := Hr.out; omega
          generalize l.length = ll at *
          clear h2 hln hown hiv
          go_wp2_with (first
            | (at_builtin; refine wpList_append_own _ rfl _ _ 31 rfl (s + 2) 22 i36 (.slice none 0 0) 1 24 undR ji3 jz0 jz1 jz2 rfl (by decide) _ _ _ rfl (h1.alloc _) ⟨wr.heap.size, 0, none⟩ 1 1 [.slice ra ll rc] rfl rfl ?c1 ?c2 ?c3 ?c4 ?c5 ?_)
            | go_in)
          case c1 =>
            intro j u hj
            match j, hj with
            | 0, hj => simp at hj; subst hj; simp [Addr.add]
          case c2 => intro u hu; simp at hu; subst hu; rfl
          case c3 => unfold maxLen; omega
          case c4 => omega
          case c5 => simp; omega
          · intro v' w2 hown' hgrow _
            have hal := balloc wr (.cells #[.slice ra ll rc] 22)
            have hB2 : Below (s + 2) wr w2 := ((Below.refl _ wr).alloc hs3 _).grown hgrow (by simp; omega) (fun k hk => (h1.lt k hk).1)
            have hO2 : OR w2 (s + 2) v' (hbT v E x ++ [l]) := OR.more (own_keep HH1.out fun b _ hb => hal.block b hb) (fun i_1 u l' e1 e2 => (HH2.out i_1 u l' e1 e2).below hal) (hrow.below hal) (by rw [hbT_len]; exact hown') hgrow
            rw [← HTS2.out] at hO2
            have hbx2 := hbx.low hB2
            obtain ⟨va, vc, rfl⟩ := own_form hown'
            have hO3 := hO2.keep (w' := w2.setCell ⟨s + 1, 1, none⟩ (.slice va (x + 1) vc)) (fun b hb _ => heap_setCell_other w2 ⟨s + 1, 1, none⟩ b _ (by show b ≠ s + 1; omega))
            have hbx3 := hbx2.put (.slice va (x + 1) vc)
            have hB3 := (hBs.trans (hB2.mono (by omega))).setCell (p := ⟨s + 1, 1, none⟩) (by show s ≤ s + 1; omega) (.slice va (x + 1) vc)
            have hfz : w2.frozen? ⟨s + 1, 1, none⟩ = false := frozen_of_row w2 (s + 1) 1 _ _ hbx2.o
            have hsz2 : s + 2 ≤ (w2.setCell ⟨s + 1, 1, none⟩ (.slice va (x + 1) vc)).heap.size := by have := hB2.size; simp; omega
            obtain ⟨z2, z3⟩ := hbx2.cells
            clear hO2 hbx2 hbx hB2 hal hgrow hown' h1 y2 y3 hrow
            go_wp2
            go_roundw
            case rel => exact ⟨x + 1, r + 1, _, by go_num, Hr2, by omega, hbx3, hO3, hsz2, hB3⟩
            case measure => simp [intOf]; omega
    · have hdi : decide ((r : Int) < (n : Int)) = false := by simp; omega
      obtain rfl : x = v := by have := Hr.out; have := Hn.out; omega
      obtain ⟨oa, oc, rfl⟩ := hOR.cap
      rw [HTA.out] at hOR hbx y3
      generalize M.length = ml at *
      have a2 : wr.cell? ⟨s, 0, none⟩ = some (.int .i64 0) := by rw [cell_of_row _ _ _ _ _ _ hbx.r]; rfl
      have a3 : wr.cell? ⟨s, 1, none⟩ = some (.slice none 0 0) := by rw [cell_of_row _ _ _ _ _ _ hbx.r]; rfl
      have f0 : wr.frozen? ⟨s, 0, none⟩ = false := frozen_of_row wr _ 0 _ _ hbx.r
      have f1 : wr.frozen? ⟨s, 1, none⟩ = false := frozen_of_row wr _ 1 _ _ hbx.r
      have hn1 := heap_setCell_same wr s 0 _ _ (.int .i64 (x : Int)) hbx.r
      have hn2 := heap_setCell_same _ s 1 _ _ (.slice oa ml oc) hn1
      have hO2 := (hOR.keep (w' := wr.setCell ⟨s, 0, none⟩ (.int .i64 (x : Int))) (fun b hb _ => heap_setCell_other wr ⟨s, 0, none⟩ b _ (by show b ≠ s; omega))).keep (w' := (wr.setCell ⟨s, 0, none⟩ (.int .i64 (x : Int))).setCell ⟨s, 1, none⟩ (.slice oa ml oc)) (fun b hb _ => heap_setCell_other _ ⟨s, 1, none⟩ b _ (by show b ≠ s; omega))
      have hB2 := (hB.setCell (p := ⟨s, 0, none⟩) (by show s ≤ s; omega) (.int .i64 (x : Int))).setCell (p := ⟨s, 1, none⟩) (by show s ≤ s; omega) (.slice oa ml oc)
      have hsz1 : s + 1 < wr.heap.size := by omega
      clear hbx hOR
      go_wp2
      exact post_d 4 Try.results22 rfl hn2 rfl ⟨⟨_, rfl, by rw [hs]; exact hO2⟩, by rw [hs]; exact hB2⟩
end Go.Proofs.Ytamdpcajfgbagaa
