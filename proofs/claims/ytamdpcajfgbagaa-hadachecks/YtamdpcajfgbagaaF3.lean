/- The walk of the document's SignsBlocks. -/
import Derived.Test.YtamdpcajfgbagaaF2
import Derived.Test.YtamdpcajfgbagaaH9
namespace Go.Proofs.Ytamdpcajfgbagaa
open Go.RowKit

set_option maxHeartbeats 4000000 in
theorem SBlocks_small (n : Nat) (v : Value) (w : World) (h4 : n < 4) :
    Calls Try.prog 15 #[.agg #[.int .i64 (n : Int), v]] w fun e w' => e = .returned (.tuple #[.agg #[.int .i64 0, .slice none 0 0], .int .i64 2]) ∧ Below w.heap.size w w' := by
  have b0 := Below.next (balloc w (.cells #[.int .i64 (n : Int), v] 24)) (balloc _ (.cells #[.int .i64 0, .slice none 0 0] 33))
  have hR : ((w.alloc (.cells #[.int .i64 (n : Int), v] 24)).alloc (.cells #[.int .i64 0, .slice none 0 0] 33)).heap[w.heap.size + 1]? = some (.cells #[.int .i64 0, .slice none 0 0] 33 (0, 0)) := second_box _ _ _ _
  have HR : Hid (((w.alloc (.cells #[.int .i64 (n : Int), v] 24)).alloc (.cells #[.int .i64 0, .slice none 0 0] 33)).heap[w.heap.size + 1]? = some (.cells #[.int .i64 0, .slice none 0 0] 33 (0, 0))) := hR
  have d4 : decide ((n : Int) < 4) = true := by simp; omega
  clear hR
  go_enter Try.func15, Try.ntmps15
  go_wp2
  exact post_d2 2 3 Try.results15 rfl HR.out rfl rfl ⟨rfl, b0⟩
set_option maxRecDepth 100000 in
set_option maxHeartbeats 8000000 in
theorem SBlocks_main (v : Nat) (L : List Int) (y : Value) (w0 : World) (hv : Sl w0 y L) (G : GoodH (v + 1) L) (h4 : 4 ≤ v + 1) :
    Calls Try.prog 15 #[.agg #[.int .i64 ((v + 1 : Nat) : Int), y]] w0 fun e w' => (∃ x, e = .returned (.tuple #[.agg #[.int .i64 (v : Int), x], .int .i64 0]) ∧ Rw w' x (toZ (hbL v (evn (mx (v + 1) L))))) ∧ Below w0.heap.size w0 w' := by
  obtain ⟨i3, hi3, hz0, hz1, hz2⟩ := info3
  obtain ⟨i36, ji3, jz0, jz1, jz2⟩ := info36
  have b0 := Below.next (balloc w0 (.cells #[.int .i64 ((v + 1 : Nat) : Int), y] 24)) (balloc _ (.cells #[.int .i64 0, .slice none 0 0] 33))
  have C := EvenOf_any (v + 1) L y _ (hv.below b0) G
  have HSP : Hid (∀ i j, i < v + 1 → j < v + 1 → (evL (v + 1) L).getD (i * (v + 1) + j) 0 = evn (mx (v + 1) L) i j) := fun i j hi hj => flI_mx hi hj
  have HLN : Hid ((evL (v + 1) L).length = (v + 1) * (v + 1)) := (evL_good G).len
  have hz99 : (v + 1) * (v + 1) ≤ 999 := Nat.le_trans (Nat.mul_le_mul G.le G.le) (by decide)
  have hle : v + 1 ≤ 8 * 3 := G.le
  obtain ⟨ya, yn, yc, rfl⟩ : ∃ a n c, y = .slice a n c := by obtain ⟨a, c, rfl, _⟩ := hv; exact ⟨_, _, _, rfl⟩
  generalize evn (mx (v + 1) L) = E at *
  generalize evL (v + 1) L = Q at *
  have HTA : Hid (hbT v E v = hbL v E) := rfl
  obtain ⟨n, Hn⟩ : ∃ n, Hid (v + 1 = n) := ⟨_, rfl⟩
  have hn1 : (n : Int) - 1 = (v : Int) := by rw [← Hn.out]; omega
  have hn24 : n ≤ 99 := by rw [← Hn.out]; omega
  have d4 : decide ((n : Int) < 4) = false := by simp; rw [← Hn.out]; omega
  rw [Hn.out] at C HSP HLN hz99 b0 ⊢
  have HB0 : Hid (Below w0.heap.size w0 ((w0.alloc (.cells #[.int .i64 (n : Int), .slice ya yn yc] 24)).alloc (.cells #[.int .i64 0, .slice none 0 0] 33))) := b0
  have HK : Hid (((w0.alloc (.cells #[.int .i64 (n : Int), .slice ya yn yc] 24)).alloc (.cells #[.int .i64 0, .slice none 0 0] 33)).heap[w0.heap.size + 1]? = some (.cells #[.int .i64 0, .slice none 0 0] 33 (0, 0))) := second_box _ _ _ _
  have HLT : Hid (∀ i j, i < n → j < n → i * n + j < n * n) := fun i j hi hj => cell_ltH hi hj
  obtain ⟨zz, Hzz⟩ : ∃ z, Hid (n * n = z) := ⟨_, rfl⟩
  rw [Hzz.out] at HLN hz99 HLT
  have hzp : 0 < zz := by have := HLT.out 0 0 (by rw [← Hn.out]; omega) (by rw [← Hn.out]; omega); omega
  clear hv G b0
  obtain ⟨M, HM⟩ : ∃ M, Hid (hbL v E = M) := ⟨_, rfl⟩
  rw [HM.out] at HTA ⊢
  go_enter Try.func15, Try.ntmps15
  go_wp2_with (go_at_call 14; refine C.mono ?_; rintro e w ⟨⟨t, rfl, hS⟩, bw⟩; clear C; obtain ⟨ta, to_, tc, rfl, hta, htc⟩ := hS.form HLN.out hzp; obtain ⟨s, Hs⟩ : ∃ s, Hid (w.heap.size = s) := ⟨_, rfl⟩; have hs : w.heap.size = s := Hs.out)
  have hBw := Below.next HB0.out bw
  have hKw := (bw.block (w0.heap.size + 1) (by rw [two_boxes]; omega)).trans HK.out
  have hsw := bw.size
  rw [two_boxes] at hsw
  have HB1 : Hid (Below w0.heap.size w0 w) := hBw
  have HTC : Hid (∀ j, j < zz → w.cell? ⟨ta, to_ + j, none⟩ = some (.int .i64 (Q.getD j 0))) := htc
  have q1 := first_box w (.cells #[.int .i64 (v : Int), .slice none 0 0] 33) #[.int .i64 (n : Int), .slice (some ⟨ta, to_, none⟩) zz tc] 24
  have hbx : BoxT (s + 2) (w0.heap.size + 1) (s + 1) v (.slice none 0 0) ((w.alloc (.cells #[.int .i64 (n : Int), .slice (some ⟨ta, to_, none⟩) zz tc] 24)).alloc (.cells #[.int .i64 (v : Int), .slice none 0 0] 33)) := by
    refine ⟨((Below.next (balloc _ _) (balloc _ _)).block _ (by omega)).trans hKw, by rw [← hs]; exact second_box _ _ _ _, by omega, by omega, by omega⟩
  have hb0 : Below s w ((w.alloc (.cells #[.int .i64 (n : Int), .slice (some ⟨ta, to_, none⟩) zz tc] 24)).alloc (.cells #[.int .i64 (v : Int), .slice none 0 0] 33)) := by rw [← hs]; exact Below.next (balloc _ _) (balloc _ _)
  have hsz0 : s + 2 ≤ ((w.alloc (.cells #[.int .i64 (n : Int), .slice (some ⟨ta, to_, none⟩) zz tc] 24)).alloc (.cells #[.int .i64 (v : Int), .slice none 0 0] 33)).heap.size := by simp; omega
  rw [hs] at q1
  have HQ1 : Hid (((w.alloc (.cells #[.int .i64 (n : Int), .slice (some ⟨ta, to_, none⟩) zz tc] 24)).alloc (.cells #[.int .i64 (v : Int), .slice none 0 0] 33)).heap[s]? = some (.cells #[.int .i64 (n : Int), .slice (some ⟨ta, to_, none⟩) zz tc] 24 (0, 0))) := q1
  have hta2 : ta < s := by omega
  clear q1 hS htc bw hBw hKw HK HB0
  go_wp2
  go_loopw [7] (fun xv wr => ∃ (x r : Nat) (ov : Value), xv = .int .i64 (r : Int) ∧ Hid (r = x + 1) ∧ r ≤ n ∧ BoxT (s + 2) (w0.heap.size + 1) (s + 1) v ov wr ∧ wr.heap[s]? = some (.cells #[.int .i64 (n : Int), .slice (some ⟨ta, to_, none⟩) zz tc] 24 (0, 0)) ∧ OR wr (s + 2) ov (hbT v E x) ∧ s + 2 ≤ wr.heap.size ∧ Below s w wr) (fun xv _ => (n - intOf xv).toNat)
  case atStart => exact ⟨0, 1, _, rfl, (rfl : 1 = 0 + 1), by rw [← Hn.out]; omega, hbx, HQ1.out, OR.nil _ _, hsz0, hb0⟩
  case round =>
    clear hbx hb0 hsz0
    obtain ⟨x, r, ov, rfl, Hr, hr, hbx, hT0, hOR, hsz, hB⟩ := hrel
    obtain ⟨y2, y3⟩ := hbx.cells
    by_cases hlt : r < n
    · have hdi : decide ((r : Int) < (n : Int)) = true := by simp; omega
      obtain ⟨w1, Hw1⟩ : ∃ w1 : World, Hid (w1 = wr) := ⟨_, rfl⟩
      have HBX : Hid (BoxT (s + 2) (w0.heap.size + 1) (s + 1) v ov w1) := by rw [Hw1.out]; exact hbx
      have HOR : Hid (OR w1 (s + 2) ov (hbT v E x)) := by rw [Hw1.out]; exact hOR
      have HB1 : Hid (Below s w w1) := by rw [Hw1.out]; exact hB
      have HSZ : Hid (s + 2 ≤ w1.heap.size) := by rw [Hw1.out]; exact hsz
      have HT0 : Hid (w1.heap[s]? = some (.cells #[.int .i64 (n : Int), .slice (some ⟨ta, to_, none⟩) zz tc] 24 (0, 0))) := by rw [Hw1.out]; exact hT0
      clear hbx hOR hB hsz hT0
      go_wp2
      go_loopw [8, 9] (fun bv iv wr' => ∃ (i c : Nat) (l : List Nat), iv = .int .i64 (c : Int) ∧ Hid (c = i + 1) ∧ c ≤ n ∧ Hid (hbK E x i = l) ∧ wr'.ownsRow w1.heap.size 3 1 bv l.length ((l.map Int.ofNat).map (Value.int .i64)) ∧ Below w1.heap.size w1 wr') (fun _ iv _ => (n - intOf iv).toNat)
      case atStart => exact ⟨0, 1, [], rfl, (rfl : 1 = 0 + 1), by rw [← Hn.out]; omega, (rfl : hbK E x 0 = []), World.ownsRow_nil _ _ _ _, by rw [Hw1.out]; exact Below.refl _ _⟩
      case round =>
        clear y2 y3
        obtain ⟨i, c, l, rfl, Hc, hi, HL, hown, hB⟩ := hrel
        have hbz := hB.size
        have hBs : Below s w wr := (HB1.out).trans (hB.mono (by have := HSZ.out; omega))
        have hbx := HBX.out.low (hB.mono HSZ.out)
        obtain ⟨y2, y3⟩ := hbx.cells
        have hT0 := ((hB.block s (by have := HSZ.out; omega))).trans HT0.out
        have t1 : wr.cell? ⟨s, 1, none⟩ = some (.slice (some ⟨ta, to_, none⟩) zz tc) := by rw [cell_of_row _ _ _ _ _ _ hT0]; rfl
        have hll : l.length ≤ i := by rw [← HL.out]; exact hbK_len E x i
        have hin : i < n := by have := Hc.out; omega
        by_cases hli : c < n
        · have hdx : decide ((c : Int) < (n : Int)) = true := by simp; omega
          have k1 := HLT.out r c hlt hli
          have ct := (hBs.cell (p := ⟨ta, to_ + (r * n + c), none⟩) hta2).trans (HTC.out _ k1)
          rw [HSP.out r c hlt hli] at ct
          obtain ⟨m, Hm⟩ : ∃ m, Hid (r * n = m) := ⟨_, rfl⟩
          have hm : (r : Int) * (n : Int) = (m : Int) := by rw [← Hm.out]; simp
          rw [Hm.out] at k1 ct
          obtain ⟨kk, Hkk⟩ : ∃ k, Hid (m + c = k) := ⟨_, rfl⟩
          have hkk : (m : Int) + (c : Int) = (kk : Int) := by rw [← Hkk.out]; simp
          rw [Hkk.out] at k1 ct
          have hkz : (kk : Int) < (zz : Int) := by omega
          have hm' := wrapN9 (q := m) (by have := Hkk.out; omega)
          have hk' := wrapN9 (q := kk) (by omega)
          have hci : (c : Int) - 1 = (i : Int) := by rw [Hc.out]; omega
          have hsu := hbK_succ E x i
          rw [HL.out, ← Hr.out, ← Hc.out] at hsu
          have Hc2 : Hid (c + 1 = i + 1 + 1) := by show _ = _; rw [Hc.out]
          obtain ⟨z, Hz⟩ : ∃ z, Hid (E r c = z) := ⟨_, rfl⟩
          rw [Hz.out] at ct hsu
          cases hc : z == 1 with
          | false =>
            rw [hc] at hsu
            have HL2 : Hid (hbK E x (i + 1) = l) := by show _ = _; rw [← Hc.out, hsu]; simp
            clear hsu HL
            go_wp2
            go_roundw
            case rel => exact ⟨i + 1, c + 1, l, by go_num, Hc2, by omega, HL2, hown, hB⟩
            case measure => simp [intOf]; omega
          | true =>
            rw [hc] at hsu
            have HL2 : Hid (hbK E x (i + 1) = l ++ [i]) := by show _ = _; rw [← Hc.out, hsu]; simp
            clear hsu HL
            obtain ⟨k, Hk⟩ : ∃ k, Hid (l.length = k) := ⟨_, rfl⟩
            rw [Hk.out] at hown hll
            go_wp2_with (first
              | (at_builtin; refine wpList_append_own _ rfl _ _ 22 rfl w1.heap.size 3 i3 (.int .i64 0) 1 8 und22 hi3 hz0 hz1 hz2 rfl (by decide) _ _ _ rfl (hown.alloc _) ⟨wr.heap.size, 0, none⟩ 1 1 [.int .i64 (i : Int)] rfl rfl ?c1 ?c2 ?c3 ?c4 ?c5 ?_)
              | go_in)
            case c1 =>
              intro j u hj
              match j, hj with
              | 0, hj => simp at hj; subst hj; simp [Addr.add]
            case c2 => intro u hu; simp at hu; subst hu; rfl
            case c3 => unfold maxLen; omega
            case c4 => omega
            case c5 => simp; omega
            · intro v' w2 hown' hgrow _
              have hb2 : Below w1.heap.size w1 w2 := (hB.alloc hbz _).grown hgrow (by simp; omega) (fun k hk => (hown.lt k hk).1)
              go_wp2
              go_roundw
              case rel => exact ⟨i + 1, c + 1, l ++ [i], by go_num, Hc2, by omega, HL2, by simpa [Hk.out] using hown', hb2⟩
              case measure => simp [intOf]; omega
        · have hdx : decide ((c : Int) < (n : Int)) = false := by simp; omega
          have hiv : i = v := by have := Hc.out; have := Hn.out; omega
          have HTS2 : Hid (hbT v E (x + 1) = hbT v E x ++ [l]) := by show _ = _; rw [hbT_succ, ← HL.out, hiv, hbK_full]
          have hs3 : s + 2 ≤ wr.heap.size := Nat.le_trans HSZ.out hbz
          have hrow := orow_base hown HSZ.out
          replace hrow : ORow wr (s + 2) _ l := hrow
          obtain ⟨vals, h1, h2⟩ := HOR.out.below hB
          have hln := hbT_len v E x
          have HH2 : Hid (∀ (i_1 : Nat) (u : Value) (l : List Nat), vals[i_1]? = some u → (hbT v E x)[i_1]? = some l → ORow wr (s + 2) u l) := h2
          have HH1 : Hid (wr.ownsRow (s + 2) 22 1 ov (hbT v E x).length vals) := h1
          rw [hln] at h1
          obtain ⟨oa, oc, rfl⟩ := own_form h1
          obtain ⟨ra, rc, rfl⟩ := own_form hown
          have Hr2 : Hid (r + 1 = x + 1 + 1) := by show _ = _; rw [Hr.out]
          have hx99 : x ≤ 99 := by have := Hr.out; omega
          generalize l.length = ll at *
          clear h2 hln hown hiv
          go_wp2_with (first
            | (at_builtin; refine wpList_append_own _ rfl _ _ 31 rfl (s + 2) 22 i36 (.slice none 0 0) 1 24 undR ji3 jz0 jz1 jz2 rfl (by decide) _ _ _ rfl (h1.alloc _) ⟨wr.heap.size, 0, none⟩ 1 1 [.slice ra ll rc] rfl rfl ?c1 ?c2 ?c3 ?c4 ?c5 ?_)
            | go_in)
          case c1 =>
            intro j u hj
            match j, hj with
            | 0, hj => simp at hj; subst hj; simp [Addr.add]
          case c2 => intro u hu; simp at hu; subst hu; rfl
          case c3 => unfold maxLen; omega
          case c4 => omega
          case c5 => simp; omega
          · intro v' w2 hown' hgrow _
            have hal := balloc wr (.cells #[.slice ra ll rc] 22)
            have hB2 : Below (s + 2) wr w2 := ((Below.refl _ wr).alloc hs3 _).grown hgrow (by simp; omega) (fun k hk => (h1.lt k hk).1)
            have hO2 : OR w2 (s + 2) v' (hbT v E x ++ [l]) := OR.more (own_keep HH1.out fun b _ hb => hal.block b hb) (fun i_1 u l' e1 e2 => (HH2.out i_1 u l' e1 e2).below hal) (hrow.below hal) (by rw [hbT_len]; exact hown') hgrow
            rw [← HTS2.out] at hO2
            have hbx2 := hbx.low hB2
            obtain ⟨va, vc, rfl⟩ := own_form hown'
            have hO3 := hO2.keep (w' := w2.setCell ⟨s + 1, 1, none⟩ (.slice va (x + 1) vc)) (fun b hb _ => heap_setCell_other w2 ⟨s + 1, 1, none⟩ b _ (by show b ≠ s + 1; omega))
            have hbx3 := hbx2.put (.slice va (x + 1) vc)
            have hB3 := (hBs.trans (hB2.mono (by omega))).setCell (p := ⟨s + 1, 1, none⟩) (by show s ≤ s + 1; omega) (.slice va (x + 1) vc)
            have hfz : w2.frozen? ⟨s + 1, 1, none⟩ = false := frozen_of_row w2 (s + 1) 1 _ _ hbx2.o
            have hsz2 : s + 2 ≤ (w2.setCell ⟨s + 1, 1, none⟩ (.slice va (x + 1) vc)).heap.size := by have := hB2.size; simp; omega
            have hT3 := (heap_setCell_other w2 ⟨s + 1, 1, none⟩ s (.slice va (x + 1) vc) (by show s ≠ s + 1; omega)).trans ((hB2.block s (by omega)).trans hT0)
            obtain ⟨z2, z3⟩ := hbx2.cells
            clear hO2 hbx2 hbx hB2 hal hgrow hown' h1 y2 y3 hrow t1 hT0
            go_wp2
            go_roundw
            case rel => exact ⟨x + 1, r + 1, _, by go_num, Hr2, by omega, hbx3, hT3, hO3, hsz2, hB3⟩
            case measure => simp [intOf]; omega
    · have hdi : decide ((r : Int) < (n : Int)) = false := by simp; omega
      obtain rfl : x = v := by have := Hr.out; have := Hn.out; omega
      obtain ⟨oa, oc, rfl⟩ := hOR.cap
      rw [HTA.out] at hOR hbx y3
      generalize M.length = ml at *
      have a2 : wr.cell? ⟨w0.heap.size + 1, 0, none⟩ = some (.int .i64 0) := by rw [cell_of_row _ _ _ _ _ _ hbx.r]; rfl
      have a3 : wr.cell? ⟨w0.heap.size + 1, 1, none⟩ = some (.slice none 0 0) := by rw [cell_of_row _ _ _ _ _ _ hbx.r]; rfl
      have f0 : wr.frozen? ⟨w0.heap.size + 1, 0, none⟩ = false := frozen_of_row wr _ 0 _ _ hbx.r
      have f1 : wr.frozen? ⟨w0.heap.size + 1, 1, none⟩ = false := frozen_of_row wr _ 1 _ _ hbx.r
      have hn1 := heap_setCell_same wr (w0.heap.size + 1) 0 _ _ (.int .i64 (x : Int)) hbx.r
      have hn2 := heap_setCell_same _ (w0.heap.size + 1) 1 _ _ (.slice oa ml oc) hn1
      have hO2 := ((hOR.keep (w' := wr.setCell ⟨w0.heap.size + 1, 0, none⟩ (.int .i64 (x : Int))) (fun b hb _ => heap_setCell_other wr ⟨w0.heap.size + 1, 0, none⟩ b _ (by show b ≠ w0.heap.size + 1; omega))).keep (w' := (wr.setCell ⟨w0.heap.size + 1, 0, none⟩ (.int .i64 (x : Int))).setCell ⟨w0.heap.size + 1, 1, none⟩ (.slice oa ml oc)) (fun b hb _ => heap_setCell_other _ ⟨w0.heap.size + 1, 1, none⟩ b _ (by show b ≠ w0.heap.size + 1; omega))).rw
      have hB2 := ((HB1.out.trans (hB.mono (by omega))).setCell (p := ⟨w0.heap.size + 1, 0, none⟩) (by show w0.heap.size ≤ w0.heap.size + 1; omega) (.int .i64 (x : Int))).setCell (p := ⟨w0.heap.size + 1, 1, none⟩) (by show w0.heap.size ≤ w0.heap.size + 1; omega) (.slice oa ml oc)
      have HO2 : Hid _ := hO2
      clear hbx hOR hT0 hO2
      go_wp2
      exact post_d2 2 3 Try.results15 rfl hn2 rfl rfl ⟨⟨_, rfl, HO2.out⟩, hB2⟩
end Go.Proofs.Ytamdpcajfgbagaa
