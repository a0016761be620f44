/- The walks of the document's OtherOf and FriendOf. -/
import Derived.Test.YtlmjlffipinjiaaSG2
import Derived.OwnWalk
import Derived.Deep.AppendLies
namespace Go.Proofs.Ytlmjlffipinjiaa
open Go.RowKit

theorem inf24 : (Try.prog.info? 24).map (·.size) = some 2 := by kernel_rfl
def vi (l : List Int) : List Value := l.map (Value.int .i64)
theorem vi_snoc (f : Nat → Int) (k : Nat) : vi ((List.range (k + 1)).map f) = vi ((List.range k).map f) ++ [.int .i64 (f k)] := by
  rw [List.range_succ, List.map_append]; simp [vi]
theorem own_slice {w : World} {base n : Nat} {e : TypeId} {size : Nat} {v : Value} {xs : List Value} (h : w.ownsRow base e size v n xs) : ∃ a c, v = .slice a n c := by
  obtain ⟨_, ⟨e, e2⟩ | ⟨g', cap, cur, e, _⟩⟩ := h
  · exact ⟨_, _, by rw [e, e2]⟩
  · exact ⟨_, _, e⟩
theorem own_diff {w : World} {base n g : Nat} {v : Value} {xs : List Value} {cs : Array Value} (h : w.ownsRow base 3 1 v n xs) (hg : w.heap[g]? = some (.cells cs 24 (0, 0))) : v.ownBlock ≠ some g := by
  obtain ⟨_, ⟨rfl, _⟩ | ⟨g', cap, cur, rfl, _, h7, _⟩⟩ := h
  · intro e; cases e
  · intro e
    obtain rfl : g' = g := by simpa [Value.ownBlock] using e
    rw [hg] at h7
    simp at h7
theorem orow_other {w : World} {base n : Nat} {e : TypeId} {size : Nat} {v : Value} {xs : List Value} (h : w.ownsRow base e size v n xs) (a : Addr) (u : Value) (hne : v.ownBlock ≠ some a.block) : (w.setCell a u).ownsRow base e size v n xs := by
  obtain ⟨h3, h4 | ⟨g, cap, cur, rfl, h6, h7, h8⟩⟩ := h
  · exact ⟨h3, .inl h4⟩
  · exact ⟨h3, .inr ⟨g, cap, cur, rfl, h6, (heap_setCell_other w a g u fun e => hne (by simp [Value.ownBlock, e])).trans h7, h8⟩⟩
theorem post_sq {fn : Func} {R : Ending → World → Prop} {a : Act} {w : World} {g : Nat} {x y : Value} (slot : Tmp) (hres : fn.results = #[.cell slot 24]) (hp : a.tmps.getD slot undef = .pointer (some ⟨g, 0, none⟩)) (hr : w.heap[g]? = some (.cells #[x, y] 24 (0, 0))) (hd : a.defers = []) (hR : R (.returned (.agg #[x, y])) w) : bodyPost Try.prog fn R .ret a w :=
  bodyPost_ret (results_cell_row hres a.tmps w g 24 #[x, y] (0, 0) _ hp hr Try.underlying24 rfl inf24) hd hR
theorem post_sq2 {fn : Func} {R : Ending → World → Prop} {a : Act} {w : World} {g : Nat} {x y z : Value} (slot u : Tmp) (hres : fn.results = #[.cell slot 24, .tmp u]) (hp : a.tmps.getD slot undef = .pointer (some ⟨g, 0, none⟩)) (hr : w.heap[g]? = some (.cells #[x, y] 24 (0, 0))) (hu : a.tmps.getD u undef = z) (hd : a.defers = []) (hR : R (.returned (.tuple #[.agg #[x, y], z])) w) : bodyPost Try.prog fn R .ret a w := by
  refine bodyPost_ret (v := .tuple #[.agg #[x, y], z]) ?_ hd hR
  rw [results_cell_tmp hres, hp, hu]
  have h1 : (asAddr (.pointer (some ⟨g, 0, none⟩))).run Try.prog w = .ok ⟨g, 0, none⟩ w := by simp [asAddr]
  rw [h1]
  show ((loadVar 24 ⟨g, 0, none⟩).run Try.prog w).andThen _ = _
  rw [run_loadVar_row w g 24 24 #[x, y] (0, 0) _ hr Try.underlying24 rfl inf24]
  rfl
theorem row2 {w : World} {g : Nat} {x0 x1 : Value} {t : TypeId} (h : w.heap[g]? = some (.cells #[x0, x1] t (0, 0))) : w.cell? ⟨g, 0, none⟩ = some x0 ∧ w.cell? ⟨g, 1, none⟩ = some x1 ∧ w.frozen? ⟨g, 0, none⟩ = false ∧ w.frozen? ⟨g, 1, none⟩ = false := by
  refine ⟨?_, ?_, frozen_of_row w g 0 _ _ h, frozen_of_row w g 1 _ _ h⟩ <;> rw [cell_of_row _ _ _ _ _ _ h] <;> rfl
theorem put2_row {w : World} {g : Nat} {x0 x1 : Value} {t : TypeId} (h : w.heap[g]? = some (.cells #[x0, x1] t (0, 0))) (y0 y1 : Value) : ((w.setCell ⟨g, 0, none⟩ y0).setCell ⟨g, 1, none⟩ y1).heap[g]? = some (.cells #[y0, y1] t (0, 0)) := by
  have h1 := heap_setCell_same w g 0 _ _ y0 h
  have h2 := heap_setCell_same _ g 1 _ _ y1 h1
  exact h2
theorem row_sl {w : World} {base : Nat} {y : Value} {l : List Int} {n : Nat} (h : w.ownsRow base 3 1 y n (vi l)) (hn : l.length = n) : Sl w y l := by
  subst hn
  exact Sl.owned h
/-- A square that grows in a box of its own (block q), the answer's box (block r). -/
structure AB (w : World) (q r : Nat) (n : Int) (k : Nat) (l : List Int) (o : Value) (wr : World) : Prop where
  sbox : wr.heap[q]? = some (.cells #[.int .i64 n, o] 24 (0, 0))
  rbox : wr.heap[r]? = some (.cells #[.int .i64 0, .slice none 0 0] 24 (0, 0))
  row : wr.ownsRow w.heap.size 3 1 o k (vi l)
  bel : Below w.heap.size w wr
theorem AB.quiet {w wr : World} {q r k : Nat} {n : Int} {l : List Int} {o : Value} (h : AB w q r n k l o wr) (c : Nat) : AB w q r n k l o (wr.drewN c) := ⟨h.sbox, h.rbox, h.row, bdrewN h.bel c⟩
/-- The answer stored: what was made, in the answer's box. -/
theorem AB.ret {w wr : World} {q r k : Nat} {n : Int} {l : List Int} {o : Value} (h : AB w q r n k l o wr) (hr : w.heap.size ≤ r) : ((wr.setCell ⟨r, 0, none⟩ (.int .i64 n)).setCell ⟨r, 1, none⟩ o).heap[r]? = some (.cells #[.int .i64 n, o] 24 (0, 0)) ∧ ((wr.setCell ⟨r, 0, none⟩ (.int .i64 n)).setCell ⟨r, 1, none⟩ o).ownsRow w.heap.size 3 1 o k (vi l) ∧ Below w.heap.size w ((wr.setCell ⟨r, 0, none⟩ (.int .i64 n)).setCell ⟨r, 1, none⟩ o) := by
  refine ⟨put2_row h.rbox _ _, ?_, (h.bel.setCell (p := ⟨r, 0, none⟩) hr _).setCell (p := ⟨r, 1, none⟩) hr _⟩
  exact orow_other (orow_other h.row _ _ (own_diff h.row h.rbox)) _ _ (own_diff h.row h.rbox)
theorem news_q (w : World) (u : Value) : (w.alloc (.cells #[u] 3)).cell? ⟨w.heap.size, 0, none⟩ = some u := by
  rw [cell_of_row _ _ _ _ _ _ (heap_alloc_new w _)]; rfl
theorem AB.kept {w wr w2 : World} {q r k : Nat} {n : Int} {l : List Int} {o : Value} (h : AB w q r n k l o wr) {u : Value} (hg : (wr.alloc (.cells #[u] 3)).grownBy w2 o.ownBlock) {b : Nat} {cs : Array Value} (hb : wr.heap[b]? = some (.cells cs 24 (0, 0))) : w2.heap[b]? = some (.cells cs 24 (0, 0)) := by
  have hl : b < wr.heap.size := (Array.getElem?_eq_some_iff.1 hb).1
  exact (hg.block b (by simp; omega) (fun e => own_diff h.row hb e.symm)).trans (((balloc wr (.cells #[u] 3)).block b hl).trans hb)
theorem AB.grown {w wr w2 : World} {q r k : Nat} {n : Int} {l : List Int} {o : Value} (h : AB w q r n k l o wr) {u : Value} (hg : (wr.alloc (.cells #[u] 3)).grownBy w2 o.ownBlock) : Below w.heap.size w w2 := by
  have hs := h.bel.size
  exact (Below.next h.bel (balloc wr (.cells #[u] 3))).grown hg (by simp; omega) (fun j hj => (h.row.lt j hj).1)
/-- One number more. -/
theorem AB.more {w wr w2 : World} {q r k : Nat} {n : Int} {l : List Int} {o v' : Value} (h : AB w q r n k l o wr) {u : Int} (hg : (wr.alloc (.cells #[.int .i64 u] 3)).grownBy w2 o.ownBlock) (hW : w2.ownsRow w.heap.size 3 1 v' (k + 1) (vi (l ++ [u]))) (hq : w.heap.size ≤ q) (hqr : r ≠ q) : AB w q r n (k + 1) (l ++ [u]) v' (w2.setCell ⟨q, 1, none⟩ v') := by
  have h1 := h.kept hg h.sbox
  have h2 := h.kept hg h.rbox
  refine ⟨?_, (heap_setCell_other w2 ⟨q, 1, none⟩ r v' hqr).trans h2, orow_other hW _ _ (own_diff hW h1), (h.grown hg).setCell (p := ⟨q, 1, none⟩) hq v'⟩
  rw [heap_setCell_same w2 q 1 _ _ v' h1]
  rfl
set_option maxRecDepth 100000 in
set_option maxHeartbeats 8000000 in
theorem OtherOf_any (n : Nat) (L : List Int) (G : GoodG n L) (v : Value) (w : World) (hv : Sl w v L) :
    Calls Try.prog 14 #[.agg #[.int .i64 (n : Int), v]] w fun e w' => (∃ y, e = .returned (.agg #[.int .i64 (n : Int), y]) ∧ w'.ownsRow w.heap.size 3 1 y (n * n) (vi ((List.range (n * n)).map fun j => otG (gx n L) (j / n) (j % n)))) ∧ Below w.heap.size w w' := by
  obtain ⟨i3, hi3, hz0, hz1, hz2⟩ := info3
  have hpos : 0 < n * n := Nat.mul_pos G.pos G.pos
  have h8 := G.le
  have h1 := G.pos
  obtain ⟨g, off, cap, rfl, hg, hcell⟩ := hv.form G.len hpos
  have HGX : Hid (∀ j, j < n * n → ∃ x : Int, L.getD j 0 = x ∧ (x = 0 ∨ x = 1) ∧ otG (gx n L) (j / n) (j % n) = if j / n = j % n then 0 else 1 - x) := fun j hj => by
    have hq : j / n < n := Nat.div_lt_of_lt_mul hj
    have hr : j % n < n := Nat.mod_lt _ h1
    have e : L.getD j 0 = gx n L (j / n) (j % n) := by
      unfold gx
      rw [Nat.mul_comm, Nat.div_add_mod]
    refine ⟨_, rfl, ?_, ?_⟩
    · rw [e]; exact G.gr.bit _ _ hq hr
    · rw [e]; rfl
  generalize hf : (fun j => otG (gx n L) (j / n) (j % n)) = f
  have HF : Hid (∀ j, otG (gx n L) (j / n) (j % n) = f j) := fun j => by rw [← hf]
  obtain ⟨z, hz⟩ : ∃ z, n * n = z := ⟨_, rfl⟩
  have hz99 : z ≤ 999 := by rw [← hz]; exact Nat.le_trans (Nat.mul_le_mul h8 h8) (by decide)
  rw [hz] at hcell HGX
  rw [hz]
  have HC : Hid (∀ j, j < z → w.cell? ⟨g, off + j, none⟩ = some (.int .i64 (L.getD j 0))) := hcell
  have hn0 : ¬ n = 0 := by omega
  have hn0' : ¬ (n : Int) = 0 := by omega
  have R0 : (((w.alloc (.cells #[.int .i64 (n : Int), .slice (some ⟨g, off, none⟩) z cap] 24)).alloc (.cells #[.int .i64 0, .slice none 0 0] 24)).alloc (.cells #[.int .i64 (n : Int), .slice none 0 0] 24)).heap[w.heap.size]? = some (.cells #[.int .i64 (n : Int), .slice (some ⟨g, off, none⟩) z cap] 24 (0, 0)) := (Below.heap_alloc _ _ _ (by simp; omega)).trans ((Below.heap_alloc _ _ _ (by simp)).trans (heap_alloc_new w _))
  have HAB : AB w (w.heap.size + 1 + 1) (w.heap.size + 1) n 0 ((List.range 0).map f) (.slice none 0 0) (((w.alloc (.cells #[.int .i64 (n : Int), .slice (some ⟨g, off, none⟩) z cap] 24)).alloc (.cells #[.int .i64 0, .slice none 0 0] 24)).alloc (.cells #[.int .i64 (n : Int), .slice none 0 0] 24)) := by
    refine ⟨?_, ?_, World.ownsRow_nil _ _ _ _, Below.next (Below.next (balloc _ _) (balloc _ _)) (balloc _ _)⟩
    · have := heap_alloc_new ((w.alloc (.cells #[.int .i64 (n : Int), .slice (some ⟨g, off, none⟩) z cap] 24)).alloc (.cells #[.int .i64 0, .slice none 0 0] 24)) (.cells #[.int .i64 (n : Int), .slice none 0 0] 24)
      simpa using this
    · refine (Below.heap_alloc _ _ _ (by simp)).trans ?_
      have := heap_alloc_new (w.alloc (.cells #[.int .i64 (n : Int), .slice (some ⟨g, off, none⟩) z cap] 24)) (.cells #[.int .i64 0, .slice none 0 0] 24)
      simpa using this
  clear hcell hv G hpos hz hf
  go_enter Try.func14, Try.ntmps14
  go_wp2
  go_loopw [4] (fun iv wr => ∃ (i : Nat) (o : Value), iv = .int .i64 (i : Int) ∧ i ≤ z ∧ wr.heap[w.heap.size]? = some (.cells #[.int .i64 (n : Int), .slice (some ⟨g, off, none⟩) z cap] 24 (0, 0)) ∧ AB w (w.heap.size + 1 + 1) (w.heap.size + 1) n i ((List.range i).map f) o wr) (fun iv _ => (z - intOf iv).toNat)
  case atStart => exact ⟨0, _, rfl, by omega, R0, HAB⟩
  case round =>
    clear R0 HAB
    obtain ⟨i, o, rfl, hi, R0, HAB⟩ := hrel
    obtain ⟨x0, x1, _, _⟩ := row2 R0
    obtain ⟨s0, s1, sf0, sf1⟩ := row2 HAB.sbox
    obtain ⟨a0, a1, af0, af1⟩ := row2 HAB.rbox
    by_cases hlt : i < z
    · have hdi : decide ((i : Int) < (z : Int)) = true := by simp; omega
      have hii : (i : Int) < z := by omega
      have ci := (HAB.bel.cell (p := ⟨g, off + i, none⟩) hg).trans (HC.out i hlt)
      obtain ⟨x, ex, hx, hot⟩ := HGX.out i hlt
      rw [ex] at ci
      rw [HF.out] at hot
      have hx2 : 0 ≤ x ∧ x ≤ 1 := by omega
      obtain ⟨hx3, hx4⟩ := hx2
      obtain ⟨qq, Hqq⟩ : ∃ q, Hid (i / n = q) := ⟨_, rfl⟩
      obtain ⟨rr, Hrr⟩ : ∃ q, Hid (i % n = q) := ⟨_, rfl⟩
      have t1 : (i : Int) / (n : Int) = (qq : Int) := by rw [← Hqq.out]; simp
      have t2 : (i : Int) % (n : Int) = (rr : Int) := by rw [← Hrr.out]; simp
      have t3 : (i : Int).tdiv (n : Int) = (qq : Int) := by rw [Int.tdiv_eq_ediv_of_nonneg (by omega)]; exact t1
      have t4 : (i : Int).tmod (n : Int) = (rr : Int) := by rw [Int.tmod_eq_emod_of_nonneg (by omega)]; exact t2
      have b3 : qq ≤ 99999 := by rw [← Hqq.out]; have := Nat.div_le_self i n; omega
      have b4 : rr ≤ 99999 := by rw [← Hrr.out]; have := Nat.mod_le i n; omega
      have w3 := wrapN9 b3
      have w4 := wrapN9 b4
      rw [Hqq.out, Hrr.out] at hot
      have hW := HAB.row
      have hB := HAB.bel
      have hsz := hB.size
      have hl2 : w.heap.size + 1 + 1 < wr.heap.size := (Array.getElem?_eq_some_iff.1 HAB.sbox).1
      obtain ⟨oa, oc, rfl⟩ := own_slice hW
      obtain ⟨fl, Hfl⟩ : ∃ fl, Hid (vi ((List.range i).map f) = fl) := ⟨_, rfl⟩
      rw [Hfl.out] at hW
      have HABH : Hid (AB w (w.heap.size + 1 + 1) (w.heap.size + 1) n i ((List.range i).map f) (.slice oa i oc) wr) := HAB
      clear ex HAB
      by_cases hqr : qq = rr
      · have dq : ((qq : Int) == (rr : Int)) = true := by simp [hqr]
        rw [if_pos hqr] at hot
        clear hqr hx
        go_wp2
        go_quiet (fail)
        go_wp2_with (first
          | (at_builtin; refine wpList_append_own _ rfl _ _ 22 rfl w.heap.size 3 i3 (.int .i64 0) 1 8 und22 hi3 hz0 hz1 hz2 rfl (by decide) _ i fl rfl (hW.alloc _) ⟨wr.heap.size, 0, none⟩ 1 1 [.int .i64 0] rfl rfl ?c1 ?c2 ?c3 ?c4 ?c5 ?_)
          | go_in)
        case c1 =>
          intro j u hj
          match j, hj with
          | 0, hj => simp at hj; subst hj; simp [Addr.add]; exact news_q (wr.drewN nq) _
        case c2 => intro u hu; simp at hu; subst hu; rfl
        case c3 => unfold maxLen; omega
        case c4 => omega
        case c5 => simp; omega
        intro v' w2 hown' hgrow _
        have HA := HABH.out.quiet nq
        have k0 := HA.kept hgrow (b := w.heap.size) R0
        have k2 := HA.kept hgrow HA.sbox
        have hown2 : w2.ownsRow w.heap.size 3 1 v' (i + 1) (vi ((List.range i).map f ++ [0])) := by
          rw [show vi ((List.range i).map f ++ [0]) = fl ++ [.int .i64 0] by rw [← Hfl.out]; simp [vi]]
          exact hown'
        obtain ⟨va, vc, rfl⟩ := own_slice hown2
        have HA2 := HA.more hgrow hown2 (by omega) (by omega)
        rw [show (List.range i).map f ++ [0] = (List.range (i + 1)).map f by rw [List.range_succ, List.map_append, ← hot]; rfl] at HA2
        have HA3 : Hid (AB w (w.heap.size + 1 + 1) (w.heap.size + 1) n (i + 1) ((List.range (i + 1)).map f) (.slice va (i + 1) vc) (w2.setCell ⟨w.heap.size + 1 + 1, 1, none⟩ (.slice va (i + 1) vc))) := HA2
        have HR3 : Hid ((w2.setCell ⟨w.heap.size + 1 + 1, 1, none⟩ (.slice va (i + 1) vc)).heap[w.heap.size]? = some (.cells #[.int .i64 (n : Int), .slice (some ⟨g, off, none⟩) z cap] 24 (0, 0))) := (heap_setCell_other w2 ⟨w.heap.size + 1 + 1, 1, none⟩ w.heap.size _ (by show w.heap.size ≠ w.heap.size + 1 + 1; omega)).trans k0
        obtain ⟨v0, v1, vf0, vf1⟩ := row2 k2
        clear HA HA2 k0 k2 hown' hown2 hgrow x0 x1 s0 s1 sf0 sf1 a0 a1 af0 af1 hW R0 ci
        go_wp2
        go_roundw
        case rel => exact ⟨i + 1, _, by go_num, by omega, HR3.out, HA3.out⟩
        case measure => simp [intOf]; omega
      · have dq : ((qq : Int) == (rr : Int)) = false := by simp; omega
        rw [if_neg hqr] at hot
        clear hqr hx
        go_wp2
        go_quiet (fail)
        go_wp2_with (first
          | (at_builtin; refine wpList_append_own _ rfl _ _ 22 rfl w.heap.size 3 i3 (.int .i64 0) 1 8 und22 hi3 hz0 hz1 hz2 rfl (by decide) _ i fl rfl (hW.alloc _) ⟨wr.heap.size, 0, none⟩ 1 1 [.int .i64 (1 - x)] rfl rfl ?c1 ?c2 ?c3 ?c4 ?c5 ?_)
          | go_in)
        case c1 =>
          intro j u hj
          match j, hj with
          | 0, hj => simp at hj; subst hj; simp [Addr.add]; exact news_q (wr.drewN nq) _
        case c2 => intro u hu; simp at hu; subst hu; rfl
        case c3 => unfold maxLen; omega
        case c4 => omega
        case c5 => simp; omega
        intro v' w2 hown' hgrow _
        have HA := HABH.out.quiet nq
        have k0 := HA.kept hgrow (b := w.heap.size) R0
        have k2 := HA.kept hgrow HA.sbox
        have hown2 : w2.ownsRow w.heap.size 3 1 v' (i + 1) (vi ((List.range i).map f ++ [(1 - x)])) := by
          rw [show vi ((List.range i).map f ++ [(1 - x)]) = fl ++ [.int .i64 (1 - x)] by rw [← Hfl.out]; simp [vi]]
          exact hown'
        obtain ⟨va, vc, rfl⟩ := own_slice hown2
        have HA2 := HA.more hgrow hown2 (by omega) (by omega)
        rw [show (List.range i).map f ++ [(1 - x)] = (List.range (i + 1)).map f by rw [List.range_succ, List.map_append, ← hot]; rfl] at HA2
        have HA3 : Hid (AB w (w.heap.size + 1 + 1) (w.heap.size + 1) n (i + 1) ((List.range (i + 1)).map f) (.slice va (i + 1) vc) (w2.setCell ⟨w.heap.size + 1 + 1, 1, none⟩ (.slice va (i + 1) vc))) := HA2
        have HR3 : Hid ((w2.setCell ⟨w.heap.size + 1 + 1, 1, none⟩ (.slice va (i + 1) vc)).heap[w.heap.size]? = some (.cells #[.int .i64 (n : Int), .slice (some ⟨g, off, none⟩) z cap] 24 (0, 0))) := (heap_setCell_other w2 ⟨w.heap.size + 1 + 1, 1, none⟩ w.heap.size _ (by show w.heap.size ≠ w.heap.size + 1 + 1; omega)).trans k0
        obtain ⟨v0, v1, vf0, vf1⟩ := row2 k2
        clear HA HA2 k0 k2 hown' hown2 hgrow x0 x1 s0 s1 sf0 sf1 a0 a1 af0 af1 hW R0 ci
        go_wp2
        go_roundw
        case rel => exact ⟨i + 1, _, by go_num, by omega, HR3.out, HA3.out⟩
        case measure => simp [intOf]; omega
    · have hdi : decide ((i : Int) < (z : Int)) = false := by simp; omega
      have hdi2 : decide (i < z) = false := by simp; omega
      obtain rfl : i = z := by omega
      obtain ⟨e1, e2, e3⟩ := HAB.ret (show w.heap.size ≤ w.heap.size + 1 by omega)
      have HE2 : Hid _ := e2
      have HE3 : Hid _ := e3
      obtain ⟨oa, oc, rfl⟩ := own_slice HAB.row
      clear HAB e2 e3
      go_wp2
      exact post_sq 2 Try.results14 rfl e1 rfl ⟨⟨_, rfl, HE2.out⟩, HE3.out⟩
end Go.Proofs.Ytlmjlffipinjiaa
