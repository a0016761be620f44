/- The library's Values, AppendSeq, Collect, Sorted at numbers, walked. -/
import Derived.Test.YtgkfddcmngodgabU2
import Derived.Test.YtgkfddcmngodgabShS
import Derived.RangeFuncNested
import Derived.RangeFuncBox
import Derived.RangeFuncLeaves
import Derived.RangeFuncFrom
import Derived.RangeFuncBound
import Derived.RangeFuncCalls
import Derived.Shelf.Abstract
import Derived.Shelf.RegionOpen
import Derived.OwnWalkIn
import Derived.TacticsInMore
import Derived.LoopNIn
import Derived.LoopIn
import Derived.Stop.RegionWithIn
import Derived.Maps.OwnIn
import Derived.Sort.OwnSortedInts
namespace Go.Proofs.Ytgkfddcmngodgab
open Go.RowKit Go.Shelf Go.Sort

attribute [local go_sem] Oper.semAt_some

theorem wide_no {p : Prop} (h : Fence.wide.depth.isSome = true) : p := by cases h
theorem grown_of_below {A B : World} (h : Below A.heap.size A B) : A.grownBy B none := ⟨h.os, h.tape, h.output, h.size, fun k hk _ => h.block k hk⟩
theorem boxBelow {W W' : World} {B : Nat} {t : TypeId} {v : Value} (h : Boxed W B t v) (hb : Below W.heap.size W W') : Boxed W' B t v := (hb.block B h.lt).trans h
theorem ownFrom_size {β : Type} {B n : Nat} : OwnFrom B (fun (_ : β) (W : World) => n ≤ W.heap.size) := fun _ _ _ _ h hg _ => Nat.le_trans h hg.size
theorem ownsRow_base {w : World} {b b' : Nat} {e : TypeId} {size : Nat} {v : Value} {n : Nat} {xs : List Value} (h : w.ownsRow b' e size v n xs) (hb : b ≤ b') : w.ownsRow b e size v n xs := by
  obtain ⟨h1, h2 | ⟨g, cap, cur, e1, e2, e3⟩⟩ := h
  · exact ⟨h1, .inl h2⟩
  · exact ⟨h1, .inr ⟨g, cap, cur, e1, by omega, e3⟩⟩
theorem keepsOthers_below {A B : World} (h : Below A.heap.size A B) : KeepsOthers A B := ⟨h.size, fun k _ hk _ => (h.block k (Array.getElem?_eq_some_iff.1 hk).1).trans hk⟩
/-- What an append to the row in the box leaves. -/
theorem appFacts {W W5 w2 : World} {ob lo base k m : Nat} {t e : TypeId} {size : Nat} {u v' : Value} {xs ys : List Value} (hte : t ≠ e) (hu : Boxed W ob t u) (hrow : W.ownsRow base e size u k xs) (h5 : Below W.heap.size W W5)
    (hsz : base ≤ W.heap.size) (hlo : lo ≤ ob ∧ lo ≤ base) (hown' : w2.ownsRow base e size v' m ys) (hgrow : W5.grownBy w2 u.ownBlock) :
    Boxed w2 ob t u ∧ Boxed (w2.setCell ⟨ob, 0, none⟩ v') ob t v' ∧ (w2.setCell ⟨ob, 0, none⟩ v').ownsRow base e size v' m ys ∧ KeepsOthers W (w2.setCell ⟨ob, 0, none⟩ v') ∧ Below lo W (w2.setCell ⟨ob, 0, none⟩ v') := by
  have hu5 := boxBelow hu h5
  have hrow5 : W5.ownsRow base e size u k xs := hrow.kept (grown_of_below h5) (by cases h : u.ownBlock <;> simp)
  have h1 : Boxed w2 ob t u := hu5.kept hgrow (hu.not_row hte hrow)
  have hblk : ∀ b, b < base → b ≠ ob → (w2.setCell ⟨ob, 0, none⟩ v').heap[b]? = W.heap[b]? := by
    intro b hb hne
    refine (heap_setCell_other w2 ⟨ob, 0, none⟩ b v' hne).trans ((hgrow.block b (by have := h5.size; omega) (fun e => ?_)).trans (h5.block b (by omega)))
    rcases hrow.2 with ⟨rfl, _⟩ | ⟨g, cap, cur, rfl, hg, _⟩
    · simp [Value.ownBlock] at e
    · simp [Value.ownBlock] at e
      omega
  refine ⟨h1, h1.set v', hown'.kept (grownBy_setCell' w2 ob v') (.inr (h1.not_row hte hown').symm), ?_, ?_⟩
  · refine ((keepsOthers_below h5).trans (KeepsOthers.of_grownBy hgrow fun j o ej hj => ?_)).trans (KeepsOthers.setCell _ _ _)
    rcases hrow5.2 with ⟨rfl, _⟩ | ⟨g, cap, cur, rfl, _, hgb, _⟩
    · simp [Value.ownBlock] at ej
    · obtain rfl : g = j := by simpa [Value.ownBlock] using ej
      rw [hgb] at hj; cases hj; rfl
  · refine ⟨hgrow.os.trans h5.os, hgrow.tape.trans h5.tape, hgrow.output.trans h5.output, ?_, fun b hb => hblk b (by omega) (by omega)⟩
    have := hgrow.size
    have := h5.size
    simp
    omega

set_option maxRecDepth 100000 in
set_option maxHeartbeats 1000000 in
theorem Values_any (a : Option Addr) (m c : Nat) (w : World) : Calls Try.prog 20 #[.slice a m c] w fun e w' => e = .returned (.func (.func 26) #[] #[.pointer (some ⟨w.heap.size, 0, none⟩)]) ∧ w' = w.alloc (.cells #[.slice a m c] 22) := by
  go_enter Try.func20, Try.ntmps20
  go_wp2
  go_ret
  exact ⟨rfl, rfl⟩
def enI (x : Int) : Array Value := #[.int .i64 x]
set_option maxRecDepth 100000 in
set_option maxHeartbeats 4000000 in
theorem values_seq (n B : Nat) (zs : List Int) (v : Value) (w : World) (hB : w.heap[B]? = some (.cells #[v] 22 (0, 0))) (hv : Sl w v zs) (hl : zs.length ≤ 99) :
    SeqStopsK Fence.wide n Try.prog 26 #[.pointer (some ⟨B, 0, none⟩)] enI (Below w.heap.size) (fun xs => xs = zs) (fun _ => True) 99 w := by
  intro l J Jx W hbW _ _ hY hJ0
  have hBl : B < w.heap.size := (Array.getElem?_eq_some_iff.1 hB).1
  have hB1 : W.heap[B]? = some (.cells #[v] 22 (0, 0)) := (hbW.block B hBl).trans hB
  have HVS : Hid (∀ A, Below w.heap.size w A → Sl A v zs) := fun A b => hv.below b
  have HTK : Hid (∀ m, m < zs.length → zs.take (m + 1) = zs.take m ++ [zs.getD m 0]) := fun m hm => by
    rw [List.take_add_one, List.getElem?_eq_getElem hm, List.getD_eq_getElem?_getD, List.getElem?_eq_getElem hm]; rfl
  have HTL : Hid (∀ m, m ≤ zs.length → (zs.take m).length = m) := fun m hm => by rw [List.length_take]; omega
  have HTE : Hid (zs.take zs.length = zs) := List.take_length
  obtain ⟨a, c, rfl, hcells⟩ := hv
  have HCE : Hid (∀ A, Below w.heap.size w A → ∀ j, j < zs.length → ∃ b off, a = some ⟨b, off, none⟩ ∧ A.cell? ⟨b, off + j, none⟩ = some (.int .i64 (zs.getD j 0))) := fun A hA j hj => by
    obtain ⟨b, off, e, hc⟩ := hcells j hj
    exact ⟨b, off, e, (hA.cell (World.block_lt_of_cell? _ _ hc)).trans hc⟩
  have HY : Hid (∀ pre x W1, J pre W1 → pre.length < 99 → YieldAt Fence.wide (n - 1) Try.prog l (enI x) W1 fun e W' => (e = .returned (.bool true) ∧ J (pre ++ [x]) W' ∧ Below w.heap.size W1 W') ∨ (e = .returned (.bool false) ∧ Jx (pre ++ [x]) W')) := hY
  have HBW : Hid (Below w.heap.size w W) := hbW
  have hBc : W.cell? ⟨B, 0, none⟩ = some (.slice a zs.length c) := by simpa using cell_of_row W B 0 _ _ _ hB1
  obtain ⟨N, HN⟩ : ∃ N, Hid (zs.length = N) := ⟨_, rfl⟩
  rw [HN.out] at HTK HTL HTE HCE hBc hl
  clear hY hB hcells hB1 HVS hbW
  refine callsIn_of_wp Try.func26 rfl trivial ?_ rfl
  simp only [Try.ntmps26, List.size_toArray, List.length_cons, List.length_nil, Nat.reduceAdd, Nat.reduceSub, Array.replicate_succ, Array.replicate_zero, List.push_toArray, List.append_toArray, List.nil_append, List.cons_append]
  gi_wp2
  gi_loopw [7] (fun y wr => ∃ m : Nat, m ≤ N ∧ y = .int .i64 (m : Int) ∧ J (zs.take m) wr ∧ Below w.heap.size W wr) (fun y _ => (N - intOf y).toNat)
  case atStart => exact ⟨0, by omega, rfl, hJ0, Below.refl _ _⟩
  case round =>
    clear hBc
    obtain ⟨m, hm, rfl, hJ, hS⟩ := hrel
    by_cases hlt : m < N
    · have hd : decide ((m : Int) < (N : Int)) = true := by simp; omega
      have hmi : (m : Int) < (N : Int) := by omega
      obtain ⟨b, off, rfl, hc⟩ := HCE.out wr (HBW.out.trans hS) m hlt
      obtain ⟨x, Hx⟩ : ∃ x, Hid (zs.getD m 0 = x) := ⟨_, rfl⟩
      rw [Hx.out] at hc
      obtain ⟨fn, tmps, assign, body, hy, hR⟩ := HY.out (zs.take m) x wr hJ (by rw [HTL.out m hm]; omega)
      simp only [enI] at hy
      gi_wp2
      refine ⟨(fun h => by cases h), hR.mono ?_⟩
      rintro e W3 (⟨rfl, hJ3, hs3⟩ | ⟨rfl, hJx3⟩)
      · gi_wp2
        go_roundw
        case rel =>
          refine ⟨m + 1, by omega, by go_num, ?_, hS.trans hs3⟩
          rw [HTK.out m hlt, Hx.out]
          exact hJ3
        case measure => (simp [intOf]; try omega)
      · gi_wp2
        refine bodyPost_ret (results_none rfl _ _ _) rfl ?_
        exact ⟨⟨_, rfl⟩, .inr ⟨_, trivial, hJx3⟩⟩
    · have hd : decide ((m : Int) < (N : Int)) = false := by simp; omega
      obtain rfl : m = N := by omega
      rw [HTE.out] at hJ
      gi_wp2
      go_end0
      exact ⟨⟨_, rfl⟩, .inl ⟨_, rfl, hJ⟩⟩
set_option maxRecDepth 100000 in
set_option maxHeartbeats 4000000 in
theorem AppendSeq_any (B : Nat) (zs : List Int) (v : Value) (w : World) (hB : w.heap[B]? = some (.cells #[v] 22 (0, 0))) (hv : Sl w v zs) (hl : zs.length ≤ 99) :
    Calls Try.prog 28 #[.slice none 0 0, .func (.func 26) #[] #[.pointer (some ⟨B, 0, none⟩)]] w fun e w' => (∃ u, e = .returned u ∧ w'.ownsRow w.heap.size 3 1 u zs.length (zs.map (Value.int .i64))) ∧ Below w.heap.size w w' := by
  obtain ⟨i3, ki3, kz0, kz1, kz2⟩ := info3
  refine (callsIn_wide (n := 4)).1 ?_
  obtain ⟨w1, Hw1⟩ : ∃ w1, Hid (w1 = w.alloc (.cells #[.slice none 0 0] 22)) := ⟨_, rfl⟩
  have hB1 : Below w.heap.size w w1 := by rw [Hw1.out]; exact balloc w _
  have hs1 : w1.heap.size = w.heap.size + 1 := by rw [Hw1.out]; simp
  have hob : Boxed w1 w.heap.size 22 (.slice none 0 0) := by rw [Hw1.out]; exact Boxed.new w 22 (.slice none 0 0)
  have HSQ := values_seq 3 B zs v w hB hv hl
  clear hB hv
  refine callsIn_of_wp_marks Try.func28 rfl trivial ?_ rfl
  simp only [Try.ntmps28, List.size_toArray, List.length_cons, List.length_nil, Nat.reduceAdd, Nat.reduceSub, Array.replicate_succ, Array.replicate_zero, List.push_toArray, List.append_toArray, List.nil_append, List.cons_append]
  gi_wp2
  rw [← Hw1.out]
  refine wpIn_rangeFunc_ownF rfl (by decide) (gf := 26) (lb := #[.pointer (some ⟨B, 0, none⟩)]) rfl trivial (enters_of Try.func26 (by kernel_rfl) rfl) HSQ belowK_t (belowK_b hB1.size) hB1 (fun _ => rfl)
    (fun (pre : List Int) W => (∃ u, Boxed W w.heap.size 22 u ∧ W.ownsRow w1.heap.size 3 1 u pre.length (pre.map (Value.int .i64)) ∧ True) ∧ w1.heap.size ≤ W.heap.size ∧ Below w.heap.size w W)
    (fun _ _ _ => False)
    (OwnFrom.and (Own.from (holdsRow_own w1.heap.size w.heap.size 22 3 1 (fun pre : List Int => pre.length) (fun pre : List Int => pre.map (Value.int .i64)) (fun _ _ => True)) _) (OwnFrom.and ownFrom_size (ownFrom_below (Nat.le_refl _) (by omega))))
    (fun _ _ _ _ _ h _ _ => h)
    ⟨⟨_, hob, World.ownsRow_nil _ _ _ _, trivial⟩, Nat.le_refl _, hB1⟩
    (fun x => { tmps := #[.slice none 0 0, .func (.func 26) #[] #[.pointer (some ⟨B, 0, none⟩)], .pointer (some ⟨w.heap.size, 0, none⟩), undef, .slice none 0 0, .int .i64 x, .func (.func 26) #[] #[.pointer (some ⟨B, 0, none⟩)], .int .i64 x, undef, undef, undef, undef, undef], defers := [] }) ?assign ?body ?done ?stop
  case assign =>
    intro l x W K hK
    simp only [enI]
    gi_wp2
    exact hK
  case stop => intro D c pre W _ _ h; exact h.elim
  case done =>
    rintro D xs W hD rfl ⟨⟨u, hu, hrow, _⟩, hsz, hbw⟩ hK
    have hc := hu.cell
    gi_wp2
    refine ⟨by simp, .inl ⟨_, _, rfl, run_takeDeferred hK, ?_⟩⟩
    exact ⟨_, results_tmp rfl _ _ _, ⟨u, rfl, ownsRow_putObj (ownsRow_base hrow hB1.size) _ hK rfl⟩, hbw.trans (belowK_b (w := w) (Nat.le_refl _) W D _ _ (by omega) hK rfl rfl)⟩
  case body =>
    rintro l pre x W ⟨⟨u, hu, hrow, _⟩, hsz, hbw⟩ hlen
    obtain ⟨a', c', rfl⟩ : ∃ a' c', u = .slice a' pre.length c' := by
      rcases hrow.2 with ⟨rfl, h0⟩ | ⟨g, c, cur, rfl, _⟩
      · exact ⟨none, 0, by rw [h0]⟩
      · exact ⟨_, c, rfl⟩
    have hoc := hu.cell
    have hsn : (pre ++ [x]).map (Value.int .i64) = pre.map (Value.int .i64) ++ [.int .i64 x] := by simp
    have hln : (pre ++ [x]).length = pre.length + 1 := by simp
    obtain ⟨k, Hk⟩ : ∃ k, Hid (pre.length = k) := ⟨_, rfl⟩
    rw [Hk.out] at hu hrow hoc hlen hln
    have hb5 := balloc W (.cells #[.int .i64 x] 3)
    have hrow5 := hrow.alloc (.cells #[.int .i64 x] 3)
    have hnew : ∀ j v, ([.int .i64 x] : List Value)[j]? = some v → (W.alloc (.cells #[.int .i64 x] 3)).cell? ((⟨W.heap.size, 0, none⟩ : Addr).add j) = some v := fun j v hv => by
      match j, hv with
      | 0, hv => simp at hv; subst hv; simp [Addr.add]
    clear HSQ
    gi_wp2_with (first
      | (gi_at_builtin; refine wpListIn_append_own _ rfl _ _ 22 rfl w1.heap.size 3 i3 (.int .i64 0) 1 8 und22 ki3 kz0 kz1 kz2 rfl (by decide) (.slice a' k c') k (pre.map (Value.int .i64)) rfl hrow5 ⟨W.heap.size, 0, none⟩ 1 1 [.int .i64 x] rfl rfl hnew (by intro u hu; simp at hu; subst hu; rfl) (by unfold maxLen; omega) (by omega) (by simp; omega) ?_; intro v' w2 hown' hgrow _; obtain ⟨g2, cap2, rfl⟩ := ownsRow_succ hown'; obtain ⟨f1, f2, f3, f4, f6⟩ := appFacts (lo := w.heap.size) (by decide) hu hrow hb5 hsz ⟨Nat.le_refl _, hB1.size⟩ hown' hgrow; have f1c := f1.cell; have f1f := f1.frozen)
      | gi_in)
    refine ⟨f4, f6, ⟨_, f2, ?_, trivial⟩, ?_, hbw.trans f6⟩
    · rw [hsn, hln]
      exact f3
    · have h9 := Nat.le_trans hsz f4.size
      simpa using h9
set_option maxRecDepth 100000 in
set_option maxHeartbeats 1000000 in
theorem Collect_any (B : Nat) (zs : List Int) (v : Value) (w : World) (hB : w.heap[B]? = some (.cells #[v] 22 (0, 0))) (hv : Sl w v zs) (hl : zs.length ≤ 99) :
    Calls Try.prog 24 #[.func (.func 26) #[] #[.pointer (some ⟨B, 0, none⟩)]] w fun e w' => (∃ u, e = .returned u ∧ w'.ownsRow w.heap.size 3 1 u zs.length (zs.map (Value.int .i64))) ∧ Below w.heap.size w w' := by
  have C := AppendSeq_any B zs v w hB hv hl
  clear hB hv
  go_enter Try.func24, Try.ntmps24
  go_wp2_with (go_at_call 28; refine C.mono ?_; rintro e w1 ⟨⟨u, rfl, h1⟩, b1⟩)
  go_ret
  exact ⟨⟨_, rfl, h1⟩, b1⟩
/-- A list of numbers in order. -/
def ordZ (zs : List Int) : List Int := zs.mergeSort fun x y => decide (x ≤ y)
theorem ordZ_perm (zs : List Int) : (ordZ zs).Perm zs := List.mergeSort_perm _ _
theorem ordZ_le (zs : List Int) : (ordZ zs).Pairwise (· ≤ ·) := by
  have := List.pairwise_mergeSort (le := fun x y : Int => decide (x ≤ y)) (fun a b c h1 h2 => by simp at h1 h2 ⊢; omega) (fun a b => by simp; omega) zs
  exact this.imp fun h => of_decide_eq_true h
/-- The library's Sort of a row of one's own. -/
theorem Sort_own (zs : List Int) (u : Value) (k : Nat) (w : World) (base : Nat) (h : w.ownsRow base 3 1 u k (zs.map (Value.int .i64))) (h0 : 0 < k) (hl : k ≤ 99) (hbase : base ≤ w.heap.size) :
    Calls Try.prog 25 #[u] w fun e w' => e = .returned (.tuple #[]) ∧ w'.ownsRow base 3 1 u k ((ordZ zs).map (Value.int .i64)) ∧ Below base w w' := by
  obtain ⟨h1, ⟨_, hz⟩ | ⟨g, cap, cur, rfl, hg, hgb, hc, hcm, hcs, ht⟩⟩ := h
  · omega
  · have hzl : zs.length = k := by simpa using h1
    rw [← hzl] at hc ht ⊢
    have hH := holds_of_blockI (ss := zs) hgb (by simpa using ht)
    have hgl : g < w.heap.size := (Array.getElem?_eq_some_iff.1 hgb).1
    have C := Any.slices_Sort_int sortI g 0 cap zs w hH hgl (by omega)
    change Calls Try.prog 25 _ _ _ at C
    refine C.mono ?_
    rintro e w' ⟨rfl, n, os, rfl⟩
    refine ⟨rfl, ?_, ?_⟩
    · exact ownsRow_sortedI (base := base) (n := n) (os := os) (cap := cap) (ss := zs) (ts := ordZ zs) (ordZ_perm zs).length_eq hg hgb hc hcm hcs
    · exact (Below.refl base w).grown (grownBy_sortedI _) hbase (fun k hk => by cases hk; exact hg)
set_option maxRecDepth 100000 in
set_option maxHeartbeats 1000000 in
theorem Sorted_any (B : Nat) (zs : List Int) (v : Value) (w : World) (hB : w.heap[B]? = some (.cells #[v] 22 (0, 0))) (hv : Sl w v zs) (h0 : 0 < zs.length) (hl : zs.length ≤ 99) :
    Calls Try.prog 19 #[.func (.func 26) #[] #[.pointer (some ⟨B, 0, none⟩)]] w fun e w' => (∃ u, e = .returned u ∧ w'.ownsRow w.heap.size 3 1 u zs.length ((ordZ zs).map (Value.int .i64))) ∧ Below w.heap.size w w' := by
  have C := Collect_any B zs v w hB hv hl
  clear hB hv
  go_enter Try.func19, Try.ntmps19
  go_wp2_with (first
    | (go_at_call 24; refine C.mono ?_; rintro e w1 ⟨⟨u, rfl, h1⟩, b1⟩; clear C; have C2 := Sort_own zs u zs.length w1 w.heap.size h1 h0 hl b1.size)
    | (go_at_call 25; refine C2.mono ?_; rintro e w2 ⟨rfl, h2, b2⟩; clear C2))
  go_ret
  exact ⟨⟨_, rfl, h2⟩, b1.trans b2⟩
end Go.Proofs.Ytgkfddcmngodgab
