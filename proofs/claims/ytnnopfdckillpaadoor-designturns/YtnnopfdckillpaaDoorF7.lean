/- The walk of lying: of each point the blocks that have it. -/
import Derived.Test.YtnnopfdckillpaaDoorF6
namespace Go.Proofs.YtnnopfdckillpaaDoor
open Go.RowKit Go.Shelf

attribute [local go_sem] Oper.semAt_some

theorem undS2 : Tryd.prog.underlying 42 = some (.slice 46) := by kernel_rfl
theorem run_makeS (n : Nat) (hn : n ≤ 100000) (w : World) : (Instr.makeSlice 42 (.int .i64 (n : Int)) (.int .i64 (n : Int))).run Tryd.prog w = .ok (.slice (some ⟨w.heap.size, 0, none⟩) n n) (w.alloc (.cells (madeCells #[.int .u64 0] n) 46)) := by
  obtain ⟨i4, hi, hz0, hz1, hz2⟩ := infoS
  have h := run_make (P := Tryd.prog) w 42 46 i4 (.int .u64 0) undS2 hi hz0 .i64 .i64 n n (by omega) (by omega) (by rw [hz2]; omega) (by omega)
  simpa [hz1, Value.cells] using h
theorem owns_new (w : World) (n : Nat) : OwnS (w.alloc (.cells (madeCells #[.int .u64 0] n) 46)) w.heap.size n (fun _ => 0) := by
  refine ⟨_, heap_alloc_new w _, fun j hj => ?_⟩
  rw [Array.getElem?_eq_getElem (by rw [size_madeCells]; exact hj)]
  simp [madeCells, Nat.mod_one]
/-- The blocks, of the first i, that have a point. -/
def lyN (S : List Nat) (i x : Nat) : Nat := sb ((List.range i).filter fun j => (S.getD j 0).testBit x)
theorem ly_zero (S : List Nat) (x : Nat) : lyN S 0 x = 0 := rfl
theorem ly_succ (S : List Nat) (i x : Nat) : lyN S (i + 1) x = if (S.getD i 0).testBit x = true then lyN S i x ||| 2 ^ i else lyN S i x := by
  unfold lyN
  rw [List.range_succ, List.filter_append]
  by_cases h : (S.getD i 0).testBit x = true
  · rw [if_pos h]
    have : [i].filter (fun j => (S.getD j 0).testBit x) = [i] := by simp only [List.filter_cons, h, if_true, List.filter_nil]
    rw [this, sb_snoc]
  · rw [if_neg h]
    have : [i].filter (fun j => (S.getD j 0).testBit x) = [] := by simp only [List.filter_cons, h, List.filter_nil]; rfl
    rw [this, List.append_nil]
theorem ly_lt (S : List Nat) (i x : Nat) : lyN S i x < 2 ^ i := sb_lt fun _ hj => List.mem_range.1 (List.mem_filter.1 hj).1
/-- In the midst of a block. -/
def lyM (S : List Nat) (i k x : Nat) : Nat := if ((pts (S.getD i 0)).take k).contains x = true then lyN S i x ||| 2 ^ i else lyN S i x
theorem lyM_zero (S : List Nat) (i x : Nat) : lyM S i 0 x = lyN S i x := by unfold lyM; rw [List.take_zero, if_neg (by simp)]
theorem lyM_all {S : List Nat} {i x : Nat} (h : S.getD i 0 < 2 ^ 64) : lyM S i (pts (S.getD i 0)).length x = lyN S (i + 1) x := by
  unfold lyM
  rw [List.take_of_length_le (Nat.le_refl _), ly_succ]
  have : (pts (S.getD i 0)).contains x = (S.getD i 0).testBit x := by rw [Bool.eq_iff_iff, List.contains_iff_mem, pts_mem' h]
  rw [this]
theorem lyM_succ {S : List Nat} {i k x : Nat} (h : (pts (S.getD i 0))[k]? = some x) (z : Nat) : lyM S i (k + 1) z = if z = x then lyM S i k x ||| 2 ^ i else lyM S i k z := by
  have hn : ¬ ((pts (S.getD i 0)).take k).contains x = true := by
    rw [List.contains_iff_mem]
    intro hm
    obtain ⟨j, hj, e⟩ := List.mem_iff_getElem?.1 hm |>.imp fun j hj => (⟨(List.getElem?_eq_some_iff.1 hj).1, hj⟩ : _ ∧ _)
    rw [List.length_take] at hj
    rw [List.getElem?_take, if_pos (by omega)] at e
    have hp := pts_rise (S.getD i 0)
    have h1 := (List.getElem?_eq_some_iff.1 e)
    have h2 := (List.getElem?_eq_some_iff.1 h)
    have := List.pairwise_iff_getElem.1 hp j k h1.1 h2.1 (by omega)
    rw [h1.2, h2.2] at this
    omega
  have e : (pts (S.getD i 0)).take (k + 1) = (pts (S.getD i 0)).take k ++ [x] := by rw [List.take_add_one, h]; rfl
  unfold lyM
  rw [e, if_neg hn]
  by_cases hz : z = x
  · subst hz
    rw [if_pos rfl, if_pos (by simp)]
  · rw [if_neg hz]
    have : ((pts (S.getD i 0)).take k ++ [x]).contains z = ((pts (S.getD i 0)).take k).contains z := by
      rw [Bool.eq_iff_iff]
      simp only [List.contains_iff_mem, List.mem_append, List.mem_singleton, hz, or_false]
    rw [this]
theorem lyM_lt (S : List Nat) (i k x : Nat) : lyM S i k x < 2 ^ (i + 1) := by
  have h1 := ly_lt S i x
  have h2 : 2 ^ i < 2 ^ (i + 1) := pow_lt64 (by omega)
  unfold lyM
  split
  · exact Nat.or_lt_two_pow (by omega) h2
  · omega
/-- What lying holds. -/
structure LyI (w : World) (v : Nat) (f : Nat → Nat) (rs : List Nat) (A : World) : Prop where
  o : OwnS A w.heap.size v f
  b : Boxed A (w.heap.size + 1) 42 (.slice (some ⟨w.heap.size, 0, none⟩) v v)
  nd : rs.Nodup
  mks : ∀ q ∈ rs, w.heap.size + 2 ≤ q ∧ A.heap[q]? = some (.deferred (some []))
  bw : Below w.heap.size w A
theorem LyI.size {w : World} {v : Nat} {f : Nat → Nat} {rs : List Nat} {A : World} (h : LyI w v f rs A) : w.heap.size + 2 ≤ A.heap.size := h.b.lt
theorem LyI.below {w : World} {v : Nat} {f : Nat → Nat} {rs : List Nat} {A B : World} (h : LyI w v f rs A) (b : Below A.heap.size A B) : LyI w v f rs B := by
  have hs := h.size
  obtain ⟨cur, h1, h2⟩ := id h.o
  exact ⟨⟨cur, (b.block _ h.o.lt).trans h1, h2⟩, boxBelow h.b b h.b.lt, h.nd, fun q hq => ⟨(h.mks q hq).1, (b.block _ (Array.getElem?_eq_some_iff.1 (h.mks q hq).2).1).trans (h.mks q hq).2⟩, h.bw.trans (b.mono (by omega))⟩
theorem LyI.put {w : World} {v : Nat} {f : Nat → Nat} {rs : List Nat} {A : World} (h : LyI w v f rs A) {l : Nat} (o' : Obj) (hl : w.heap.size + 2 ≤ l) (hr : l ∉ rs) : LyI w v f rs (A.putObj l o') := by
  obtain ⟨cur, h1, h2⟩ := id h.o
  exact ⟨⟨cur, (World.putObj_heap_other (by omega)).trans h1, h2⟩, boxAt h.b (World.putObj_heap_other (by omega)), h.nd, fun q hq => ⟨(h.mks q hq).1, (World.putObj_heap_other (show q ≠ l from fun e => hr (e ▸ hq))).trans (h.mks q hq).2⟩, h.bw.trans (below_put _ _ (by omega))⟩
theorem LyI.set {w : World} {v : Nat} {f : Nat → Nat} {rs : List Nat} {A : World} (h : LyI w v f rs A) (x r : Nat) : LyI w v (updS f x r) rs (A.setCell ⟨w.heap.size, x, none⟩ (.int .u64 (r : Int))) :=
  ⟨h.o.set x r, boxAt h.b (heap_setCell_other A ⟨w.heap.size, x, none⟩ _ _ (by show _ ≠ w.heap.size; omega)), h.nd, fun q hq => ⟨(h.mks q hq).1, (heap_setCell_other A ⟨w.heap.size, x, none⟩ _ _ (by show q ≠ w.heap.size; have := (h.mks q hq).1; omega)).trans (h.mks q hq).2⟩, h.bw.setCell (p := ⟨w.heap.size, x, none⟩) (Nat.le_refl _) _⟩
theorem LyI.congr {w : World} {v : Nat} {f f' : Nat → Nat} {rs : List Nat} {A : World} (h : LyI w v f rs A) (e : ∀ j, j < v → f j = f' j) : LyI w v f' rs A := ⟨h.o.congr e, h.b, h.nd, h.mks, h.bw⟩

set_option maxRecDepth 100000 in
set_option maxHeartbeats 16000000 in
theorem lying_any (v : Nat) (S : List Nat) (u : Value) (w : World) (hT : Tab w) (hu : SC w u S) (hv : v ≤ 40) (hl : S.length ≤ 40) (hS : ∀ x ∈ S, x < 2 ^ v) :
    Calls Tryd.prog 28 #[.int .i64 (v : Int), u] w fun e w' => ∃ x, e = .returned x ∧ SC w' x ((List.range v).map (lyN S S.length)) ∧ Below w.heap.size w w' := by
  refine (callsIn_wide (n := 4)).1 ?_
  obtain ⟨a, cap, rfl, hcap, hcm, hc⟩ := hu
  have HC : Hid (∀ j, j < S.length → ∃ g off, a = some ⟨g, off, none⟩ ∧ ∀ W, Below w.heap.size w W → W.cell? ⟨g, off + j, none⟩ = some (.int .u64 ((S.getD j 0 : Nat) : Int))) := hc
  have HS : Hid (∀ j, j < S.length → S.getD j 0 < 2 ^ v) := fun j hj => hS _ (getD_in hj)
  have HTab : Hid (Tab w) := hT
  generalize hn : S.length = n at *
  have hmk : ∀ w : World, (Instr.makeSlice 42 (.int .i64 (v : Int)) (.int .i64 (v : Int))).run Tryd.prog w = .ok (.slice (some ⟨w.heap.size, 0, none⟩) v v) (w.alloc (.cells (madeCells #[.int .u64 0] v) 46)) := fun w => run_makeS v (by omega) w
  have A0 : LyI w v (lyN S 0) [] ((w.alloc (.cells (madeCells #[.int .u64 0] v) 46)).alloc (.cells #[.slice (some ⟨w.heap.size, 0, none⟩) v v] 42)) := by
    have f1 := Boxed.new (w.alloc (.cells (madeCells #[.int .u64 0] v) 46)) 42 (.slice (some ⟨w.heap.size, 0, none⟩) v v)
    rw [World.size_alloc] at f1
    obtain ⟨cur, h1, h2⟩ := owns_new w v
    exact ⟨⟨cur, (Below.heap_alloc _ _ _ (by simp)).trans h1, h2⟩, f1, List.nodup_nil, fun q hq => by simp at hq, (balloc w _).alloc (by simp) _⟩
  have HA0 : Hid (LyI w v (lyN S 0) [] ((w.alloc (.cells (madeCells #[.int .u64 0] v) 46)).alloc (.cells #[.slice (some ⟨w.heap.size, 0, none⟩) v v] 42))) := A0
  have hfin : Hid (∀ W, OwnS W w.heap.size v (lyN S n) → SC W (.slice (some ⟨w.heap.size, 0, none⟩) v v) ((List.range v).map (lyN S n))) := fun W h => by
    have := OwnS.sc (w := W) (g := w.heap.size) (cap := v) (S := (List.range v).map (lyN S n)) (by
      rw [List.length_map, List.length_range]
      exact h.congr fun j hj => by simp [hj]) (by simp) (by unfold maxLen; omega)
    rwa [List.length_map, List.length_range] at this
  clear hc hS hT hcap hcm A0
  refine callsIn_of_wp_marks Tryd.func28 rfl trivial ?_ rfl
  simp only [Tryd.ntmps28, List.size_toArray, List.length_cons, List.length_nil, Nat.reduceAdd, Nat.reduceSub, Array.replicate_succ, Array.replicate_zero, List.push_toArray, List.append_toArray, List.nil_append, List.cons_append]
  gi_wp2
  refine wpIn_loop (fun act A => ∃ (u6 u7 u8 u14 u15 u16 u17 u18 u19 u20 u21 u22 u23 u24 u25 u26 u27 u28 u29 : Value) (i : Nat) (rs : List Nat), act = { tmps := #[.int .i64 (v : Int), .slice a n cap, undef, undef, .slice none 0 0, .pointer (some ⟨w.heap.size + 1, 0, none⟩), u6, u7, u8, .int .i64 (v : Int), .slice (some ⟨w.heap.size, 0, none⟩) v v, .slice a n cap, .int .i64 (n : Int), .int .i64 (i : Int), u14, u15, u16, u17, u18, u19, u20, u21, u22, u23, u24, u25, u26, u27, u28, u29, undef], defers := rs.map markOf } ∧ i ≤ n ∧ LyI w v (lyN S i) rs A) (fun act A => n - (intOf (act.tmps.getD 13 undef)).toNat) ?start ?round
  case start => exact ⟨undef, undef, undef, undef, undef, undef, undef, undef, undef, undef, undef, undef, undef, undef, undef, undef, undef, undef, undef, 0, [], rfl, by omega, HA0.out⟩
  case round =>
    clear HA0
    rintro act A ⟨u6, u7, u8, u14, u15, u16, u17, u18, u19, u20, u21, u22, u23, u24, u25, u26, u27, u28, u29, i, rs, rfl, hi, hA⟩
    have hpos : 0 < w.heap.size := HTab.out.pos
    have hsz := hA.size
    by_cases hlt : i < n
    · have hd : decide ((i : Int) < (n : Int)) = true := by simp; omega
      have hii : (i : Int) < (n : Int) := by omega
      obtain ⟨g, off, rfl, hci0⟩ := HC.out i hlt
      have hci := hci0 A hA.bw
      have hyS := HS.out i hlt
      have hpv : (2 : Nat) ^ v ≤ 2 ^ 40 := Nat.pow_le_pow_right (by decide) hv
      have HMS : Hid (∀ k x, (pts (S.getD i 0))[k]? = some x → ∀ z, lyM S i (k + 1) z = if z = x then lyM S i k x ||| 2 ^ i else lyM S i k z) := fun k x h z => lyM_succ h z
      have HMA : Hid (∀ x, lyM S i (pts (S.getD i 0)).length x = lyN S (i + 1) x) := fun x => lyM_all (by omega)
      obtain ⟨y, Hy⟩ : ∃ y, Hid (S.getD i 0 = y) := ⟨_, rfl⟩
      rw [Hy.out] at hci hyS HMS HMA
      have b1 := balloc A (.cells #[.int .i64 (i : Int)] 3)
      have f8 : Boxed (A.alloc (.cells #[.int .i64 (i : Int)] 3)) A.heap.size 3 (.int .i64 (i : Int)) := Boxed.new A 3 _
      obtain ⟨w1, Hw1⟩ : ∃ w1, Hid (w1 = A.alloc (.cells #[.int .i64 (i : Int)] 3)) := ⟨_, rfl⟩
      have CP := points_any y w1
      have s1 : w1.heap.size = A.heap.size + 1 := by rw [Hw1.out]; simp
      rw [← Hw1.out] at f8 b1
      rw [s1] at CP
      have HS1 : Hid (w1.heap.size = A.heap.size + 1) := s1
      have HA : Hid (LyI w v (lyN S i) rs A) := hA
      clear s1 hci0 hA
      gi_wp2_with (refine ⟨trivial, ?_⟩; rw [← Hw1.out]; refine (callsIn_wide.2 CP).mono ?_; rintro e w2 ⟨rfl, hw2⟩)
      have s1 := HS1.out
      have b2 := balloc w1 (.cells #[.int .u64 (y : Int)] 46)
      have f9 := Boxed.new w1 46 (.int .u64 (y : Int))
      have s2 : (w1.alloc (.cells #[.int .u64 (y : Int)] 46)).heap.size = w1.heap.size + 1 := by simp
      rw [← hw2] at b2 f9 s2
      rw [s1] at f9
      have hAb : Below A.heap.size A w2 := b1.trans (b2.mono (by omega))
      have hT2 : Tab w2 := (HTab.out.next HA.out.bw).next hAb
      have hrs : ∀ l, A.heap.size ≤ l → l ∉ rs := fun l hl hm => by
        have := (Array.getElem?_eq_some_iff.1 (HA.out.mks l hm).2).1
        omega
      rw [← hw2]
      clear hw2 CP
      refine wpIn_runs2 (ys := pts y) (enc := encI) (Kp := KT) (Ab := AbN) (gf := 52) (lb := #[.pointer (some ⟨A.heap.size + 1, 0, none⟩)]) rfl (enters_of Tryd.func52 (by kernel_rfl) rfl)
        (points_runs y _ (A.heap.size + 1) w2 (by omega) hT2 f9) (fun _ => rfl) (fun h k => k.trans h) ?hKb (fun _ _ _ _ _ h => h.elim)
        (fun k B => LyI w v (lyM S i k) rs B ∧ Boxed B A.heap.size 3 (.int .i64 (i : Int)) ∧ w2.heap.size ≤ B.heap.size) (fun _ _ => False) ?hIp (fun _ _ _ _ h => h.elim) (fun _ _ _ _ _ _ _ h => h.elim) (fun _ _ _ _ h => h.elim) ?h0
        (fun x => { tmps := #[.int .i64 (v : Int), .slice (some ⟨g, off, none⟩) n cap, undef, undef, .slice none 0 0, .pointer (some ⟨w.heap.size + 1, 0, none⟩), .pointer (some ⟨A.heap.size, 0, none⟩), .int .u64 (y : Int), .int .i64 (x : Int), .int .i64 (v : Int), .slice (some ⟨w.heap.size, 0, none⟩) v v, .slice (some ⟨g, off, none⟩) n cap, .int .i64 (n : Int), .int .i64 (i : Int), .bool true, .int .i64 (i : Int), .pointer (some ⟨g, off + i, none⟩), .int .u64 (y : Int), .int .u64 (y : Int), .func (.func 52) #[] #[.pointer (some ⟨A.heap.size + 1, 0, none⟩)], .int .i64 (x : Int), u21, u22, u23, u24, u25, u26, u27, u28, u29, undef], defers := [] }) ?assign ?body ?done (fun _ _ h => h.elim)
      case hKb =>
        intro B o hB
        exact World.putObj_heap_other (by omega)
      case hIp =>
        rintro k B o o' ⟨g1, g2, g3⟩ _ _
        exact ⟨g1.put _ (by omega) (hrs _ (by omega)), boxAt g2 (World.putObj_heap_other (by omega)), by simpa [World.putObj] using g3⟩
      case h0 =>
        intro V hb
        exact ⟨((HA.out.below hAb).below hb).congr fun j _ => (lyM_zero S i j).symm, boxBelow (boxBelow f8 b2 (by omega)) hb (by omega), hb.size⟩
      case assign =>
        clear s1 s2
        intro l x W K _ hK
        unfold encI
        gi_wp2
        exact hK
      case body =>
        rintro k x B hx ⟨g1, g2, g3⟩ hD hrec
        have hxv : x < v := by
          have hm := pts_mem.1 (List.mem_of_getElem? hx)
          rcases Nat.lt_or_ge x v with h | h
          · exact h
          · rw [testBit_high hyS h] at hm; cases hm.2
        have hxi : (x : Int) < (v : Int) := by omega
        have q5 := g1.b.cell
        have q6 := g2.cell
        have qo := g1.o.cell x hxv
        have fo := g1.o.frozen x
        have hM1 := lyM_lt S i k x
        have hi41 : (2 : Nat) ^ (i + 1) ≤ 2 ^ 41 := Nat.pow_le_pow_right (by decide) (by omega)
        have hpi : 2 ^ i < 2 ^ 64 := pow_lt64 (by omega)
        have hor : bits .or .u64 ((lyM S i k x : Nat) : Int) ((2 ^ i : Nat) : Int) = ((lyM S i k x ||| 2 ^ i : Nat) : Int) := orN (by omega) hpi
        have CO : Hid (∀ W, Calls Tryd.prog 29 #[.int .i64 (i : Int)] W fun e w' => e = .returned (.int .u64 ((2 ^ i : Nat) : Int)) ∧ w' = W) := fun W => only_any i (by omega) W
        obtain ⟨r, Hr⟩ : ∃ r, Hid (lyM S i k x ||| 2 ^ i = r) := ⟨_, rfl⟩
        have HF : Hid (∀ C, C = B.drew.setCell ⟨w.heap.size, x, none⟩ (.int .u64 (r : Int)) → (C.heap[w2.heap.size]? = B.heap[w2.heap.size]? ∧ C.heap[w2.heap.size + 1]? = B.heap[w2.heap.size + 1]?) ∧ KT (w2.heap.size + 1) B C ∧ LyI w v (lyM S i (k + 1)) rs C ∧ Boxed C A.heap.size 3 (.int .i64 (i : Int)) ∧ w2.heap.size ≤ C.heap.size) := by
          rintro C rfl
          have oth : ∀ b, b ≠ w.heap.size → (B.drew.setCell ⟨w.heap.size, x, none⟩ (.int .u64 (r : Int))).heap[b]? = B.heap[b]? := fun b hb => heap_setCell_other B.drew ⟨w.heap.size, x, none⟩ b _ hb
          have gd : LyI w v (lyM S i k) rs B.drew := g1.below (bdrewN (Below.refl _ _) 1)
          refine ⟨⟨oth _ (by omega), oth _ (by omega)⟩, oth 0 (by omega), (gd.set x r).congr fun j _ => ?_, boxAt g2 (oth _ (by omega)), by rw [World.size_setCell]; exact g3⟩
          rw [HMS.out k x hx j, ← Hr.out]
          rfl
        rw [Hr.out] at hor
        obtain ⟨m, Hm⟩ : ∃ m, Hid (lyM S i k x = m) := ⟨_, rfl⟩
        rw [Hm.out] at hor qo
        obtain ⟨q, Hq⟩ : ∃ q, Hid (2 ^ i = q) := ⟨_, (rfl : 2 ^ i = 2 ^ i)⟩
        rw [Hq.out] at hor CO
        clear hrec hx hM1 hi41 hpi s1 s2 hpv
        gi_wp2
        refine wpIn_region_any (by kernel_rfl) (wpAnyIn_round (w2.heap.size + 1) (fun i o h c e => by revert h; revert i; intro i h; have hm := Array.mem_of_getElem? h; simp at hm; rcases hm with rfl | rfl | rfl | rfl | rfl | rfl | rfl | rfl | rfl <;> cases e) _ _ _ _ rfl ?_)
        try (change wpAnyIn _ _ _ _ _ _ _ _ _ (World.drew _))
        refine wpAnyIn_take (i := 1) (v := .int .i64 (x : Int)) rfl rfl (by kernel_rfl) (by kernel_rfl) (by kernel_rfl) (by intro _ _ _ h; first | exact h | cases h.1) ⟨Or.inl ⟨by rfl, fun w => by go_simp⟩, fun _ => rfl⟩ ?_
        refine wpAnyIn_ready (rs := [0, 4]) (by kernel_rfl) (by simp) (AllReadyIn.cons rfl (fun K hK => ?_) (AllReadyIn.cons rfl (fun K hK => ?_) AllReadyIn.nil))
        · go_simp
          refine hK _ _ ?_
          clear hK K
          refine wpAnyIn_take (i := 2) (v := .pointer (some ⟨w.heap.size, x, none⟩)) rfl rfl (by kernel_rfl) (by kernel_rfl) (by kernel_rfl) (by intro _ _ _ h; first | exact h | cases h.1) ⟨Or.inl ⟨by rfl, fun w => by go_simp⟩, fun _ => rfl⟩ ?_
          refine wpAnyIn_ready (rs := [3, 4]) (by kernel_rfl) (by simp) (AllReadyIn.cons rfl (fun K hK => ?_) (AllReadyIn.cons rfl (fun K hK => ?_) AllReadyIn.nil))
          · go_simp
            refine hK _ _ ?_
            clear hK K
            refine wpAnyIn_ready (rs := [4]) (by kernel_rfl) (by simp) (AllReadyIn.cons rfl (fun K hK => ?_) AllReadyIn.nil)
            go_simp
            refine hK _ _ ?_
            clear hK K
            refine wpAnyIn_ready (rs := [5]) (by kernel_rfl) (by simp) (AllReadyIn.cons rfl (fun K hK => ?_) AllReadyIn.nil)
            go_simp
            refine ⟨trivial, (callsIn_wide.2 (CO.out _)).mono ?_⟩
            rintro e C0 ⟨rfl, hC0⟩
            subst hC0
            refine hK _ _ ?_
            clear hK K
            refine wpAnyIn_take (i := 6) (v := .int .u64 (r : Int)) rfl rfl (by kernel_rfl) (by kernel_rfl) (by kernel_rfl) (by intro _ _ _ h; first | exact h | cases h.1) ⟨Or.inl ⟨by rfl, fun w => by go_simp⟩, fun _ => rfl⟩ ?_
            refine wpAnyIn_take (i := 7) (v := .pointer (some ⟨w.heap.size, x, none⟩)) rfl rfl (by kernel_rfl) (by kernel_rfl) (by kernel_rfl) (by intro _ _ _ h; first | exact h | cases h.1) ⟨Or.inl ⟨by rfl, fun w => by go_simp⟩, fun _ => rfl⟩ ?_
            refine wpAnyIn_ready (rs := [8]) (by kernel_rfl) (by simp) (AllReadyIn.cons rfl (fun K hK => ?_) AllReadyIn.nil)
            go_simp
            refine hK _ _ ?_
            clear hK K
            refine wpAnyIn_done (by kernel_rfl) ?_ _
            gi_wp2
            exact HF.out _ rfl
          · go_simp
            refine hK _ _ ?_
            clear hK K
            refine wpAnyIn_ready (rs := [3, 5]) (by kernel_rfl) (by simp) (AllReadyIn.cons rfl (fun K hK => ?_) (AllReadyIn.cons rfl (fun K hK => ?_) AllReadyIn.nil))
            · go_simp
              refine hK _ _ ?_
              clear hK K
              refine wpAnyIn_ready (rs := [5]) (by kernel_rfl) (by simp) (AllReadyIn.cons rfl (fun K hK => ?_) AllReadyIn.nil)
              go_simp
              refine ⟨trivial, (callsIn_wide.2 (CO.out _)).mono ?_⟩
              rintro e C0 ⟨rfl, hC0⟩
              subst hC0
              refine hK _ _ ?_
              clear hK K
              refine wpAnyIn_take (i := 6) (v := .int .u64 (r : Int)) rfl rfl (by kernel_rfl) (by kernel_rfl) (by kernel_rfl) (by intro _ _ _ h; first | exact h | cases h.1) ⟨Or.inl ⟨by rfl, fun w => by go_simp⟩, fun _ => rfl⟩ ?_
              refine wpAnyIn_take (i := 7) (v := .pointer (some ⟨w.heap.size, x, none⟩)) rfl rfl (by kernel_rfl) (by kernel_rfl) (by kernel_rfl) (by intro _ _ _ h; first | exact h | cases h.1) ⟨Or.inl ⟨by rfl, fun w => by go_simp⟩, fun _ => rfl⟩ ?_
              refine wpAnyIn_ready (rs := [8]) (by kernel_rfl) (by simp) (AllReadyIn.cons rfl (fun K hK => ?_) AllReadyIn.nil)
              go_simp
              refine hK _ _ ?_
              clear hK K
              refine wpAnyIn_done (by kernel_rfl) ?_ _
              gi_wp2
              exact HF.out _ rfl
            · go_simp
              refine ⟨trivial, (callsIn_wide.2 (CO.out _)).mono ?_⟩
              rintro e C0 ⟨rfl, hC0⟩
              subst hC0
              refine hK _ _ ?_
              clear hK K
              refine wpAnyIn_ready (rs := [3]) (by kernel_rfl) (by simp) (AllReadyIn.cons rfl (fun K hK => ?_) AllReadyIn.nil)
              go_simp
              refine hK _ _ ?_
              clear hK K
              refine wpAnyIn_take (i := 6) (v := .int .u64 (r : Int)) rfl rfl (by kernel_rfl) (by kernel_rfl) (by kernel_rfl) (by intro _ _ _ h; first | exact h | cases h.1) ⟨Or.inl ⟨by rfl, fun w => by go_simp⟩, fun _ => rfl⟩ ?_
              refine wpAnyIn_take (i := 7) (v := .pointer (some ⟨w.heap.size, x, none⟩)) rfl rfl (by kernel_rfl) (by kernel_rfl) (by kernel_rfl) (by intro _ _ _ h; first | exact h | cases h.1) ⟨Or.inl ⟨by rfl, fun w => by go_simp⟩, fun _ => rfl⟩ ?_
              refine wpAnyIn_ready (rs := [8]) (by kernel_rfl) (by simp) (AllReadyIn.cons rfl (fun K hK => ?_) AllReadyIn.nil)
              go_simp
              refine hK _ _ ?_
              clear hK K
              refine wpAnyIn_done (by kernel_rfl) ?_ _
              gi_wp2
              exact HF.out _ rfl
        · go_simp
          refine hK _ _ ?_
          clear hK K
          refine wpAnyIn_ready (rs := [0, 5]) (by kernel_rfl) (by simp) (AllReadyIn.cons rfl (fun K hK => ?_) (AllReadyIn.cons rfl (fun K hK => ?_) AllReadyIn.nil))
          · go_simp
            refine hK _ _ ?_
            clear hK K
            refine wpAnyIn_take (i := 2) (v := .pointer (some ⟨w.heap.size, x, none⟩)) rfl rfl (by kernel_rfl) (by kernel_rfl) (by kernel_rfl) (by intro _ _ _ h; first | exact h | cases h.1) ⟨Or.inl ⟨by rfl, fun w => by go_simp⟩, fun _ => rfl⟩ ?_
            refine wpAnyIn_ready (rs := [3, 5]) (by kernel_rfl) (by simp) (AllReadyIn.cons rfl (fun K hK => ?_) (AllReadyIn.cons rfl (fun K hK => ?_) AllReadyIn.nil))
            · go_simp
              refine hK _ _ ?_
              clear hK K
              refine wpAnyIn_ready (rs := [5]) (by kernel_rfl) (by simp) (AllReadyIn.cons rfl (fun K hK => ?_) AllReadyIn.nil)
              go_simp
              refine ⟨trivial, (callsIn_wide.2 (CO.out _)).mono ?_⟩
              rintro e C0 ⟨rfl, hC0⟩
              subst hC0
              refine hK _ _ ?_
              clear hK K
              refine wpAnyIn_take (i := 6) (v := .int .u64 (r : Int)) rfl rfl (by kernel_rfl) (by kernel_rfl) (by kernel_rfl) (by intro _ _ _ h; first | exact h | cases h.1) ⟨Or.inl ⟨by rfl, fun w => by go_simp⟩, fun _ => rfl⟩ ?_
              refine wpAnyIn_take (i := 7) (v := .pointer (some ⟨w.heap.size, x, none⟩)) rfl rfl (by kernel_rfl) (by kernel_rfl) (by kernel_rfl) (by intro _ _ _ h; first | exact h | cases h.1) ⟨Or.inl ⟨by rfl, fun w => by go_simp⟩, fun _ => rfl⟩ ?_
              refine wpAnyIn_ready (rs := [8]) (by kernel_rfl) (by simp) (AllReadyIn.cons rfl (fun K hK => ?_) AllReadyIn.nil)
              go_simp
              refine hK _ _ ?_
              clear hK K
              refine wpAnyIn_done (by kernel_rfl) ?_ _
              gi_wp2
              exact HF.out _ rfl
            · go_simp
              refine ⟨trivial, (callsIn_wide.2 (CO.out _)).mono ?_⟩
              rintro e C0 ⟨rfl, hC0⟩
              subst hC0
              refine hK _ _ ?_
              clear hK K
              refine wpAnyIn_ready (rs := [3]) (by kernel_rfl) (by simp) (AllReadyIn.cons rfl (fun K hK => ?_) AllReadyIn.nil)
              go_simp
              refine hK _ _ ?_
              clear hK K
              refine wpAnyIn_take (i := 6) (v := .int .u64 (r : Int)) rfl rfl (by kernel_rfl) (by kernel_rfl) (by kernel_rfl) (by intro _ _ _ h; first | exact h | cases h.1) ⟨Or.inl ⟨by rfl, fun w => by go_simp⟩, fun _ => rfl⟩ ?_
              refine wpAnyIn_take (i := 7) (v := .pointer (some ⟨w.heap.size, x, none⟩)) rfl rfl (by kernel_rfl) (by kernel_rfl) (by kernel_rfl) (by intro _ _ _ h; first | exact h | cases h.1) ⟨Or.inl ⟨by rfl, fun w => by go_simp⟩, fun _ => rfl⟩ ?_
              refine wpAnyIn_ready (rs := [8]) (by kernel_rfl) (by simp) (AllReadyIn.cons rfl (fun K hK => ?_) AllReadyIn.nil)
              go_simp
              refine hK _ _ ?_
              clear hK K
              refine wpAnyIn_done (by kernel_rfl) ?_ _
              gi_wp2
              exact HF.out _ rfl
          · go_simp
            refine ⟨trivial, (callsIn_wide.2 (CO.out _)).mono ?_⟩
            rintro e C0 ⟨rfl, hC0⟩
            subst hC0
            refine hK _ _ ?_
            clear hK K
            refine wpAnyIn_ready (rs := [0]) (by kernel_rfl) (by simp) (AllReadyIn.cons rfl (fun K hK => ?_) AllReadyIn.nil)
            go_simp
            refine hK _ _ ?_
            clear hK K
            refine wpAnyIn_take (i := 2) (v := .pointer (some ⟨w.heap.size, x, none⟩)) rfl rfl (by kernel_rfl) (by kernel_rfl) (by kernel_rfl) (by intro _ _ _ h; first | exact h | cases h.1) ⟨Or.inl ⟨by rfl, fun w => by go_simp⟩, fun _ => rfl⟩ ?_
            refine wpAnyIn_ready (rs := [3]) (by kernel_rfl) (by simp) (AllReadyIn.cons rfl (fun K hK => ?_) AllReadyIn.nil)
            go_simp
            refine hK _ _ ?_
            clear hK K
            refine wpAnyIn_take (i := 6) (v := .int .u64 (r : Int)) rfl rfl (by kernel_rfl) (by kernel_rfl) (by kernel_rfl) (by intro _ _ _ h; first | exact h | cases h.1) ⟨Or.inl ⟨by rfl, fun w => by go_simp⟩, fun _ => rfl⟩ ?_
            refine wpAnyIn_take (i := 7) (v := .pointer (some ⟨w.heap.size, x, none⟩)) rfl rfl (by kernel_rfl) (by kernel_rfl) (by kernel_rfl) (by intro _ _ _ h; first | exact h | cases h.1) ⟨Or.inl ⟨by rfl, fun w => by go_simp⟩, fun _ => rfl⟩ ?_
            refine wpAnyIn_ready (rs := [8]) (by kernel_rfl) (by simp) (AllReadyIn.cons rfl (fun K hK => ?_) AllReadyIn.nil)
            go_simp
            refine hK _ _ ?_
            clear hK K
            refine wpAnyIn_done (by kernel_rfl) ?_ _
            gi_wp2
            exact HF.out _ rfl
      case done =>
        rintro B ⟨g1, g2, g3⟩ hK
        have g4 : LyI w v (lyN S (i + 1)) rs B := g1.congr fun j _ => HMA.out j
        have n3 : LyI w v (lyN S (i + 1)) (w2.heap.size :: rs) B := ⟨g4.o, g4.b, List.nodup_cons.2 ⟨hrs _ (by omega), g4.nd⟩, fun q hq => by
          rcases List.mem_cons.1 hq with rfl | hq
          · exact ⟨by omega, hK⟩
          · exact g4.mks q hq, g4.bw⟩
        clear s1 s2 g1 g2 g3 g4
        gi_wp2
        refine ⟨⟨_, _, _, _, _, _, _, _, _, _, _, _, _, _, _, _, _, _, _, i + 1, w2.heap.size :: rs, rfl, by omega, n3⟩, ?_⟩
        show n - ((i : Int) + 1).toNat < n - ((i : Int)).toNat
        omega
    · have hd : decide ((i : Int) < (n : Int)) = false := by simp; omega
      obtain rfl : i = n := by omega
      have q5 := hA.b.cell
      gi_wp2
      refine marks_leave2 (m := w.heap.size + 2) rs A hA.nd hA.mks fun D hb hc => ?_
      refine ⟨_, results_tmp (t := 4) rfl _ _ _, .slice (some ⟨w.heap.size, 0, none⟩) v v, rfl, hfin.out D ?_, hA.bw.trans (hb.mono (by omega))⟩
      obtain ⟨cur, h1, h2⟩ := hA.o
      exact ⟨cur, hc.2 _ _ h1 rfl, h2⟩

end Go.Proofs.YtnnopfdckillpaaDoor
