/- The walks of without, has, first, points: the points of a set, one after another. -/
import Derived.Test.YtjfjdidibglhaabDoorE6
import Derived.Test.YtjfjdidibglhaabDoorRX
import Derived.RangeFuncBound
import Derived.RangeFuncCalls
import Derived.Shelf.Abstract
import Derived.Shelf.RegionOpen
import Derived.OwnWalkIn
import Derived.TacticsInMore
import Derived.LoopNIn
import Derived.LoopIn
import Derived.Stop.RegionWithIn
import Derived.Lib.TrailingZeros
import Derived.Shelf.Spec.TrailingZeros
/- The walk of choices: all sets of t of the first points, one after another. -/
namespace Go.Proofs.YtjfjdidibglhaabDoor
open Go.RowKit Go.Shelf

attribute [local go_sem] Oper.semAt_some

/-! ### The sets in their order -/
def chL : Nat → Nat → List Nat
  | 0, _ => [0]
  | t + 1, n => (List.range' t (n - t)).flatMap fun last => (chL t last).map fun s => s ||| 2 ^ last
def chC (t last : Nat) : Nat := ((List.range' t (last - t)).flatMap fun last => (chL t last).map fun s => s ||| 2 ^ last).length
theorem chC_succ {t last : Nat} (h : t ≤ last) : chC t (last + 1) = chC t last + (chL t last).length := by
  unfold chC
  rw [show last + 1 - t = (last - t) + 1 by omega, List.range'_concat, List.flatMap_append, List.length_append]
  congr 1
  simp [show t + (last - t) = last by omega]
theorem chL_len (t v : Nat) : (chL (t + 1) v).length = chC t v := rfl
theorem chC_zero (t : Nat) : chC t t = 0 := by unfold chC; simp
theorem chL_at {t last v i x : Nat} (h1 : t ≤ last) (h2 : last < v) (hx : (chL t last)[i]? = some x) : (chL (t + 1) v)[chC t last + i]? = some (x ||| 2 ^ last) := by
  have e : chL (t + 1) v = ((List.range' t (last - t)).flatMap fun last => (chL t last).map fun s => s ||| 2 ^ last) ++ (((chL t last).map fun s => s ||| 2 ^ last) ++ (List.range' (last + 1) (v - last - 1)).flatMap fun last => (chL t last).map fun s => s ||| 2 ^ last) := by
    show (List.range' t (v - t)).flatMap _ = _
    rw [show v - t = (last - t) + ((v - last - 1) + 1) by omega, ← List.range'_append, List.flatMap_append, Nat.one_mul, show t + (last - t) = last by omega, List.range'_succ, List.flatMap_cons]
  have hi := (List.getElem?_eq_some_iff.1 hx).1
  rw [e, List.getElem?_append_right (by unfold chC; omega)]
  have : chC t last + i - ((List.range' t (last - t)).flatMap fun last => (chL t last).map fun s => s ||| 2 ^ last).length = i := by unfold chC; omega
  rw [this, List.getElem?_append_left (by rw [List.length_map]; exact hi), List.getElem?_map, hx]
  rfl
theorem chL_lt : ∀ {t n : Nat} {s : Nat}, s ∈ chL t n → s < 2 ^ n
  | 0, n, s, h => by
    have : s = 0 := by simpa [chL] using h
    subst this
    exact Nat.two_pow_pos n
  | t + 1, n, s, h => by
    obtain ⟨last, h1, h2⟩ := List.mem_flatMap.1 h
    obtain ⟨x, h3, rfl⟩ := List.mem_map.1 h2
    have h4 := List.mem_range'_1.1 h1
    have h5 := chL_lt h3
    have h6 : last < n := by omega
    exact Nat.or_lt_two_pow (Nat.lt_of_lt_of_le h5 (Nat.pow_le_pow_right (by decide) (by omega))) (pow_lt64 h6)

def encS (s : Nat) : Array Value := #[.int .u64 (s : Int)]
def KS (bt bn l : Nat) (A B : World) : Prop := A.heap.size ≤ B.heap.size ∧ ∀ b, (b = bt ∨ b = bn ∨ l < b) → b < A.heap.size → B.heap[b]? = A.heap[b]?
theorem KS.trans {bt bn l : Nat} {A B C : World} (h : KS bt bn l A B) (k : KS bt bn l B C) : KS bt bn l A C := ⟨Nat.le_trans h.1 k.1, fun b hb hl => (k.2 b hb (Nat.lt_of_lt_of_le hl h.1)).trans (h.2 b hb hl)⟩
def AbO (W A B : World) : Prop := Below W.heap.size A B
theorem below_put {n l : Nat} (A : World) (o : Obj) (h : n ≤ l) : Below n A (A.putObj l o) := ⟨rfl, rfl, rfl, by simp [World.putObj], fun b hb => World.putObj_heap_other (by omega)⟩

theorem choices_any (v t : Nat) (w : World) :
    Calls Tryd.prog 79 #[.int .i64 (v : Int), .int .i64 (t : Int)] w fun e w' => e = .returned (.func (.func 111) #[] #[.pointer (some ⟨w.heap.size + 1, 0, none⟩), .pointer (some ⟨w.heap.size, 0, none⟩)]) ∧ w' = (w.alloc (.cells #[.int .i64 (v : Int)] 3)).alloc (.cells #[.int .i64 (t : Int)] 3) := by
  go_enter Tryd.func79, Tryd.ntmps79
  go_wp2
  go_ret
  exact ⟨rfl, rfl⟩

/-- In a round operations that defer nothing are carried out as everywhere. -/
theorem wpAnyIn_round {F : Fence} {n : Nat} {P : Program} {md : Region.Mode} {ops : Array Oper} {Q : Exit → Act → World → Prop} (l : Nat) (hd : ∀ (i : Nat) (o : Oper), ops[i]? = some o → ∀ c, o.op ≠ .defer c) :
    ∀ (fuel : Nat) (listed : Array Bool) (a : Act) (w : World), F.round = none → wpAnyIn F n P md ops Q fuel listed a w → wpAnyIn (F.inRound l) n P md ops Q fuel listed a w := by
  intro fuel
  induction fuel with
  | zero => intro listed a w _ h; exact h
  | succ fuel ih =>
    intro listed a w hro h
    refine ⟨h.1, fun i hi => ?_⟩
    have h2 := h.2 i hi
    unfold wpOpIn at h2 ⊢
    cases ho : ops[i]? with
    | none => rw [ho] at h2; exact ih _ _ _ hro h2
    | some o =>
      rw [ho] at h2
      simp only at h2 ⊢
      by_cases hw : Region.wanted o (yielded ops a.tmps) = true
      · rw [if_pos hw] at h2 ⊢
        have h3 := Oper.wpIn_mono (fun a w h => ih _ a w hro h) h2
        refine ⟨h3.1, ?_⟩
        have h4 := h3.2
        rw [Oper.semAt_eq _ _ _ (hd i o ho)] at h4 ⊢
        exact h4
      · rw [if_neg hw] at h2 ⊢
        exact ⟨h2.1, ih _ _ _ hro h2.2⟩
theorem wide_no {p : Prop} (h : Fence.wide.depth.isSome = true) : p := by cases h
theorem boxAt {W W' : World} {B : Nat} {t : TypeId} {v : Value} (h : Boxed W B t v) (hb : W'.heap[B]? = W.heap[B]?) : Boxed W' B t v := hb.trans h
theorem boxBelow {W W' : World} {B n : Nat} {t : TypeId} {v : Value} (h : Boxed W B t v) (hb : Below n W W') (hn : B < n) : Boxed W' B t v := boxAt h (hb.block B hn)
def markOf (r : Nat) : Deferred := { target := .collected r, args := #[] }

set_option maxHeartbeats 2000000 in
theorem ch_zero (v n bt bn : Nat) (w : World) (h1 : Boxed w bt 3 (.int .i64 ((0 : Nat) : Int))) : Runs n Tryd.prog 111 #[.pointer (some ⟨bt, 0, none⟩), .pointer (some ⟨bn, 0, none⟩)] (chL 0 v) encS (KS bt bn) AbO w := by
  intro l J Jx W hbW hl1 hl2 hJ hJx hY hJ0
  have c1 : Boxed W bt 3 _ := boxBelow h1 hbW h1.lt
  have bA : Below W.heap.size W (W.alloc (.cells #[.func (.yield l) #[] #[]] 144)) := balloc W _
  have c2 := Boxed.cell (boxBelow c1 bA (Boxed.lt c1))
  obtain ⟨fn, tmps, assign, body, hy, hR⟩ := hY 0 0 (W.alloc (.cells #[.func (.yield l) #[] #[]] 144)) rfl (hJ _ _ _ hJ0 bA)
  have hy' : (Instr.yield l #[Value.int .u64 0]).run Tryd.prog (W.alloc (.cells #[.func (.yield l) #[] #[]] 144)) = _ := hy
  refine callsIn_of_wp Tryd.func111 rfl trivial ?_ rfl
  simp only [Tryd.ntmps111, List.size_toArray, List.length_cons, List.length_nil, Nat.reduceAdd, Nat.reduceSub, Array.replicate_succ, Array.replicate_zero, List.push_toArray, List.append_toArray, List.nil_append, List.cons_append]
  gi_wp2
  refine ⟨(fun h => by cases h), hR.mono ?_⟩
  rintro e B (⟨rfl, hJ1, _⟩ | ⟨rfl, hJx1, _⟩)
  · gi_wp2
    exact bodyPost_ret (results_none rfl _ _ _) rfl ⟨⟨_, rfl⟩, .inl hJ1⟩
  · gi_wp2
    exact bodyPost_ret (results_none rfl _ _ _) rfl ⟨⟨_, rfl⟩, .inr ⟨0, hJx1⟩⟩

/-- What the iterator holds between two rounds. -/
structure ChI (W : World) (bt bn y4 : Nat) (yv : Value) (t v last : Nat) (rs : List Nat) (A : World) : Prop where
  y : Boxed A W.heap.size 144 yv
  l4 : Boxed A y4 3 (.int .i64 (last : Int))
  bt : Boxed A bt 3 (.int .i64 ((t + 1 : Nat) : Int))
  bn : Boxed A bn 3 (.int .i64 (v : Int))
  nd : rs.Nodup
  mks : ∀ r ∈ rs, W.heap.size ≤ r ∧ A.heap[r]? = some (.deferred (some []))
  lo : W.heap.size < y4
theorem ChI.mv {W A B : World} {bt bn y4 t v last : Nat} {yv : Value} {rs : List Nat} (h : ChI W bt bn y4 yv t v last rs A) (k : ∀ b, (b = bt ∨ b = bn ∨ b = y4 ∨ b = W.heap.size ∨ b ∈ rs) → B.heap[b]? = A.heap[b]?) : ChI W bt bn y4 yv t v last rs B :=
  ⟨boxAt h.y (k _ (by simp)), boxAt h.l4 (k _ (by simp)), boxAt h.bt (k _ (by simp)), boxAt h.bn (k _ (by simp)), h.nd, fun r hr => ⟨(h.mks r hr).1, (k r (by simp [hr])).trans (h.mks r hr).2⟩, h.lo⟩
theorem ChI.low {W A : World} {bt bn y4 t v last : Nat} {yv : Value} {rs : List Nat} (h : ChI W bt bn y4 yv t v last rs A) (b : Nat) (hb : b = bt ∨ b = bn ∨ b = y4 ∨ b = W.heap.size ∨ b ∈ rs) : b < A.heap.size := by
  rcases hb with rfl | rfl | rfl | rfl | hb
  · exact h.bt.lt
  · exact h.bn.lt
  · exact h.l4.lt
  · exact h.y.lt
  · exact (Array.getElem?_eq_some_iff.1 (h.mks b hb).2).1
theorem ChI.high {W A : World} {bt bn y4 t v last l : Nat} {yv : Value} {rs : List Nat} (h : ChI W bt bn y4 yv t v last rs A) (hl : l < W.heap.size) (b : Nat) (hb : b = bt ∨ b = bn ∨ b = y4 ∨ b = W.heap.size ∨ b ∈ rs) : b = bt ∨ b = bn ∨ l < b := by
  rcases hb with rfl | rfl | rfl | rfl | hb
  · exact .inl rfl
  · exact .inr (.inl rfl)
  · have := h.lo; exact .inr (.inr (by omega))
  · exact .inr (.inr hl)
  · have := (h.mks b hb).1; exact .inr (.inr (by omega))
theorem ChI.keep {W A B : World} {bt bn y4 t v last l : Nat} {yv : Value} {rs : List Nat} (h : ChI W bt bn y4 yv t v last rs A) (hl : l < W.heap.size) (k : ∀ b, (b = bt ∨ b = bn ∨ l < b) → b < A.heap.size → B.heap[b]? = A.heap[b]?) : ChI W bt bn y4 yv t v last rs B :=
  h.mv fun b hb => k b (h.high hl b hb) (h.low b hb)
theorem ChI.size {W A : World} {bt bn y4 t v last : Nat} {yv : Value} {rs : List Nat} (h : ChI W bt bn y4 yv t v last rs A) : y4 < A.heap.size := h.l4.lt
/-- All marks are taken over, at the function's end. -/
theorem marks_leave {F : Fence} {n : Nat} {P : Program} {fn : Func} {tmps : Array Value} {R : Ending → World → Prop} {m : Nat} (hres : fn.results = #[]) : ∀ (rs : List Nat) (A : World), rs.Nodup → (∀ r ∈ rs, m ≤ r ∧ A.heap[r]? = some (.deferred (some []))) → (∀ B v, Below m A B → R (.returned v) B) → LeavesInM F n P fn tmps R (rs.map markOf) .returning A := by
  intro rs
  induction rs with
  | nil =>
    intro A _ _ hR
    exact ⟨_, results_none hres _ _ _, hR A _ (Below.refl _ _)⟩
  | cons r rs ih =>
    intro A hn hm hR
    obtain ⟨h1, h2⟩ := hm r List.mem_cons_self
    obtain ⟨h3, h4⟩ := List.nodup_cons.1 hn
    refine ⟨by simp, .inl ⟨r, _, rfl, run_takeDeferred h2, ih _ h4 (fun q hq => ?_) fun B v hb => hR B v ((below_put A _ h1).trans hb)⟩⟩
    refine ⟨(hm q (List.mem_cons_of_mem _ hq)).1, (World.putObj_heap_other (show q ≠ r from fun e => h3 (e ▸ hq))).trans (hm q (List.mem_cons_of_mem _ hq)).2⟩

def boxN (w : World) : Value → Nat
  | .pointer (some a) => match w.cell? a with
    | some (.int _ n) => n.toNat
    | _ => 0
  | _ => 0
theorem boxN_of {w : World} {b n : Nat} (h : Boxed w b 3 (.int .i64 (n : Int))) : boxN w (.pointer (some ⟨b, 0, none⟩)) = n := by
  show (match w.cell? ⟨b, 0, none⟩ with
    | some (.int _ n) => n.toNat
    | _ => 0) = n
  rw [h.cell]
  rfl

set_option maxRecDepth 100000 in
set_option maxHeartbeats 8000000 in
theorem ch_succ (t : Nat) (ht : t < 4) (ih : ∀ (v n bt bn : Nat) (w : World), v ≤ 40 → Boxed w bt 3 (.int .i64 (t : Int)) → Boxed w bn 3 (.int .i64 (v : Int)) → Runs n Tryd.prog 111 #[.pointer (some ⟨bt, 0, none⟩), .pointer (some ⟨bn, 0, none⟩)] (chL t v) encS (KS bt bn) AbO w)
    (v n bt bn : Nat) (w : World) (hv : v ≤ 40) (h1 : Boxed w bt 3 (.int .i64 ((t + 1 : Nat) : Int))) (h2 : Boxed w bn 3 (.int .i64 (v : Int))) :
    Runs n Tryd.prog 111 #[.pointer (some ⟨bt, 0, none⟩), .pointer (some ⟨bn, 0, none⟩)] (chL (t + 1) v) encS (KS bt bn) AbO w := by
  intro l J Jx W hbW hl1 hl2 hJ hJx hY hJ0
  have HJ : Hid (∀ i A B, J i A → Below W.heap.size A B → J i B) := hJ
  have HJX : Hid (∀ i A B, Jx i A → Below W.heap.size A B → Jx i B) := hJx
  have HY : Hid (∀ (i x : Nat) (A : World) (m : Nat), (chL (t + 1) v)[i]? = some x → J i A → YieldAt Fence.wide m Tryd.prog l #[.int .u64 (x : Int)] A fun e B => (e = .returned (.bool true) ∧ J (i + 1) B ∧ KS bt bn l A B) ∨ (e = .returned (.bool false) ∧ Jx i B ∧ KS bt bn l A B)) := fun i x A m hx hA => YieldAt.anyD (hY i x A hx hA) m
  have HIH : Hid (∀ (v n bt bn : Nat) (w : World), v ≤ 40 → Boxed w bt 3 (.int .i64 (t : Int)) → Boxed w bn 3 (.int .i64 (v : Int)) → Runs n Tryd.prog 111 #[.pointer (some ⟨bt, 0, none⟩), .pointer (some ⟨bn, 0, none⟩)] (chL t v) encS (KS bt bn) AbO w) := ih
  have c1 : Boxed W bt 3 _ := boxBelow h1 hbW h1.lt
  have c2 : Boxed W bn 3 _ := boxBelow h2 hbW h2.lt
  clear hJ hJx hY ih h1 h2
  obtain ⟨W1, HW1⟩ : ∃ W1, Hid (W1 = W.alloc (.cells #[.func (.yield l) #[] #[]] 144)) := ⟨_, rfl⟩
  have bA : Below W.heap.size W (W.alloc (.cells #[.func (.yield l) #[] #[]] 144)) := balloc W _
  have d1 := boxBelow c1 bA c1.lt
  have d2 := boxBelow c2 bA c2.lt
  have d3 := Boxed.new W 144 (.func (.yield l) #[] #[])
  have x1 := d1.cell
  have hne : (((t + 1 : Nat) : Int) == 0) = false := by simp; omega
  have hsub : ((t + 1 : Nat) : Int) - 1 = (t : Int) := by omega
  obtain ⟨T, HT⟩ : ∃ T : Int, Hid (T = ((t + 1 : Nat) : Int)) := ⟨_, rfl⟩
  have hT5 : 1 ≤ T ∧ T ≤ 5 := by have := HT.out; omega
  rw [← HT.out] at x1 hne hsub
  refine callsIn_of_wp_marks Tryd.func111 rfl trivial ?_ rfl
  simp only [Tryd.ntmps111, List.size_toArray, List.length_cons, List.length_nil, Nat.reduceAdd, Nat.reduceSub, Array.replicate_succ, Array.replicate_zero, List.push_toArray, List.append_toArray, List.nil_append, List.cons_append]
  gi_wp2
  refine wpIn_loop (fun a A => ∃ (u5 u12 u13 u14 u15 u16 u17 u18 u19 u20 u21 u22 u23 u24 u25 u26 u27 u28 u29 : Value) (last y4 : Nat) (rs : List Nat), a = { tmps := #[.func (.yield l) #[] #[], .pointer (some ⟨bt, 0, none⟩), .pointer (some ⟨bn, 0, none⟩), .pointer (some ⟨W.heap.size, 0, none⟩), .pointer (some ⟨y4, 0, none⟩), u5, .int .i64 T, .bool false, undef, undef, .int .i64 T, .int .i64 (t : Int), u12, u13, u14, u15, u16, u17, u18, u19, u20, u21, u22, u23, u24, u25, u26, u27, u28, u29], defers := rs.map markOf } ∧ t ≤ last ∧ (last ≤ v ∨ last = t) ∧ ChI W bt bn y4 (.func (.yield l) #[] #[]) t v last rs A ∧ J (chC t last) A) (fun a A => v - boxN A (a.tmps.getD 4 undef)) ?start ?round
  case start =>
    refine ⟨undef, undef, undef, undef, undef, undef, undef, undef, undef, undef, undef, undef, undef, undef, undef, undef, undef, undef, undef, t, W.heap.size + 1, [], rfl, Nat.le_refl _, .inr rfl, ?_, ?_⟩
    · have f1 := Boxed.new (W.alloc (.cells #[.func (.yield l) #[] #[]] 144)) 3 (.int .i64 (t : Int))
      rw [World.size_alloc] at f1
      exact ⟨d3.alloc _, f1, d1.alloc _, d2.alloc _, List.nodup_nil, fun r hr => by simp at hr, by omega⟩
    · rw [chC_zero]
      exact HJ.out _ _ _ hJ0 (bA.alloc (by simp) _)
  case round =>
    rintro a A ⟨u5, u12, u13, u14, u15, u16, u17, u18, u19, u20, u21, u22, u23, u24, u25, u26, u27, u28, u29, last, y4, rs, rfl, hl3, hl4, hC, hJA⟩
    have HM : Hid (boxN A (.pointer (some ⟨y4, 0, none⟩)) = last) := boxN_of hC.l4
    have k4 := hC.l4.cell
    have kt := hC.bt.cell
    have kn := hC.bn.cell
    rw [← HT.out] at kt
    by_cases hlt : last < v
    · have hd : decide ((last : Int) < (v : Int)) = true := by simp; omega
      have CC := choices_any last t A
      gi_wp2_with (refine ⟨trivial, (fun h => wide_no h), (callsIn_wide.2 CC).mono ?_⟩; rintro e A2 ⟨rfl, hA2⟩; clear CC)
      have hWA : W.heap.size + 2 ≤ A.heap.size := by have := hC.size; have := hC.lo; omega
      have bA2 : Below A.heap.size A ((A.alloc (.cells #[.int .i64 (last : Int)] 3)).alloc (.cells #[.int .i64 (t : Int)] 3)) := (balloc A _).alloc (by simp) _
      have e1 : Boxed ((A.alloc (.cells #[.int .i64 (last : Int)] 3)).alloc (.cells #[.int .i64 (t : Int)] 3)) (A.heap.size + 1) 3 (.int .i64 (t : Int)) := by
        have h := Boxed.new (A.alloc (.cells #[.int .i64 (last : Int)] 3)) 3 (.int .i64 (t : Int))
        rw [World.size_alloc] at h
        exact h
      have e2 : Boxed ((A.alloc (.cells #[.int .i64 (last : Int)] 3)).alloc (.cells #[.int .i64 (t : Int)] 3)) A.heap.size 3 (.int .i64 (last : Int)) := (Boxed.new A 3 (.int .i64 (last : Int))).alloc _
      have sA2 : ((A.alloc (.cells #[.int .i64 (last : Int)] 3)).alloc (.cells #[.int .i64 (t : Int)] 3)).heap.size = A.heap.size + 2 := by simp
      obtain ⟨A2, HA2⟩ : ∃ A2, Hid (A2 = (A.alloc (.cells #[.int .i64 (last : Int)] 3)).alloc (.cells #[.int .i64 (t : Int)] 3)) := ⟨_, rfl⟩
      rw [← HA2.out] at bA2 e1 e2 sA2 ⊢
      have hC2 : ChI W bt bn y4 (.func (.yield l) #[] #[]) t v last rs A2 := hC.keep hl2 fun b _ hb => bA2.block b hb
      have hJ2 : J (chC t last) A2 := HJ.out _ _ _ hJA (bA2.mono (by omega))
      clear HA2
      have hsz : ∀ V, Below A2.heap.size A2 V → ChI W bt bn y4 (.func (.yield l) #[] #[]) t v last rs V := fun V hb => hC2.keep hl2 fun b _ h => hb.block b h
      refine wpIn_runs (ys := chL t last) (enc := encS) (Kp := KS (A.heap.size + 1) A.heap.size) (Ab := AbO) (gf := 111) (lb := #[.pointer (some ⟨A.heap.size + 1, 0, none⟩), .pointer (some ⟨A.heap.size, 0, none⟩)]) rfl (enters_of Tryd.func111 (by kernel_rfl) rfl)
        (HIH.out last (n - 1) _ _ A2 (by omega) e1 e2) (fun _ => rfl) KS.trans ?hKb ?hAb
        (fun i B => J (chC t last + i) B ∧ ChI W bt bn y4 (.func (.yield l) #[] #[]) t v last rs B ∧ A2.heap.size ≤ B.heap.size) (fun i B => Jx (chC t last + i) B ∧ ChI W bt bn y4 (.func (.yield l) #[] #[]) t v last rs B ∧ A2.heap.size ≤ B.heap.size) ?hIp ?hXp ?hIa ?hXa ?h0
        (fun x => { tmps := #[.func (.yield l) #[] #[], .pointer (some ⟨bt, 0, none⟩), .pointer (some ⟨bn, 0, none⟩), .pointer (some ⟨W.heap.size, 0, none⟩), .pointer (some ⟨y4, 0, none⟩), .int .u64 (x : Int), .int .i64 T, .bool false, undef, undef, .int .i64 T, .int .i64 (t : Int), .int .i64 (last : Int), .int .i64 (v : Int), .bool true, u15, u16, .int .i64 (last : Int), .int .i64 T, .int .i64 (t : Int), .func (.func 111) #[] #[.pointer (some ⟨A.heap.size + 1, 0, none⟩), .pointer (some ⟨A.heap.size, 0, none⟩)], .int .u64 (x : Int), u22, u23, u24, u25, u26, u27, u28, u29], defers := [] }) ?assign ?body ?done ?stop
      case hKb =>
        intro B o hB
        exact ⟨by simp [World.putObj], fun b hb _ => World.putObj_heap_other (by omega)⟩
      case hAb =>
        intro V B C h3 h4 hb b hlt
        exact hb.block b (by omega)
      case hIp =>
        rintro i B o o' ⟨g1, g2, g3⟩ _ _
        exact ⟨HJ.out _ _ _ g1 (below_put _ _ (by omega)), g2.mv fun b hb => World.putObj_heap_other (by have := hC2.low b hb; omega), by simpa [World.putObj] using g3⟩
      case hXp =>
        rintro i B o o' ⟨g1, g2, g3⟩ _ _
        exact ⟨HJX.out _ _ _ g1 (below_put _ _ (by omega)), g2.mv fun b hb => World.putObj_heap_other (by have := hC2.low b hb; omega), by simpa [World.putObj] using g3⟩
      case hIa =>
        rintro i V B C ⟨g1, g2, g3⟩ _ h4 hb
        exact ⟨HJ.out _ _ _ g1 (Below.mono hb (by omega)), g2.mv fun b h => hb.block b (by have := hC2.low b h; omega), Nat.le_trans g3 hb.size⟩
      case hXa =>
        rintro i V B C ⟨g1, g2, g3⟩ _ h4 hb
        exact ⟨HJX.out _ _ _ g1 (Below.mono hb (by omega)), g2.mv fun b h => hb.block b (by have := hC2.low b h; omega), Nat.le_trans g3 hb.size⟩
      case h0 =>
        intro V hb
        exact ⟨HJ.out _ _ _ hJ2 (hb.mono (by omega)), hsz V hb, hb.size⟩
      case assign =>
        intro l x W K _ hK
        unfold encS
        gi_wp2
        exact hK
      case body =>
        rintro i x B hx ⟨g1, g2, g3⟩ hD
        have q3 := g2.y.cell
        have q4 := g2.l4.cell
        have hlast : last < 64 := by omega
        have hx64 : x < 2 ^ 64 := Nat.lt_of_lt_of_le (chL_lt (List.mem_of_getElem? hx)) (Nat.pow_le_pow_right (by decide) (by omega))
        have hor := orN hx64 (pow_lt64 hlast)
        have hat := chL_at hl3 hlt hx
        obtain ⟨z, Hz⟩ : ∃ z, Hid (z = x ||| 2 ^ last) := ⟨_, (rfl : x ||| 2 ^ last = x ||| 2 ^ last)⟩
        obtain ⟨y, Hy⟩ : ∃ y, Hid (y = 2 ^ last) := ⟨_, (rfl : 2 ^ last = 2 ^ last)⟩
        have O : ∀ C, Calls Tryd.prog 109 #[.int .i64 (last : Int)] C fun e w' => e = .returned (.int .u64 (y : Int)) ∧ w' = C := fun C => by
          rw [Hy.out]; exact only_any last hlast C
        rw [← Hz.out] at hat hor
        rw [← Hy.out] at hor
        obtain ⟨fn, tmps, assign, body, hy, hR⟩ := HY.out (chC t last + i) z B.drew (n - 1 - 1 - 1) hat (HJ.out _ _ _ g1 (bdrewN (Below.refl _ _) 1))
        have KD : Hid (∀ C, KS bt bn l B.drew C → C.heap[A2.heap.size]? = B.heap[A2.heap.size]?) := fun C h => h.2 _ (.inr (.inr (by omega))) (show A2.heap.size < B.heap.size by omega)
        have KD1 : Hid (∀ C, KS bt bn l B.drew C → C.heap[A2.heap.size + 1]? = B.heap[A2.heap.size + 1]?) := fun C h => h.2 _ (.inr (.inr (by omega))) (show A2.heap.size + 1 < B.heap.size by omega)
        have KK : Hid (∀ C, KS bt bn l B.drew C → KS (A.heap.size + 1) A.heap.size (A2.heap.size + 1) B C) := fun C h => ⟨h.1, fun b hb hlt => h.2 b (.inr (.inr (by omega))) hlt⟩
        have KI : Hid (∀ C, KS bt bn l B.drew C → ChI W bt bn y4 (.func (.yield l) #[] #[]) t v last rs C ∧ A2.heap.size ≤ C.heap.size) := fun C h => ⟨g2.keep hl2 fun b hb hlt => h.2 b hb hlt, Nat.le_trans g3 h.1⟩
        clear hat
        gi_wp2
        refine wpIn_region_any (by kernel_rfl) (wpAnyIn_round (A2.heap.size + 1) (fun i o h c e => by revert h; revert i; intro i h; have hm := Array.mem_of_getElem? h; simp at hm; rcases hm with rfl | rfl | rfl | rfl | rfl | rfl | rfl <;> cases e) _ _ _ _ rfl ?_)
        try (change wpAnyIn _ _ _ _ _ _ _ _ _ (World.drew _))
        refine wpAnyIn_take (i := 1) (v := .int .u64 (x : Int)) rfl rfl (by kernel_rfl) (by kernel_rfl) (by kernel_rfl) (fun _ _ _ h => h) ⟨Or.inl ⟨by rfl, fun w => by go_simp⟩, fun _ => rfl⟩ ?_
        refine wpAnyIn_ready (rs := [0, 2]) (by kernel_rfl) (by simp) (AllReadyIn.cons rfl (fun K hK => ?_) (AllReadyIn.cons rfl (fun K hK => ?_) AllReadyIn.nil))
        · go_simp
          refine hK _ _ ?_
          clear hK K
          refine wpAnyIn_ready (rs := [2]) (by kernel_rfl) (by simp) (AllReadyIn.cons rfl (fun K hK => ?_) AllReadyIn.nil)
          go_simp
          refine hK _ _ ?_
          clear hK K
          refine wpAnyIn_ready (rs := [3]) (by kernel_rfl) (by simp) (AllReadyIn.cons rfl (fun K hK => ?_) AllReadyIn.nil)
          go_simp
          refine ⟨trivial, (fun h => wide_no h), (callsIn_wide.2 (O _)).mono ?_⟩
          rintro e C0 ⟨rfl, hC0⟩
          subst hC0
          refine hK _ _ ?_
          clear hK K
          refine wpAnyIn_take (i := 4) (v := .int .u64 (z : Int)) rfl rfl (by kernel_rfl) (by kernel_rfl) (by kernel_rfl) (fun _ _ _ h => h) ⟨Or.inl ⟨by rfl, fun w => by go_simp⟩, fun _ => rfl⟩ ?_
          refine wpAnyIn_ready (rs := [5]) (by kernel_rfl) (by simp) (AllReadyIn.cons rfl (fun K hK => ?_) AllReadyIn.nil)
          go_simp
          refine ⟨(fun h => wide_no h), hR.mono ?_⟩
          rintro e C (⟨rfl, hJ3, hk3⟩ | ⟨rfl, hJ3, hk3⟩)
          · refine hK _ _ ?_
            clear hK K
            refine wpAnyIn_take (i := 6) (v := .bool false) rfl rfl (by kernel_rfl) (by kernel_rfl) (by kernel_rfl) (fun _ _ _ h => h) ⟨Or.inl ⟨by rfl, fun w => by go_simp⟩, fun _ => rfl⟩ ?_
            refine wpAnyIn_done (by kernel_rfl) ?_ _
            gi_wp2
            exact ⟨⟨KD.out C hk3, KD1.out C hk3⟩, KK.out C hk3, hJ3, KI.out C hk3⟩
          · refine hK _ _ ?_
            clear hK K
            refine wpAnyIn_take (i := 6) (v := .bool true) rfl rfl (by kernel_rfl) (by kernel_rfl) (by kernel_rfl) (fun _ _ _ h => h) ⟨Or.inl ⟨by rfl, fun w => by go_simp⟩, fun _ => rfl⟩ ?_
            refine wpAnyIn_done (by kernel_rfl) ?_ _
            gi_wp2
            exact ⟨⟨KD.out C hk3, KD1.out C hk3⟩, KK.out C hk3, hJ3, KI.out C hk3⟩
        · go_simp
          refine hK _ _ ?_
          clear hK K
          refine wpAnyIn_ready (rs := [0, 3]) (by kernel_rfl) (by simp) (AllReadyIn.cons rfl (fun K hK => ?_) (AllReadyIn.cons rfl (fun K hK => ?_) AllReadyIn.nil))
          · go_simp
            refine hK _ _ ?_
            clear hK K
            refine wpAnyIn_ready (rs := [3]) (by kernel_rfl) (by simp) (AllReadyIn.cons rfl (fun K hK => ?_) AllReadyIn.nil)
            go_simp
            refine ⟨trivial, (fun h => wide_no h), (callsIn_wide.2 (O _)).mono ?_⟩
            rintro e C0 ⟨rfl, hC0⟩
            subst hC0
            refine hK _ _ ?_
            clear hK K
            refine wpAnyIn_take (i := 4) (v := .int .u64 (z : Int)) rfl rfl (by kernel_rfl) (by kernel_rfl) (by kernel_rfl) (fun _ _ _ h => h) ⟨Or.inl ⟨by rfl, fun w => by go_simp⟩, fun _ => rfl⟩ ?_
            refine wpAnyIn_ready (rs := [5]) (by kernel_rfl) (by simp) (AllReadyIn.cons rfl (fun K hK => ?_) AllReadyIn.nil)
            go_simp
            refine ⟨(fun h => wide_no h), hR.mono ?_⟩
            rintro e C (⟨rfl, hJ3, hk3⟩ | ⟨rfl, hJ3, hk3⟩)
            · refine hK _ _ ?_
              clear hK K
              refine wpAnyIn_take (i := 6) (v := .bool false) rfl rfl (by kernel_rfl) (by kernel_rfl) (by kernel_rfl) (fun _ _ _ h => h) ⟨Or.inl ⟨by rfl, fun w => by go_simp⟩, fun _ => rfl⟩ ?_
              refine wpAnyIn_done (by kernel_rfl) ?_ _
              gi_wp2
              exact ⟨⟨KD.out C hk3, KD1.out C hk3⟩, KK.out C hk3, hJ3, KI.out C hk3⟩
            · refine hK _ _ ?_
              clear hK K
              refine wpAnyIn_take (i := 6) (v := .bool true) rfl rfl (by kernel_rfl) (by kernel_rfl) (by kernel_rfl) (fun _ _ _ h => h) ⟨Or.inl ⟨by rfl, fun w => by go_simp⟩, fun _ => rfl⟩ ?_
              refine wpAnyIn_done (by kernel_rfl) ?_ _
              gi_wp2
              exact ⟨⟨KD.out C hk3, KD1.out C hk3⟩, KK.out C hk3, hJ3, KI.out C hk3⟩
          · go_simp
            refine ⟨trivial, (fun h => wide_no h), (callsIn_wide.2 (O _)).mono ?_⟩
            rintro e C0 ⟨rfl, hC0⟩
            subst hC0
            refine hK _ _ ?_
            clear hK K
            refine wpAnyIn_take (i := 4) (v := .int .u64 (z : Int)) rfl rfl (by kernel_rfl) (by kernel_rfl) (by kernel_rfl) (fun _ _ _ h => h) ⟨Or.inl ⟨by rfl, fun w => by go_simp⟩, fun _ => rfl⟩ ?_
            refine wpAnyIn_ready (rs := [0]) (by kernel_rfl) (by simp) (AllReadyIn.cons rfl (fun K hK => ?_) AllReadyIn.nil)
            go_simp
            refine hK _ _ ?_
            clear hK K
            refine wpAnyIn_ready (rs := [5]) (by kernel_rfl) (by simp) (AllReadyIn.cons rfl (fun K hK => ?_) AllReadyIn.nil)
            go_simp
            refine ⟨(fun h => wide_no h), hR.mono ?_⟩
            rintro e C (⟨rfl, hJ3, hk3⟩ | ⟨rfl, hJ3, hk3⟩)
            · refine hK _ _ ?_
              clear hK K
              refine wpAnyIn_take (i := 6) (v := .bool false) rfl rfl (by kernel_rfl) (by kernel_rfl) (by kernel_rfl) (fun _ _ _ h => h) ⟨Or.inl ⟨by rfl, fun w => by go_simp⟩, fun _ => rfl⟩ ?_
              refine wpAnyIn_done (by kernel_rfl) ?_ _
              gi_wp2
              exact ⟨⟨KD.out C hk3, KD1.out C hk3⟩, KK.out C hk3, hJ3, KI.out C hk3⟩
            · refine hK _ _ ?_
              clear hK K
              refine wpAnyIn_take (i := 6) (v := .bool true) rfl rfl (by kernel_rfl) (by kernel_rfl) (by kernel_rfl) (fun _ _ _ h => h) ⟨Or.inl ⟨by rfl, fun w => by go_simp⟩, fun _ => rfl⟩ ?_
              refine wpAnyIn_done (by kernel_rfl) ?_ _
              gi_wp2
              exact ⟨⟨KD.out C hk3, KD1.out C hk3⟩, KK.out C hk3, hJ3, KI.out C hk3⟩
      case done =>
        rintro B ⟨g1, g2, g3⟩ hK
        rw [← chC_succ hl3] at g1
        have q4 := g2.l4.cell
        have q5 := (g2.l4.alloc (.cells #[.int .i64 0] 3)).cell
        have hlast : (last : Int) + 1 ≤ 100 := by omega
        gi_wp2
        have f1 : Boxed (B.alloc (.cells #[.int .i64 ((last + 1 : Nat) : Int)] 3)) B.heap.size 3 (.int .i64 ((last + 1 : Nat) : Int)) := Boxed.new B 3 _
        have hBs : A2.heap.size < B.heap.size := (Array.getElem?_eq_some_iff.1 hK).1
        have bB : Below B.heap.size B (B.alloc (.cells #[.int .i64 ((last + 1 : Nat) : Int)] 3)) := balloc _ _
        have g5 := g2.keep hl2 fun b _ hb => bB.block b hb
        refine ⟨⟨_, _, _, _, _, _, _, _, _, _, _, _, _, _, _, _, _, _, _, last + 1, B.heap.size, A2.heap.size :: rs, rfl, by omega, .inl (by omega), ⟨g5.y, f1, g5.bt, g5.bn, List.nodup_cons.2 ⟨fun h => ?_, g2.nd⟩, fun r hr => ?_, by omega⟩, HJ.out _ _ _ g1 (bB.mono (by omega))⟩, ?_⟩
        · have := hC2.low _ (.inr (.inr (.inr (.inr h)))); omega
        · rcases List.mem_cons.1 hr with rfl | hr
          · exact ⟨by omega, (bB.block _ hBs).trans hK⟩
          · exact g5.mks r hr
        · have e1 : boxN (B.alloc (.cells #[.int .i64 ((last + 1 : Nat) : Int)] 3)) (.pointer (some ⟨B.heap.size, 0, none⟩)) = last + 1 := boxN_of f1
          have e2 := HM.out
          show v - boxN (B.alloc (.cells #[.int .i64 ((last + 1 : Nat) : Int)] 3)) (.pointer (some ⟨B.heap.size, 0, none⟩)) < v - boxN A (.pointer (some ⟨y4, 0, none⟩))
          omega
      case stop =>
        rintro i B ⟨g1, g2, g3⟩ hK
        gi_wp2
        refine marks_leave (m := W.heap.size) rfl (A2.heap.size :: rs) B (List.nodup_cons.2 ⟨fun h => ?_, g2.nd⟩) (fun r hr => ?_) fun C u hb => ⟨⟨_, rfl⟩, .inr ⟨_, HJX.out _ _ _ g1 hb⟩⟩
        · have := hC2.low _ (.inr (.inr (.inr (.inr h)))); omega
        · rcases List.mem_cons.1 hr with rfl | hr
          · exact ⟨by omega, hK⟩
          · exact g2.mks r hr
    · have hd : decide ((last : Int) < (v : Int)) = false := by simp; omega
      have hlen : chC t last = (chL (t + 1) v).length := by
        rw [chL_len]
        rcases hl4 with h | h
        · congr 1; omega
        · subst h; unfold chC; rw [show last - last = 0 by omega, show v - last = 0 by omega]
      gi_wp2
      refine marks_leave (m := W.heap.size) rfl rs A hC.nd hC.mks fun C u hb => ⟨⟨_, rfl⟩, .inl ?_⟩
      rw [← hlen]
      exact HJ.out _ _ _ hJA hb

theorem ch_runs : ∀ (t : Nat), t ≤ 4 → ∀ (v n bt bn : Nat) (w : World), v ≤ 40 → Boxed w bt 3 (.int .i64 (t : Int)) → Boxed w bn 3 (.int .i64 (v : Int)) → Runs n Tryd.prog 111 #[.pointer (some ⟨bt, 0, none⟩), .pointer (some ⟨bn, 0, none⟩)] (chL t v) encS (KS bt bn) AbO w
  | 0, _, v, n, bt, bn, w, _, h1, _ => ch_zero v n bt bn w h1
  | t + 1, ht, v, n, bt, bn, w, hv, h1, h2 => ch_succ t (by omega) (ch_runs t (by omega)) v n bt bn w hv h1 h2

end Go.Proofs.YtjfjdidibglhaabDoor

namespace Go.Proofs.YtjfjdidibglhaabDoor
open Go.RowKit Go.Shelf

attribute [local go_sem] Oper.semAt_some

/-- The table of math/bits, in its variable. -/
def tzCells : Array Value := (Lib.deBruijn64tab.map fun n => Value.int .u8 ((n : Nat) : Int)).toArray
def Tab (w : World) : Prop := ∃ t fr, w.heap[1]? = some (.cells tzCells t fr)
theorem Tab.pos {w : World} (h : Tab w) : 1 < w.heap.size := by
  obtain ⟨t, fr, h⟩ := h
  exact (Array.getElem?_eq_some_iff.1 h).1
theorem Tab.below {w w' : World} {n : Nat} (h : Tab w) (hb : Below n w w') (hn : 1 < n) : Tab w' := by
  obtain ⟨t, fr, h⟩ := h
  exact ⟨t, fr, (hb.block 1 hn).trans h⟩
theorem Tab.next {w w' : World} (h : Tab w) (hb : Below w.heap.size w w') : Tab w' := h.below hb h.pos
theorem Tab.cell {w : World} (h : Tab w) (j : Nat) (hj : j < 64) : w.cell? ⟨1, j, none⟩ = some (.int .u8 ((Lib.deBruijn64tab.getD j 0 : Nat) : Int)) := by
  obtain ⟨t, fr, h⟩ := h
  rw [cell_of_row _ _ _ _ _ _ h]
  unfold tzCells
  rw [List.getElem?_toArray, List.getElem?_map, List.getD_eq_getElem?_getD]
  have : j < Lib.deBruijn64tab.length := hj
  rw [List.getElem?_eq_getElem this]
  rfl

set_option maxHeartbeats 1000000 in
theorem tz_core (x k idx : Nat) (w : World) (hx0 : ((x : Int) == 0) = false)
    (key : IntKind.u64.wrap (bits BinOp.and IntKind.u64 (x : Int) (IntKind.u64.wrap (-(x : Int))) * 285870213051353865) / 288230376151711744 = (idx : Int))
    (hi : idx < 64) (hk : k < 64) (hcell : w.cell? ⟨1, idx, none⟩ = some (.int .u8 k)) :
    Calls Tryd.prog 127 #[.int .u64 x] w fun e w' => e = .returned (.int .i64 k) ∧ w' = w := by
  go_enter Tryd.func127, Tryd.ntmps127
  go_wp2_with (simp only [key])
  go_ret
  exact ⟨rfl, rfl⟩

/-- The least point of a set. -/
theorem first_any (x : Nat) (w : World) (hT : Tab w) (hx : x < 2 ^ 64) (h0 : x ≠ 0) : ∃ k m : Nat, x = 2 ^ k * (2 * m + 1) ∧ k < 64 ∧
    Calls Tryd.prog 126 #[.int .u64 (x : Int)] w fun e w' => e = .returned (.int .i64 (k : Int)) ∧ w' = w := by
  obtain ⟨m, hm, hk⟩ := Lib.ctzFrom_spec 64 x (by omega) hx
  refine ⟨_, m, hm, hk, ?_⟩
  obtain ⟨hlow, hk2⟩ := Lib.lowest_bit 64 x h0 hx
  obtain ⟨hi, htab⟩ := Lib.deBruijn64_at _ hk2
  have hcell := hT.cell _ hi
  rw [htab] at hcell
  have hc : Lib.ctz 64 x = Lib.ctzFrom 64 x := by unfold Lib.ctz; rw [if_neg h0]
  have C := tz_core x _ _ w (by simp; omega) (tz64_key x _ hx h0 hlow) hi hk2 hcell
  rw [hc] at C
  generalize Lib.ctzFrom 64 x = c at *
  clear hm hlow hk2 hi htab hcell hc
  go_enter Tryd.func126, Tryd.ntmps126
  go_wp2_with (go_at_call 127; refine C.mono ?_; rintro e w' ⟨rfl, rfl⟩)
  go_ret
  exact ⟨rfl, rfl⟩

def encI (p : Nat) : Array Value := #[.int .i64 (p : Int)]
def KT (_ : Nat) (A B : World) : Prop := B.heap[1]? = A.heap[1]?
def AbN (_ _ _ : World) : Prop := False
theorem Tab.kt {A B : World} {l : Nat} (h : Tab A) (k : KT l A B) : Tab B := by
  obtain ⟨t, fr, h⟩ := h
  exact ⟨t, fr, (k : B.heap[1]? = A.heap[1]?).trans h⟩

theorem points_any (x : Nat) (w : World) :
    Calls Tryd.prog 123 #[.int .u64 (x : Int)] w fun e w' => e = .returned (.func (.func 125) #[] #[.pointer (some ⟨w.heap.size, 0, none⟩)]) ∧ w' = w.alloc (.cells #[.int .u64 (x : Int)] 111) := by
  go_enter Tryd.func123, Tryd.ntmps123
  go_wp2
  go_ret
  exact ⟨rfl, rfl⟩

set_option maxRecDepth 100000 in
set_option maxHeartbeats 4000000 in
theorem points_runs (x n bs : Nat) (w : World) (hx : x < 2 ^ 64) (hT : Tab w) (h1 : Boxed w bs 111 (.int .u64 (x : Int))) : Runs n Tryd.prog 125 #[.pointer (some ⟨bs, 0, none⟩)] (pts x) encI KT AbN w := by
  intro l J Jx W hbW hl1 hl2 hJ hJx hY hJ0
  have c1 := (boxBelow h1 hbW h1.lt).cell
  have hTW : Tab W := hT.next hbW
  have HY : Hid (∀ (i y : Nat) (A : World) (m : Nat), (pts x)[i]? = some y → J i A → YieldAt Fence.wide m Tryd.prog l #[.int .i64 (y : Int)] A fun e B => (e = .returned (.bool true) ∧ J (i + 1) B ∧ KT l A B) ∨ (e = .returned (.bool false) ∧ Jx i B ∧ KT l A B)) := fun i y A m hx hA => YieldAt.anyD (hY i y A hx hA) m
  have HX : Hid (x < 2 ^ 64) := hx
  clear hJ hJx hY hT h1 hx
  refine callsIn_of_wp Tryd.func125 rfl trivial ?_ rfl
  simp only [Tryd.ntmps125, List.size_toArray, List.length_cons, List.length_nil, Nat.reduceAdd, Nat.reduceSub, Array.replicate_succ, Array.replicate_zero, List.push_toArray, List.append_toArray, List.nil_append, List.cons_append]
  gi_wp2
  gi_loopw [3] (fun lv wr => ∃ i y : Nat, lv = .int .u64 (y : Int) ∧ y < 2 ^ 64 ∧ Hid ((pts x).drop i = pts y) ∧ Hid (i ≤ (pts x).length) ∧ J i wr ∧ Tab wr) (fun lv _ => (pts (intOf lv).toNat).length)
  case atStart => exact ⟨0, x, rfl, HX.out, (rfl : (pts x).drop 0 = pts x), (Nat.zero_le _ : 0 ≤ (pts x).length), hJ0, hTW⟩
  case round =>
    clear c1 hTW hJ0
    obtain ⟨i, y, rfl, hy64, HD, HLE, hJi, hTi⟩ := hrel
    by_cases hy0 : y = 0
    · subst hy0
      have hd : (((0 : Nat) : Int) != 0) = false := by decide
      have hlen : (pts x).length ≤ i := by
        have := HD.out
        rw [pts_zero] at this
        exact List.drop_eq_nil_iff.1 this
      have hlt : i ≤ (pts x).length := HLE.out
      obtain rfl : i = (pts x).length := by omega
      gi_wp2
      refine ⟨trivial, ?_⟩
      gi_wp2
      refine ⟨fun _ h => (by cases h), ?_⟩
      gi_wp2
      go_end0
      exact ⟨⟨_, rfl⟩, .inl hJi⟩
    · have hd : ((y : Int) != 0) = true := by simp; omega
      obtain ⟨k, m, hk, hk64, CF⟩ := first_any y wr hTi hy64 hy0
      have hp := pts_off hy64 hk
      have hat : (pts x)[i]? = some k := by
        have h2 := HD.out
        rw [hp] at h2
        have := congrArg (·[0]?) h2
        simpa [List.getElem?_drop] using this
      have hnx : (pts x).drop (i + 1) = pts (y &&& (y - 1)) := by
        have h2 := HD.out
        rw [hp] at h2
        have := congrArg (·.drop 1) h2
        simpa [List.drop_drop] using this
      have HLE2 : Hid (i + 1 ≤ (pts x).length) := (List.getElem?_eq_some_iff.1 hat).1
      have HNX : Hid ((pts x).drop (i + 1) = pts (y &&& (y - 1))) := hnx
      have hle : y &&& (y - 1) ≤ y := Nat.and_le_left
      have HM : Hid ((pts (y &&& (y - 1))).length < (pts y).length) := by show _ < _; rw [hp]; simp
      have e1 : IntKind.u64.wrap ((y : Int) - 1) = ((y - 1 : Nat) : Int) := by
        rw [show (y : Int) - 1 = ((y - 1 : Nat) : Int) by omega]; exact wrapN (by omega)
      have e2 : bits .and .u64 (y : Int) ((y - 1 : Nat) : Int) = ((y &&& (y - 1) : Nat) : Int) := andN hy64 (by omega)
      obtain ⟨z, Hz⟩ : ∃ z, Hid (y &&& (y - 1) = z) := ⟨_, rfl⟩
      rw [Hz.out] at HNX HM hle e2
      obtain ⟨y1, Hy1⟩ : ∃ y1, Hid (y - 1 = y1) := ⟨_, rfl⟩
      rw [Hy1.out] at e1 e2
      obtain ⟨fn, tmps, assign, body, hy, hR⟩ := HY.out i k wr (n - 1) hat hJi
      clear hk hp hat hnx
      gi_wp2_with (refine ⟨trivial, (fun h => wide_no h), (callsIn_wide.2 CF).mono ?_⟩; rintro e w3 ⟨rfl, hw3⟩; subst hw3; clear CF)
      refine ⟨(fun h => wide_no h), hR.mono ?_⟩
      rintro e C (⟨rfl, hJ3, hk3⟩ | ⟨rfl, hJ3, hk3⟩)
      · have hT3 := hTi.kt hk3
        clear hy hR
        gi_wp2
        go_roundw
        case rel => exact ⟨i + 1, z, rfl, by omega, HNX, HLE2, hJ3, hT3⟩
        case measure => simpa [intOf] using HM.out
      · clear hy hR
        gi_wp2
        go_end0
        exact ⟨⟨_, rfl⟩, .inr ⟨_, hJ3⟩⟩

end Go.Proofs.YtjfjdidibglhaabDoor
