/- The walks of the library's Index, Contains and Equal, and of planeOrder and Check. -/
import Derived.Test.YtcjkcgfohmhbcabDoorDLw
import Derived.Test.YtcjkcgfohmhbcabDoorE6
import Derived.Test.YtcjkcgfohmhbcabDoorRX
import Derived.RangeFuncBound
import Derived.RangeFuncCalls
import Derived.Shelf.Abstract
import Derived.Shelf.RegionOpen
import Derived.OwnWalkIn
import Derived.TacticsInMore
import Derived.LoopNIn
import Derived.LoopIn
import Derived.Stop.RegionWithIn
import Derived.Lib.TrailingZeros
import Derived.Shelf.Spec.TrailingZeros
import Derived.Test.YtcjkcgfohmhbcabDoorDMe
import Derived.Test.YtcjkcgfohmhbcabDoorRY
import Derived.Maps.AppendAt
import Derived.Test.YtcjkcgfohmhbcabDoorP14
import Derived.Test.YtcjkcgfohmhbcabDoorPlT
/- The walk of the document's LevelOf, all its ways. -/
namespace Go.Proofs.YtcjkcgfohmhbcabDoor
open Go.RowKit

/-- A design of level t: its blocks' size, and in how many t points lie. -/
def LvOk (v : Nat) (B : List (List Nat)) (t k l : Nat) : Prop := B ≠ [] ∧ (∀ b ∈ B, b.length = k) ∧ Lev v B t l
theorem LvOk.one {v t k l k' l' : Nat} {B : List (List Nat)} (ht : t ≤ v) (h : LvOk v B t k l) (h' : LvOk v B t k' l') : k = k' ∧ l = l' := by
  obtain ⟨b, hb⟩ := List.exists_mem_of_ne_nil B h.1
  refine ⟨(h.2.1 b hb).symm.trans (h'.2.1 b hb), ?_⟩
  rw [← h.2.2 _ (range_pts ht) (by simp), ← h'.2.2 _ (range_pts ht) (by simp)]
/-- What is told of a level. -/
def LvT (v : Nat) (B : List (List Nat)) (t : Int) (e : Ending) : Prop :=
  ((t < 0 ∨ 4 < t ∨ (v : Int) < t) ∧ e = .returned (.tuple #[.int .i64 0, .int .i64 0, .int .i64 1])) ∨ (∃ m : Nat, t = m ∧ m ≤ 4 ∧ m ≤ v ∧ ((∃ k l : Nat, LvOk v B m k l ∧ e = .returned (.tuple #[.int .i64 (k : Int), .int .i64 (l : Int), .int .i64 0])) ∨ ((¬ ∃ k l, LvOk v B m k l) ∧ e = .returned (.tuple #[.int .i64 0, .int .i64 0, .int .i64 4]))))
theorem LvT.one {v : Nat} {B : List (List Nat)} {t : Int} {e e' : Ending} (h : LvT v B t e) (h' : LvT v B t e') : e = e' := by
  rcases h with ⟨h1, rfl⟩ | ⟨m, rfl, h4, hv, h⟩
  · rcases h' with ⟨_, rfl⟩ | ⟨m, rfl, _, _, _⟩
    · rfl
    · omega
  · rcases h' with ⟨h1, _⟩ | ⟨m', e, _, _, h'⟩
    · omega
    · obtain rfl : m = m' := by omega
      rcases h with ⟨k, l, ho, rfl⟩ | ⟨hn, rfl⟩
      · rcases h' with ⟨k', l', ho', rfl⟩ | ⟨hn, _⟩
        · obtain ⟨rfl, rfl⟩ := ho.one hv ho'
          rfl
        · exact (hn ⟨k, l, ho⟩).elim
      · rcases h' with ⟨k', l', ho', _⟩ | ⟨_, rfl⟩
        · exact (hn ⟨k', l', ho'⟩).elim
        · rfl
end Go.Proofs.YtcjkcgfohmhbcabDoor

/- The walk of choices: all sets of t of the first points, one after another. -/
namespace Go.Proofs.YtcjkcgfohmhbcabDoor
open Go.RowKit Go.Shelf

attribute [local go_sem] Oper.semAt_some

/-! ### The sets in their order -/
def chL : Nat → Nat → List Nat
  | 0, _ => [0]
  | t + 1, n => (List.range' t (n - t)).flatMap fun last => (chL t last).map fun s => s ||| 2 ^ last
def chC (t last : Nat) : Nat := ((List.range' t (last - t)).flatMap fun last => (chL t last).map fun s => s ||| 2 ^ last).length
theorem chC_succ {t last : Nat} (h : t ≤ last) : chC t (last + 1) = chC t last + (chL t last).length := by
  unfold chC
  rw [show last + 1 - t = (last - t) + 1 by omega, List.range'_concat, List.flatMap_append, List.length_append]
  congr 1
  simp [show t + (last - t) = last by omega]
theorem chL_len (t v : Nat) : (chL (t + 1) v).length = chC t v := rfl
theorem chC_zero (t : Nat) : chC t t = 0 := by unfold chC; simp
theorem chL_at {t last v i x : Nat} (h1 : t ≤ last) (h2 : last < v) (hx : (chL t last)[i]? = some x) : (chL (t + 1) v)[chC t last + i]? = some (x ||| 2 ^ last) := by
  have e : chL (t + 1) v = ((List.range' t (last - t)).flatMap fun last => (chL t last).map fun s => s ||| 2 ^ last) ++ (((chL t last).map fun s => s ||| 2 ^ last) ++ (List.range' (last + 1) (v - last - 1)).flatMap fun last => (chL t last).map fun s => s ||| 2 ^ last) := by
    show (List.range' t (v - t)).flatMap _ = _
    rw [show v - t = (last - t) + ((v - last - 1) + 1) by omega, ← List.range'_append, List.flatMap_append, Nat.one_mul, show t + (last - t) = last by omega, List.range'_succ, List.flatMap_cons]
  have hi := (List.getElem?_eq_some_iff.1 hx).1
  rw [e, List.getElem?_append_right (by unfold chC; omega)]
  have : chC t last + i - ((List.range' t (last - t)).flatMap fun last => (chL t last).map fun s => s ||| 2 ^ last).length = i := by unfold chC; omega
  rw [this, List.getElem?_append_left (by rw [List.length_map]; exact hi), List.getElem?_map, hx]
  rfl
theorem chL_lt : ∀ {t n : Nat} {s : Nat}, s ∈ chL t n → s < 2 ^ n
  | 0, n, s, h => by
    have : s = 0 := by simpa [chL] using h
    subst this
    exact Nat.two_pow_pos n
  | t + 1, n, s, h => by
    obtain ⟨last, h1, h2⟩ := List.mem_flatMap.1 h
    obtain ⟨x, h3, rfl⟩ := List.mem_map.1 h2
    have h4 := List.mem_range'_1.1 h1
    have h5 := chL_lt h3
    have h6 : last < n := by omega
    exact Nat.or_lt_two_pow (Nat.lt_of_lt_of_le h5 (Nat.pow_le_pow_right (by decide) (by omega))) (pow_lt64 h6)

def encS (s : Nat) : Array Value := #[.int .u64 (s : Int)]
def KS (bt bn l : Nat) (A B : World) : Prop := A.heap.size ≤ B.heap.size ∧ ∀ b, (b = bt ∨ b = bn ∨ l < b) → b < A.heap.size → B.heap[b]? = A.heap[b]?
theorem KS.trans {bt bn l : Nat} {A B C : World} (h : KS bt bn l A B) (k : KS bt bn l B C) : KS bt bn l A C := ⟨Nat.le_trans h.1 k.1, fun b hb hl => (k.2 b hb (Nat.lt_of_lt_of_le hl h.1)).trans (h.2 b hb hl)⟩
def AbO (W A B : World) : Prop := Below W.heap.size A B
theorem below_put {n l : Nat} (A : World) (o : Obj) (h : n ≤ l) : Below n A (A.putObj l o) := ⟨rfl, rfl, rfl, by simp [World.putObj], fun b hb => World.putObj_heap_other (by omega)⟩

theorem choices_any (v t : Nat) (w : World) :
    Calls Tryd.prog 76 #[.int .i64 (v : Int), .int .i64 (t : Int)] w fun e w' => e = .returned (.func (.func 83) #[] #[.pointer (some ⟨w.heap.size + 1, 0, none⟩), .pointer (some ⟨w.heap.size, 0, none⟩)]) ∧ w' = (w.alloc (.cells #[.int .i64 (v : Int)] 3)).alloc (.cells #[.int .i64 (t : Int)] 3) := by
  go_enter Tryd.func76, Tryd.ntmps76
  go_wp2
  go_ret
  exact ⟨rfl, rfl⟩

/-- In a round operations that defer nothing are carried out as everywhere. -/
theorem wpAnyIn_round {F : Fence} {n : Nat} {P : Program} {md : Region.Mode} {ops : Array Oper} {Q : Exit → Act → World → Prop} (l : Nat) (hd : ∀ (i : Nat) (o : Oper), ops[i]? = some o → ∀ c, o.op ≠ .defer c) :
    ∀ (fuel : Nat) (listed : Array Bool) (a : Act) (w : World), F.round = none → wpAnyIn F n P md ops Q fuel listed a w → wpAnyIn (F.inRound l) n P md ops Q fuel listed a w := by
  intro fuel
  induction fuel with
  | zero => intro listed a w _ h; exact h
  | succ fuel ih =>
    intro listed a w hro h
    refine ⟨h.1, fun i hi => ?_⟩
    have h2 := h.2 i hi
    unfold wpOpIn at h2 ⊢
    cases ho : ops[i]? with
    | none => rw [ho] at h2; exact ih _ _ _ hro h2
    | some o =>
      rw [ho] at h2
      simp only at h2 ⊢
      by_cases hw : Region.wanted o (yielded ops a.tmps) = true
      · rw [if_pos hw] at h2 ⊢
        have h3 := Oper.wpIn_mono (fun a w h => ih _ a w hro h) h2
        refine ⟨h3.1, ?_⟩
        have h4 := h3.2
        rw [Oper.semAt_eq _ _ _ (hd i o ho)] at h4 ⊢
        exact h4
      · rw [if_neg hw] at h2 ⊢
        exact ⟨h2.1, ih _ _ _ hro h2.2⟩
theorem wide_no {p : Prop} (h : Fence.wide.depth.isSome = true) : p := by cases h
theorem boxAt {W W' : World} {B : Nat} {t : TypeId} {v : Value} (h : Boxed W B t v) (hb : W'.heap[B]? = W.heap[B]?) : Boxed W' B t v := hb.trans h
theorem boxBelow {W W' : World} {B n : Nat} {t : TypeId} {v : Value} (h : Boxed W B t v) (hb : Below n W W') (hn : B < n) : Boxed W' B t v := boxAt h (hb.block B hn)
def markOf (r : Nat) : Deferred := { target := .collected r, args := #[] }

set_option maxHeartbeats 2000000 in
theorem ch_zero (v n bt bn : Nat) (w : World) (h1 : Boxed w bt 3 (.int .i64 ((0 : Nat) : Int))) : Runs n Tryd.prog 83 #[.pointer (some ⟨bt, 0, none⟩), .pointer (some ⟨bn, 0, none⟩)] (chL 0 v) encS (KS bt bn) AbO w := by
  intro l J Jx W hbW hl1 hl2 hJ hJx hY hJ0
  have c1 : Boxed W bt 3 _ := boxBelow h1 hbW h1.lt
  have bA : Below W.heap.size W (W.alloc (.cells #[.func (.yield l) #[] #[]] 118)) := balloc W _
  have c2 := Boxed.cell (boxBelow c1 bA (Boxed.lt c1))
  obtain ⟨fn, tmps, assign, body, hy, hR⟩ := hY 0 0 (W.alloc (.cells #[.func (.yield l) #[] #[]] 118)) rfl (hJ _ _ _ hJ0 bA)
  have hy' : (Instr.yield l #[Value.int .u64 0]).run Tryd.prog (W.alloc (.cells #[.func (.yield l) #[] #[]] 118)) = _ := hy
  refine callsIn_of_wp Tryd.func83 rfl trivial ?_ rfl
  simp only [Tryd.ntmps83, List.size_toArray, List.length_cons, List.length_nil, Nat.reduceAdd, Nat.reduceSub, Array.replicate_succ, Array.replicate_zero, List.push_toArray, List.append_toArray, List.nil_append, List.cons_append]
  gi_wp2
  refine ⟨(fun h => by cases h), hR.mono ?_⟩
  rintro e B (⟨rfl, hJ1, _⟩ | ⟨rfl, hJx1, _⟩)
  · gi_wp2
    exact bodyPost_ret (results_none rfl _ _ _) rfl ⟨⟨_, rfl⟩, .inl hJ1⟩
  · gi_wp2
    exact bodyPost_ret (results_none rfl _ _ _) rfl ⟨⟨_, rfl⟩, .inr ⟨0, hJx1⟩⟩

/-- What the iterator holds between two rounds. -/
structure ChI (W : World) (bt bn y4 : Nat) (yv : Value) (t v last : Nat) (rs : List Nat) (A : World) : Prop where
  y : Boxed A W.heap.size 118 yv
  l4 : Boxed A y4 3 (.int .i64 (last : Int))
  bt : Boxed A bt 3 (.int .i64 ((t + 1 : Nat) : Int))
  bn : Boxed A bn 3 (.int .i64 (v : Int))
  nd : rs.Nodup
  mks : ∀ r ∈ rs, W.heap.size ≤ r ∧ A.heap[r]? = some (.deferred (some []))
  lo : W.heap.size < y4
theorem ChI.mv {W A B : World} {bt bn y4 t v last : Nat} {yv : Value} {rs : List Nat} (h : ChI W bt bn y4 yv t v last rs A) (k : ∀ b, (b = bt ∨ b = bn ∨ b = y4 ∨ b = W.heap.size ∨ b ∈ rs) → B.heap[b]? = A.heap[b]?) : ChI W bt bn y4 yv t v last rs B :=
  ⟨boxAt h.y (k _ (by simp)), boxAt h.l4 (k _ (by simp)), boxAt h.bt (k _ (by simp)), boxAt h.bn (k _ (by simp)), h.nd, fun r hr => ⟨(h.mks r hr).1, (k r (by simp [hr])).trans (h.mks r hr).2⟩, h.lo⟩
theorem ChI.low {W A : World} {bt bn y4 t v last : Nat} {yv : Value} {rs : List Nat} (h : ChI W bt bn y4 yv t v last rs A) (b : Nat) (hb : b = bt ∨ b = bn ∨ b = y4 ∨ b = W.heap.size ∨ b ∈ rs) : b < A.heap.size := by
  rcases hb with rfl | rfl | rfl | rfl | hb
  · exact h.bt.lt
  · exact h.bn.lt
  · exact h.l4.lt
  · exact h.y.lt
  · exact (Array.getElem?_eq_some_iff.1 (h.mks b hb).2).1
theorem ChI.high {W A : World} {bt bn y4 t v last l : Nat} {yv : Value} {rs : List Nat} (h : ChI W bt bn y4 yv t v last rs A) (hl : l < W.heap.size) (b : Nat) (hb : b = bt ∨ b = bn ∨ b = y4 ∨ b = W.heap.size ∨ b ∈ rs) : b = bt ∨ b = bn ∨ l < b := by
  rcases hb with rfl | rfl | rfl | rfl | hb
  · exact .inl rfl
  · exact .inr (.inl rfl)
  · have := h.lo; exact .inr (.inr (by omega))
  · exact .inr (.inr hl)
  · have := (h.mks b hb).1; exact .inr (.inr (by omega))
theorem ChI.keep {W A B : World} {bt bn y4 t v last l : Nat} {yv : Value} {rs : List Nat} (h : ChI W bt bn y4 yv t v last rs A) (hl : l < W.heap.size) (k : ∀ b, (b = bt ∨ b = bn ∨ l < b) → b < A.heap.size → B.heap[b]? = A.heap[b]?) : ChI W bt bn y4 yv t v last rs B :=
  h.mv fun b hb => k b (h.high hl b hb) (h.low b hb)
theorem ChI.size {W A : World} {bt bn y4 t v last : Nat} {yv : Value} {rs : List Nat} (h : ChI W bt bn y4 yv t v last rs A) : y4 < A.heap.size := h.l4.lt
/-- All marks are taken over, at the function's end. -/
theorem marks_leave {F : Fence} {n : Nat} {P : Program} {fn : Func} {tmps : Array Value} {R : Ending → World → Prop} {m : Nat} (hres : fn.results = #[]) : ∀ (rs : List Nat) (A : World), rs.Nodup → (∀ r ∈ rs, m ≤ r ∧ A.heap[r]? = some (.deferred (some []))) → (∀ B v, Below m A B → R (.returned v) B) → LeavesInM F n P fn tmps R (rs.map markOf) .returning A := by
  intro rs
  induction rs with
  | nil =>
    intro A _ _ hR
    exact ⟨_, results_none hres _ _ _, hR A _ (Below.refl _ _)⟩
  | cons r rs ih =>
    intro A hn hm hR
    obtain ⟨h1, h2⟩ := hm r List.mem_cons_self
    obtain ⟨h3, h4⟩ := List.nodup_cons.1 hn
    refine ⟨by simp, .inl ⟨r, _, rfl, run_takeDeferred h2, ih _ h4 (fun q hq => ?_) fun B v hb => hR B v ((below_put A _ h1).trans hb)⟩⟩
    refine ⟨(hm q (List.mem_cons_of_mem _ hq)).1, (World.putObj_heap_other (show q ≠ r from fun e => h3 (e ▸ hq))).trans (hm q (List.mem_cons_of_mem _ hq)).2⟩

def boxN (w : World) : Value → Nat
  | .pointer (some a) => match w.cell? a with
    | some (.int _ n) => n.toNat
    | _ => 0
  | _ => 0
theorem boxN_of {w : World} {b n : Nat} (h : Boxed w b 3 (.int .i64 (n : Int))) : boxN w (.pointer (some ⟨b, 0, none⟩)) = n := by
  show (match w.cell? ⟨b, 0, none⟩ with
    | some (.int _ n) => n.toNat
    | _ => 0) = n
  rw [h.cell]
  rfl

set_option maxRecDepth 100000 in
set_option maxHeartbeats 8000000 in
theorem ch_succ (t : Nat) (ht : t < 4) (ih : ∀ (v n bt bn : Nat) (w : World), v ≤ 40 → Boxed w bt 3 (.int .i64 (t : Int)) → Boxed w bn 3 (.int .i64 (v : Int)) → Runs n Tryd.prog 83 #[.pointer (some ⟨bt, 0, none⟩), .pointer (some ⟨bn, 0, none⟩)] (chL t v) encS (KS bt bn) AbO w)
    (v n bt bn : Nat) (w : World) (hv : v ≤ 40) (h1 : Boxed w bt 3 (.int .i64 ((t + 1 : Nat) : Int))) (h2 : Boxed w bn 3 (.int .i64 (v : Int))) :
    Runs n Tryd.prog 83 #[.pointer (some ⟨bt, 0, none⟩), .pointer (some ⟨bn, 0, none⟩)] (chL (t + 1) v) encS (KS bt bn) AbO w := by
  intro l J Jx W hbW hl1 hl2 hJ hJx hY hJ0
  have HJ : Hid (∀ i A B, J i A → Below W.heap.size A B → J i B) := hJ
  have HJX : Hid (∀ i A B, Jx i A → Below W.heap.size A B → Jx i B) := hJx
  have HY : Hid (∀ (i x : Nat) (A : World) (m : Nat), (chL (t + 1) v)[i]? = some x → J i A → YieldAt Fence.wide m Tryd.prog l #[.int .u64 (x : Int)] A fun e B => (e = .returned (.bool true) ∧ J (i + 1) B ∧ KS bt bn l A B) ∨ (e = .returned (.bool false) ∧ Jx i B ∧ KS bt bn l A B)) := fun i x A m hx hA => YieldAt.anyD (hY i x A hx hA) m
  have HIH : Hid (∀ (v n bt bn : Nat) (w : World), v ≤ 40 → Boxed w bt 3 (.int .i64 (t : Int)) → Boxed w bn 3 (.int .i64 (v : Int)) → Runs n Tryd.prog 83 #[.pointer (some ⟨bt, 0, none⟩), .pointer (some ⟨bn, 0, none⟩)] (chL t v) encS (KS bt bn) AbO w) := ih
  have c1 : Boxed W bt 3 _ := boxBelow h1 hbW h1.lt
  have c2 : Boxed W bn 3 _ := boxBelow h2 hbW h2.lt
  clear hJ hJx hY ih h1 h2
  obtain ⟨W1, HW1⟩ : ∃ W1, Hid (W1 = W.alloc (.cells #[.func (.yield l) #[] #[]] 118)) := ⟨_, rfl⟩
  have bA : Below W.heap.size W (W.alloc (.cells #[.func (.yield l) #[] #[]] 118)) := balloc W _
  have d1 := boxBelow c1 bA c1.lt
  have d2 := boxBelow c2 bA c2.lt
  have d3 := Boxed.new W 118 (.func (.yield l) #[] #[])
  have x1 := d1.cell
  have hne : (((t + 1 : Nat) : Int) == 0) = false := by simp; omega
  have hsub : ((t + 1 : Nat) : Int) - 1 = (t : Int) := by omega
  obtain ⟨T, HT⟩ : ∃ T : Int, Hid (T = ((t + 1 : Nat) : Int)) := ⟨_, rfl⟩
  have hT5 : 1 ≤ T ∧ T ≤ 5 := by have := HT.out; omega
  rw [← HT.out] at x1 hne hsub
  refine callsIn_of_wp_marks Tryd.func83 rfl trivial ?_ rfl
  simp only [Tryd.ntmps83, List.size_toArray, List.length_cons, List.length_nil, Nat.reduceAdd, Nat.reduceSub, Array.replicate_succ, Array.replicate_zero, List.push_toArray, List.append_toArray, List.nil_append, List.cons_append]
  gi_wp2
  refine wpIn_loop (fun a A => ∃ (u5 u12 u13 u14 u15 u16 u17 u18 u19 u20 u21 u22 u23 u24 u25 u26 u27 u28 u29 : Value) (last y4 : Nat) (rs : List Nat), a = { tmps := #[.func (.yield l) #[] #[], .pointer (some ⟨bt, 0, none⟩), .pointer (some ⟨bn, 0, none⟩), .pointer (some ⟨W.heap.size, 0, none⟩), .pointer (some ⟨y4, 0, none⟩), u5, .int .i64 T, .bool false, undef, undef, .int .i64 T, .int .i64 (t : Int), u12, u13, u14, u15, u16, u17, u18, u19, u20, u21, u22, u23, u24, u25, u26, u27, u28, u29], defers := rs.map markOf } ∧ t ≤ last ∧ (last ≤ v ∨ last = t) ∧ ChI W bt bn y4 (.func (.yield l) #[] #[]) t v last rs A ∧ J (chC t last) A) (fun a A => v - boxN A (a.tmps.getD 4 undef)) ?start ?round
  case start =>
    refine ⟨undef, undef, undef, undef, undef, undef, undef, undef, undef, undef, undef, undef, undef, undef, undef, undef, undef, undef, undef, t, W.heap.size + 1, [], rfl, Nat.le_refl _, .inr rfl, ?_, ?_⟩
    · have f1 := Boxed.new (W.alloc (.cells #[.func (.yield l) #[] #[]] 118)) 3 (.int .i64 (t : Int))
      rw [World.size_alloc] at f1
      exact ⟨d3.alloc _, f1, d1.alloc _, d2.alloc _, List.nodup_nil, fun r hr => by simp at hr, by omega⟩
    · rw [chC_zero]
      exact HJ.out _ _ _ hJ0 (bA.alloc (by simp) _)
  case round =>
    rintro a A ⟨u5, u12, u13, u14, u15, u16, u17, u18, u19, u20, u21, u22, u23, u24, u25, u26, u27, u28, u29, last, y4, rs, rfl, hl3, hl4, hC, hJA⟩
    have HM : Hid (boxN A (.pointer (some ⟨y4, 0, none⟩)) = last) := boxN_of hC.l4
    have k4 := hC.l4.cell
    have kt := hC.bt.cell
    have kn := hC.bn.cell
    rw [← HT.out] at kt
    by_cases hlt : last < v
    · have hd : decide ((last : Int) < (v : Int)) = true := by simp; omega
      have CC := choices_any last t A
      gi_wp2_with (refine ⟨trivial, (fun h => wide_no h), (callsIn_wide.2 CC).mono ?_⟩; rintro e A2 ⟨rfl, hA2⟩; clear CC)
      have hWA : W.heap.size + 2 ≤ A.heap.size := by have := hC.size; have := hC.lo; omega
      have bA2 : Below A.heap.size A ((A.alloc (.cells #[.int .i64 (last : Int)] 3)).alloc (.cells #[.int .i64 (t : Int)] 3)) := (balloc A _).alloc (by simp) _
      have e1 : Boxed ((A.alloc (.cells #[.int .i64 (last : Int)] 3)).alloc (.cells #[.int .i64 (t : Int)] 3)) (A.heap.size + 1) 3 (.int .i64 (t : Int)) := by
        have h := Boxed.new (A.alloc (.cells #[.int .i64 (last : Int)] 3)) 3 (.int .i64 (t : Int))
        rw [World.size_alloc] at h
        exact h
      have e2 : Boxed ((A.alloc (.cells #[.int .i64 (last : Int)] 3)).alloc (.cells #[.int .i64 (t : Int)] 3)) A.heap.size 3 (.int .i64 (last : Int)) := (Boxed.new A 3 (.int .i64 (last : Int))).alloc _
      have sA2 : ((A.alloc (.cells #[.int .i64 (last : Int)] 3)).alloc (.cells #[.int .i64 (t : Int)] 3)).heap.size = A.heap.size + 2 := by simp
      obtain ⟨A2, HA2⟩ : ∃ A2, Hid (A2 = (A.alloc (.cells #[.int .i64 (last : Int)] 3)).alloc (.cells #[.int .i64 (t : Int)] 3)) := ⟨_, rfl⟩
      rw [← HA2.out] at bA2 e1 e2 sA2 ⊢
      have hC2 : ChI W bt bn y4 (.func (.yield l) #[] #[]) t v last rs A2 := hC.keep hl2 fun b _ hb => bA2.block b hb
      have hJ2 : J (chC t last) A2 := HJ.out _ _ _ hJA (bA2.mono (by omega))
      clear HA2
      have hsz : ∀ V, Below A2.heap.size A2 V → ChI W bt bn y4 (.func (.yield l) #[] #[]) t v last rs V := fun V hb => hC2.keep hl2 fun b _ h => hb.block b h
      refine wpIn_runs (ys := chL t last) (enc := encS) (Kp := KS (A.heap.size + 1) A.heap.size) (Ab := AbO) (gf := 83) (lb := #[.pointer (some ⟨A.heap.size + 1, 0, none⟩), .pointer (some ⟨A.heap.size, 0, none⟩)]) rfl (enters_of Tryd.func83 (by kernel_rfl) rfl)
        (HIH.out last (n - 1) _ _ A2 (by omega) e1 e2) (fun _ => rfl) KS.trans ?hKb ?hAb
        (fun i B => J (chC t last + i) B ∧ ChI W bt bn y4 (.func (.yield l) #[] #[]) t v last rs B ∧ A2.heap.size ≤ B.heap.size) (fun i B => Jx (chC t last + i) B ∧ ChI W bt bn y4 (.func (.yield l) #[] #[]) t v last rs B ∧ A2.heap.size ≤ B.heap.size) ?hIp ?hXp ?hIa ?hXa ?h0
        (fun x => { tmps := #[.func (.yield l) #[] #[], .pointer (some ⟨bt, 0, none⟩), .pointer (some ⟨bn, 0, none⟩), .pointer (some ⟨W.heap.size, 0, none⟩), .pointer (some ⟨y4, 0, none⟩), .int .u64 (x : Int), .int .i64 T, .bool false, undef, undef, .int .i64 T, .int .i64 (t : Int), .int .i64 (last : Int), .int .i64 (v : Int), .bool true, u15, u16, .int .i64 (last : Int), .int .i64 T, .int .i64 (t : Int), .func (.func 83) #[] #[.pointer (some ⟨A.heap.size + 1, 0, none⟩), .pointer (some ⟨A.heap.size, 0, none⟩)], .int .u64 (x : Int), u22, u23, u24, u25, u26, u27, u28, u29], defers := [] }) ?assign ?body ?done ?stop
      case hKb =>
        intro B o hB
        exact ⟨by simp [World.putObj], fun b hb _ => World.putObj_heap_other (by omega)⟩
      case hAb =>
        intro V B C h3 h4 hb b hlt
        exact hb.block b (by omega)
      case hIp =>
        rintro i B o o' ⟨g1, g2, g3⟩ _ _
        exact ⟨HJ.out _ _ _ g1 (below_put _ _ (by omega)), g2.mv fun b hb => World.putObj_heap_other (by have := hC2.low b hb; omega), by simpa [World.putObj] using g3⟩
      case hXp =>
        rintro i B o o' ⟨g1, g2, g3⟩ _ _
        exact ⟨HJX.out _ _ _ g1 (below_put _ _ (by omega)), g2.mv fun b hb => World.putObj_heap_other (by have := hC2.low b hb; omega), by simpa [World.putObj] using g3⟩
      case hIa =>
        rintro i V B C ⟨g1, g2, g3⟩ _ h4 hb
        exact ⟨HJ.out _ _ _ g1 (Below.mono hb (by omega)), g2.mv fun b h => hb.block b (by have := hC2.low b h; omega), Nat.le_trans g3 hb.size⟩
      case hXa =>
        rintro i V B C ⟨g1, g2, g3⟩ _ h4 hb
        exact ⟨HJX.out _ _ _ g1 (Below.mono hb (by omega)), g2.mv fun b h => hb.block b (by have := hC2.low b h; omega), Nat.le_trans g3 hb.size⟩
      case h0 =>
        intro V hb
        exact ⟨HJ.out _ _ _ hJ2 (hb.mono (by omega)), hsz V hb, hb.size⟩
      case assign =>
        intro l x W K _ hK
        unfold encS
        gi_wp2
        exact hK
      case body =>
        rintro i x B hx ⟨g1, g2, g3⟩ hD
        have q3 := g2.y.cell
        have q4 := g2.l4.cell
        have hlast : last < 64 := by omega
        have hx64 : x < 2 ^ 64 := Nat.lt_of_lt_of_le (chL_lt (List.mem_of_getElem? hx)) (Nat.pow_le_pow_right (by decide) (by omega))
        have hor := orN hx64 (pow_lt64 hlast)
        have hat := chL_at hl3 hlt hx
        obtain ⟨z, Hz⟩ : ∃ z, Hid (z = x ||| 2 ^ last) := ⟨_, (rfl : x ||| 2 ^ last = x ||| 2 ^ last)⟩
        obtain ⟨y, Hy⟩ : ∃ y, Hid (y = 2 ^ last) := ⟨_, (rfl : 2 ^ last = 2 ^ last)⟩
        have O : ∀ C, Calls Tryd.prog 72 #[.int .i64 (last : Int)] C fun e w' => e = .returned (.int .u64 (y : Int)) ∧ w' = C := fun C => by
          rw [Hy.out]; exact only_any last hlast C
        rw [← Hz.out] at hat hor
        rw [← Hy.out] at hor
        obtain ⟨fn, tmps, assign, body, hy, hR⟩ := HY.out (chC t last + i) z B.drew (n - 1 - 1 - 1) hat (HJ.out _ _ _ g1 (bdrewN (Below.refl _ _) 1))
        have KD : Hid (∀ C, KS bt bn l B.drew C → C.heap[A2.heap.size]? = B.heap[A2.heap.size]?) := fun C h => h.2 _ (.inr (.inr (by omega))) (show A2.heap.size < B.heap.size by omega)
        have KD1 : Hid (∀ C, KS bt bn l B.drew C → C.heap[A2.heap.size + 1]? = B.heap[A2.heap.size + 1]?) := fun C h => h.2 _ (.inr (.inr (by omega))) (show A2.heap.size + 1 < B.heap.size by omega)
        have KK : Hid (∀ C, KS bt bn l B.drew C → KS (A.heap.size + 1) A.heap.size (A2.heap.size + 1) B C) := fun C h => ⟨h.1, fun b hb hlt => h.2 b (.inr (.inr (by omega))) hlt⟩
        have KI : Hid (∀ C, KS bt bn l B.drew C → ChI W bt bn y4 (.func (.yield l) #[] #[]) t v last rs C ∧ A2.heap.size ≤ C.heap.size) := fun C h => ⟨g2.keep hl2 fun b hb hlt => h.2 b hb hlt, Nat.le_trans g3 h.1⟩
        clear hat
        gi_wp2
        refine wpIn_region_any (by kernel_rfl) (wpAnyIn_round (A2.heap.size + 1) (fun i o h c e => by revert h; revert i; intro i h; have hm := Array.mem_of_getElem? h; simp at hm; rcases hm with rfl | rfl | rfl | rfl | rfl | rfl | rfl <;> cases e) _ _ _ _ rfl ?_)
        try (change wpAnyIn _ _ _ _ _ _ _ _ _ (World.drew _))
        refine wpAnyIn_take (i := 1) (v := .int .u64 (x : Int)) rfl rfl (by kernel_rfl) (by kernel_rfl) (by kernel_rfl) (fun _ _ _ h => h) ⟨Or.inl ⟨by rfl, fun w => by go_simp⟩, fun _ => rfl⟩ ?_
        refine wpAnyIn_ready (rs := [0, 2]) (by kernel_rfl) (by simp) (AllReadyIn.cons rfl (fun K hK => ?_) (AllReadyIn.cons rfl (fun K hK => ?_) AllReadyIn.nil))
        · go_simp
          refine hK _ _ ?_
          clear hK K
          refine wpAnyIn_ready (rs := [2]) (by kernel_rfl) (by simp) (AllReadyIn.cons rfl (fun K hK => ?_) AllReadyIn.nil)
          go_simp
          refine hK _ _ ?_
          clear hK K
          refine wpAnyIn_ready (rs := [3]) (by kernel_rfl) (by simp) (AllReadyIn.cons rfl (fun K hK => ?_) AllReadyIn.nil)
          go_simp
          refine ⟨trivial, (fun h => wide_no h), (callsIn_wide.2 (O _)).mono ?_⟩
          rintro e C0 ⟨rfl, hC0⟩
          subst hC0
          refine hK _ _ ?_
          clear hK K
          refine wpAnyIn_take (i := 4) (v := .int .u64 (z : Int)) rfl rfl (by kernel_rfl) (by kernel_rfl) (by kernel_rfl) (fun _ _ _ h => h) ⟨Or.inl ⟨by rfl, fun w => by go_simp⟩, fun _ => rfl⟩ ?_
          refine wpAnyIn_ready (rs := [5]) (by kernel_rfl) (by simp) (AllReadyIn.cons rfl (fun K hK => ?_) AllReadyIn.nil)
          go_simp
          refine ⟨(fun h => wide_no h), hR.mono ?_⟩
          rintro e C (⟨rfl, hJ3, hk3⟩ | ⟨rfl, hJ3, hk3⟩)
          · refine hK _ _ ?_
            clear hK K
            refine wpAnyIn_take (i := 6) (v := .bool false) rfl rfl (by kernel_rfl) (by kernel_rfl) (by kernel_rfl) (fun _ _ _ h => h) ⟨Or.inl ⟨by rfl, fun w => by go_simp⟩, fun _ => rfl⟩ ?_
            refine wpAnyIn_done (by kernel_rfl) ?_ _
            gi_wp2
            exact ⟨⟨KD.out C hk3, KD1.out C hk3⟩, KK.out C hk3, hJ3, KI.out C hk3⟩
          · refine hK _ _ ?_
            clear hK K
            refine wpAnyIn_take (i := 6) (v := .bool true) rfl rfl (by kernel_rfl) (by kernel_rfl) (by kernel_rfl) (fun _ _ _ h => h) ⟨Or.inl ⟨by rfl, fun w => by go_simp⟩, fun _ => rfl⟩ ?_
            refine wpAnyIn_done (by kernel_rfl) ?_ _
            gi_wp2
            exact ⟨⟨KD.out C hk3, KD1.out C hk3⟩, KK.out C hk3, hJ3, KI.out C hk3⟩
        · go_simp
          refine hK _ _ ?_
          clear hK K
          refine wpAnyIn_ready (rs := [0, 3]) (by kernel_rfl) (by simp) (AllReadyIn.cons rfl (fun K hK => ?_) (AllReadyIn.cons rfl (fun K hK => ?_) AllReadyIn.nil))
          · go_simp
            refine hK _ _ ?_
            clear hK K
            refine wpAnyIn_ready (rs := [3]) (by kernel_rfl) (by simp) (AllReadyIn.cons rfl (fun K hK => ?_) AllReadyIn.nil)
            go_simp
            refine ⟨trivial, (fun h => wide_no h), (callsIn_wide.2 (O _)).mono ?_⟩
            rintro e C0 ⟨rfl, hC0⟩
            subst hC0
            refine hK _ _ ?_
            clear hK K
            refine wpAnyIn_take (i := 4) (v := .int .u64 (z : Int)) rfl rfl (by kernel_rfl) (by kernel_rfl) (by kernel_rfl) (fun _ _ _ h => h) ⟨Or.inl ⟨by rfl, fun w => by go_simp⟩, fun _ => rfl⟩ ?_
            refine wpAnyIn_ready (rs := [5]) (by kernel_rfl) (by simp) (AllReadyIn.cons rfl (fun K hK => ?_) AllReadyIn.nil)
            go_simp
            refine ⟨(fun h => wide_no h), hR.mono ?_⟩
            rintro e C (⟨rfl, hJ3, hk3⟩ | ⟨rfl, hJ3, hk3⟩)
            · refine hK _ _ ?_
              clear hK K
              refine wpAnyIn_take (i := 6) (v := .bool false) rfl rfl (by kernel_rfl) (by kernel_rfl) (by kernel_rfl) (fun _ _ _ h => h) ⟨Or.inl ⟨by rfl, fun w => by go_simp⟩, fun _ => rfl⟩ ?_
              refine wpAnyIn_done (by kernel_rfl) ?_ _
              gi_wp2
              exact ⟨⟨KD.out C hk3, KD1.out C hk3⟩, KK.out C hk3, hJ3, KI.out C hk3⟩
            · refine hK _ _ ?_
              clear hK K
              refine wpAnyIn_take (i := 6) (v := .bool true) rfl rfl (by kernel_rfl) (by kernel_rfl) (by kernel_rfl) (fun _ _ _ h => h) ⟨Or.inl ⟨by rfl, fun w => by go_simp⟩, fun _ => rfl⟩ ?_
              refine wpAnyIn_done (by kernel_rfl) ?_ _
              gi_wp2
              exact ⟨⟨KD.out C hk3, KD1.out C hk3⟩, KK.out C hk3, hJ3, KI.out C hk3⟩
          · go_simp
            refine ⟨trivial, (fun h => wide_no h), (callsIn_wide.2 (O _)).mono ?_⟩
            rintro e C0 ⟨rfl, hC0⟩
            subst hC0
            refine hK _ _ ?_
            clear hK K
            refine wpAnyIn_take (i := 4) (v := .int .u64 (z : Int)) rfl rfl (by kernel_rfl) (by kernel_rfl) (by kernel_rfl) (fun _ _ _ h => h) ⟨Or.inl ⟨by rfl, fun w => by go_simp⟩, fun _ => rfl⟩ ?_
            refine wpAnyIn_ready (rs := [0]) (by kernel_rfl) (by simp) (AllReadyIn.cons rfl (fun K hK => ?_) AllReadyIn.nil)
            go_simp
            refine hK _ _ ?_
            clear hK K
            refine wpAnyIn_ready (rs := [5]) (by kernel_rfl) (by simp) (AllReadyIn.cons rfl (fun K hK => ?_) AllReadyIn.nil)
            go_simp
            refine ⟨(fun h => wide_no h), hR.mono ?_⟩
            rintro e C (⟨rfl, hJ3, hk3⟩ | ⟨rfl, hJ3, hk3⟩)
            · refine hK _ _ ?_
              clear hK K
              refine wpAnyIn_take (i := 6) (v := .bool false) rfl rfl (by kernel_rfl) (by kernel_rfl) (by kernel_rfl) (fun _ _ _ h => h) ⟨Or.inl ⟨by rfl, fun w => by go_simp⟩, fun _ => rfl⟩ ?_
              refine wpAnyIn_done (by kernel_rfl) ?_ _
              gi_wp2
              exact ⟨⟨KD.out C hk3, KD1.out C hk3⟩, KK.out C hk3, hJ3, KI.out C hk3⟩
            · refine hK _ _ ?_
              clear hK K
              refine wpAnyIn_take (i := 6) (v := .bool true) rfl rfl (by kernel_rfl) (by kernel_rfl) (by kernel_rfl) (fun _ _ _ h => h) ⟨Or.inl ⟨by rfl, fun w => by go_simp⟩, fun _ => rfl⟩ ?_
              refine wpAnyIn_done (by kernel_rfl) ?_ _
              gi_wp2
              exact ⟨⟨KD.out C hk3, KD1.out C hk3⟩, KK.out C hk3, hJ3, KI.out C hk3⟩
      case done =>
        rintro B ⟨g1, g2, g3⟩ hK
        rw [← chC_succ hl3] at g1
        have q4 := g2.l4.cell
        have q5 := (g2.l4.alloc (.cells #[.int .i64 0] 3)).cell
        have hlast : (last : Int) + 1 ≤ 100 := by omega
        gi_wp2
        have f1 : Boxed (B.alloc (.cells #[.int .i64 ((last + 1 : Nat) : Int)] 3)) B.heap.size 3 (.int .i64 ((last + 1 : Nat) : Int)) := Boxed.new B 3 _
        have hBs : A2.heap.size < B.heap.size := (Array.getElem?_eq_some_iff.1 hK).1
        have bB : Below B.heap.size B (B.alloc (.cells #[.int .i64 ((last + 1 : Nat) : Int)] 3)) := balloc _ _
        have g5 := g2.keep hl2 fun b _ hb => bB.block b hb
        refine ⟨⟨_, _, _, _, _, _, _, _, _, _, _, _, _, _, _, _, _, _, _, last + 1, B.heap.size, A2.heap.size :: rs, rfl, by omega, .inl (by omega), ⟨g5.y, f1, g5.bt, g5.bn, List.nodup_cons.2 ⟨fun h => ?_, g2.nd⟩, fun r hr => ?_, by omega⟩, HJ.out _ _ _ g1 (bB.mono (by omega))⟩, ?_⟩
        · have := hC2.low _ (.inr (.inr (.inr (.inr h)))); omega
        · rcases List.mem_cons.1 hr with rfl | hr
          · exact ⟨by omega, (bB.block _ hBs).trans hK⟩
          · exact g5.mks r hr
        · have e1 : boxN (B.alloc (.cells #[.int .i64 ((last + 1 : Nat) : Int)] 3)) (.pointer (some ⟨B.heap.size, 0, none⟩)) = last + 1 := boxN_of f1
          have e2 := HM.out
          show v - boxN (B.alloc (.cells #[.int .i64 ((last + 1 : Nat) : Int)] 3)) (.pointer (some ⟨B.heap.size, 0, none⟩)) < v - boxN A (.pointer (some ⟨y4, 0, none⟩))
          omega
      case stop =>
        rintro i B ⟨g1, g2, g3⟩ hK
        gi_wp2
        refine marks_leave (m := W.heap.size) rfl (A2.heap.size :: rs) B (List.nodup_cons.2 ⟨fun h => ?_, g2.nd⟩) (fun r hr => ?_) fun C u hb => ⟨⟨_, rfl⟩, .inr ⟨_, HJX.out _ _ _ g1 hb⟩⟩
        · have := hC2.low _ (.inr (.inr (.inr (.inr h)))); omega
        · rcases List.mem_cons.1 hr with rfl | hr
          · exact ⟨by omega, hK⟩
          · exact g2.mks r hr
    · have hd : decide ((last : Int) < (v : Int)) = false := by simp; omega
      have hlen : chC t last = (chL (t + 1) v).length := by
        rw [chL_len]
        rcases hl4 with h | h
        · congr 1; omega
        · subst h; unfold chC; rw [show last - last = 0 by omega, show v - last = 0 by omega]
      gi_wp2
      refine marks_leave (m := W.heap.size) rfl rs A hC.nd hC.mks fun C u hb => ⟨⟨_, rfl⟩, .inl ?_⟩
      rw [← hlen]
      exact HJ.out _ _ _ hJA hb

theorem ch_runs : ∀ (t : Nat), t ≤ 4 → ∀ (v n bt bn : Nat) (w : World), v ≤ 40 → Boxed w bt 3 (.int .i64 (t : Int)) → Boxed w bn 3 (.int .i64 (v : Int)) → Runs n Tryd.prog 83 #[.pointer (some ⟨bt, 0, none⟩), .pointer (some ⟨bn, 0, none⟩)] (chL t v) encS (KS bt bn) AbO w
  | 0, _, v, n, bt, bn, w, _, h1, _ => ch_zero v n bt bn w h1
  | t + 1, ht, v, n, bt, bn, w, hv, h1, h2 => ch_succ t (by omega) (ch_runs t (by omega)) v n bt bn w hv h1 h2

end Go.Proofs.YtcjkcgfohmhbcabDoor

/- The walk of Level, and what it tells. -/
/- The walk of together. -/
namespace Go.Proofs.YtcjkcgfohmhbcabDoor
open Go.RowKit Go.Shelf

attribute [local go_sem] Oper.semAt_some

def hN (S : List Nat) (s : Nat) : Nat := S.countP fun b => decide (an s b = 0)

theorem res_two {fn : Func} {a b : Tmp} {tmps : Array Value} {w : World} {g1 g2 : Nat} {x : Int} {q : Bool} (h : fn.results = #[.cell a 3, .cell b 4]) (p1 : tmps.getD a undef = .pointer (some ⟨g1, 0, none⟩)) (p2 : tmps.getD b undef = .pointer (some ⟨g2, 0, none⟩)) (h1 : Boxed w g1 3 (.int .i64 x)) (h2 : Boxed w g2 4 (.bool q)) :
    (results fn tmps).run Tryd.prog w = .ok (.tuple #[.int .i64 x, .bool q]) w := by
  have e1 := h1.cell
  have e2 := h2.cell
  rw [Array.getD_eq_getD_getElem?] at p1 p2
  simp [results, h, go_sem, p1, p2, e1, e2]

/-- What together holds. -/
structure TgI (w w3 : World) (u r6 r7 : Value) (lam : Nat) (B : World) : Prop where
  b5 : Boxed B w.heap.size 96 u
  b6 : Boxed B (w.heap.size + 1) 3 r6
  b7 : Boxed B (w.heap.size + 1 + 1) 4 r7
  b8 : Boxed B w3.heap.size 3 (.int .i64 (lam : Int))
  bw : Below w.heap.size w B
theorem TgI.mv {w w3 A B : World} {u r6 r7 : Value} {lam : Nat} (h : TgI w w3 u r6 r7 lam A) (k : Below (w3.heap.size + 1) A B) (h3 : w3.heap.size = w.heap.size + 3) : TgI w w3 u r6 r7 lam B :=
  ⟨boxBelow h.b5 k (by omega), boxBelow h.b6 k (by omega), boxBelow h.b7 k (by omega), boxBelow h.b8 k (by omega), h.bw.trans (k.mono (by omega))⟩

set_option maxRecDepth 100000 in
set_option maxHeartbeats 8000000 in
theorem together_any (v t : Nat) (S : List Nat) (u : Value) (w : World) (hv : v ≤ 40) (ht : t ≤ 4) (hu : SS w u S) (hl : S.length ≤ 200) (hS : ∀ x ∈ S, x < 2 ^ 64) :
    Calls Tryd.prog 67 #[.int .i64 (v : Int), .int .i64 (t : Int), u] w fun e w' => ((e = .returned (.tuple #[.int .i64 (hN S (2 ^ t - 1) : Int), .bool true]) ∧ ∀ s ∈ chL t v, hN S s = hN S (2 ^ t - 1)) ∨ (e = .returned (.tuple #[.int .i64 0, .bool false]) ∧ ∃ s ∈ chL t v, hN S s ≠ hN S (2 ^ t - 1))) ∧ Below w.heap.size w w' := by
  refine (callsIn_wide (n := 4)).1 ?_
  have hu0 := hu
  obtain ⟨ua, uc, eu, _⟩ := hu0
  have hb3 : Below w.heap.size w (((w.alloc (.cells #[u] 96)).alloc (.cells #[.int .i64 0] 3)).alloc (.cells #[.bool false] 4)) := ((balloc w _).alloc (by simp) _).alloc (by simp; omega) _
  have f5 : Boxed (((w.alloc (.cells #[u] 96)).alloc (.cells #[.int .i64 0] 3)).alloc (.cells #[.bool false] 4)) w.heap.size 96 u := ((Boxed.new w 96 u).alloc _).alloc _
  have f6 : Boxed (((w.alloc (.cells #[u] 96)).alloc (.cells #[.int .i64 0] 3)).alloc (.cells #[.bool false] 4)) (w.heap.size + 1) 3 (.int .i64 0) := by
    have h := Boxed.new (w.alloc (.cells #[u] 96)) 3 (.int .i64 0)
    rw [World.size_alloc] at h
    exact h.alloc _
  have f7 : Boxed (((w.alloc (.cells #[u] 96)).alloc (.cells #[.int .i64 0] 3)).alloc (.cells #[.bool false] 4)) (w.heap.size + 1 + 1) 4 (.bool false) := by
    have h := Boxed.new ((w.alloc (.cells #[u] 96)).alloc (.cells #[.int .i64 0] 3)) 4 (.bool false)
    rw [World.size_alloc, World.size_alloc] at h
    exact h
  have s3 : (((w.alloc (.cells #[u] 96)).alloc (.cells #[.int .i64 0] 3)).alloc (.cells #[.bool false] 4)).heap.size = w.heap.size + 3 := by simp
  obtain ⟨w3, Hw3⟩ : ∃ w3, Hid (w3 = ((w.alloc (.cells #[u] 96)).alloc (.cells #[.int .i64 0] 3)).alloc (.cells #[.bool false] 4)) := ⟨_, rfl⟩
  rw [← Hw3.out] at hb3 f5 f6 f7 s3
  have HH : Hid (∀ (s : Nat) C, s < 2 ^ 64 → Below w.heap.size w C → Calls Tryd.prog 74 #[u, .int .u64 (s : Int)] C fun e w' => e = .returned (.int .i64 (hN S s : Int)) ∧ w' = C) := fun s C hs hb => holding_any S s u C (hu.below hb) hl hs hS
  have HB : Hid (∀ C, Calls Tryd.prog 75 #[.int .i64 (t : Int)] C fun e w' => e = .returned (.int .u64 ((2 ^ t - 1 : Nat) : Int)) ∧ w' = C) := fun C => below_any t (by omega) C
  have h64 : 2 ^ t - 1 < 2 ^ 64 := by have := pow_lt64 (n := t) (m := 64) (by omega); omega
  obtain ⟨m, Hm⟩ : ∃ m, Hid (m = 2 ^ t - 1) := ⟨_, (rfl : 2 ^ t - 1 = 2 ^ t - 1)⟩
  rw [← Hm.out] at HB h64 ⊢
  obtain ⟨lam, Hlam⟩ : ∃ lam, Hid (hN S m = lam) := ⟨_, rfl⟩
  rw [Hlam.out]
  have HS3 : Hid (w3.heap.size = w.heap.size + 3) := s3
  have q5 := f5.cell
  have q5d : w3.drew.cell? ⟨w.heap.size, 0, none⟩ = some u := q5
  have q5a : (w3.alloc (.cells #[.int .i64 0] 3)).cell? ⟨w.heap.size, 0, none⟩ = some u := (f5.alloc _).cell
  have C20 : Calls Tryd.prog 74 #[u, .int .u64 (m : Int)] w3.drew fun e w' => e = .returned (.int .i64 (lam : Int)) ∧ w' = w3.drew := by rw [← Hlam.out]; exact HH.out m _ h64 (bdrewN hb3 1)
  have C20a : Calls Tryd.prog 74 #[u, .int .u64 (m : Int)] ((w3.alloc (.cells #[.int .i64 0] 3)).drew) fun e w' => e = .returned (.int .i64 (lam : Int)) ∧ w' = (w3.alloc (.cells #[.int .i64 0] 3)).drew := by rw [← Hlam.out]; exact HH.out m _ h64 (bdrewN (hb3.alloc (by have := HS3.out; omega) _) 1)
  clear s3
  subst eu
  generalize S.length = sl at *
  refine callsIn_of_wp_marks Tryd.func67 rfl trivial ?_ rfl
  simp only [Tryd.ntmps67, List.size_toArray, List.length_cons, List.length_nil, Nat.reduceAdd, Nat.reduceSub, Array.replicate_succ, Array.replicate_zero, List.push_toArray, List.append_toArray, List.nil_append, List.cons_append]
  gi_wp2
  rw [← Hw3.out]
  refine wpIn_mono (Q := fun e a' w' => e = .normal ∧ a' = { tmps := #[.int .i64 (v : Int), .int .i64 (t : Int), .slice ua sl uc, undef, undef, .pointer (some ⟨w.heap.size, 0, none⟩), .pointer (some ⟨w.heap.size + 1, 0, none⟩), .pointer (some ⟨w.heap.size + 1 + 1, 0, none⟩), .pointer (some ⟨w3.heap.size, 0, none⟩), undef, .slice ua sl uc, .int .i64 (t : Int), .int .u64 (m : Int), .int .i64 (lam : Int), undef, undef, undef, undef, undef, undef, undef, undef, undef, undef], defers := [] } ∧ w' = (w3.alloc (.cells #[.int .i64 (lam : Int)] 3)).drew) ?region ?rest
  case region =>
    refine wpIn_region_any (by kernel_rfl) ?_
    try (change wpAnyIn _ _ _ _ _ _ _ _ _ (World.drew _))
    refine wpAnyIn_take (i := 1) (v := .int .i64 (t : Int)) rfl rfl (by kernel_rfl) (by kernel_rfl) (by kernel_rfl) (by intro _ _ _ h; first | exact h | cases h.1) ⟨Or.inl ⟨by rfl, fun w => by go_simp⟩, fun _ => rfl⟩ ?_
    refine wpAnyIn_ready (rs := [0, 2, 4]) (by kernel_rfl) (by simp) (AllReadyIn.cons rfl (fun K hK => ?_) (AllReadyIn.cons rfl (fun K hK => ?_) (AllReadyIn.cons rfl (fun K hK => ?_) AllReadyIn.nil)))
    · go_simp
      refine hK _ _ ?_
      clear hK K
      refine wpAnyIn_ready (rs := [2, 4]) (by kernel_rfl) (by simp) (AllReadyIn.cons rfl (fun K hK => ?_) (AllReadyIn.cons rfl (fun K hK => ?_) AllReadyIn.nil))
      · go_simp
        refine ⟨trivial, (callsIn_wide.2 (HB.out _)).mono ?_⟩
        rintro e C0 ⟨rfl, hC0⟩
        subst hC0
        refine hK _ _ ?_
        clear hK K
        refine wpAnyIn_ready (rs := [3, 4]) (by kernel_rfl) (by simp) (AllReadyIn.cons rfl (fun K hK => ?_) (AllReadyIn.cons rfl (fun K hK => ?_) AllReadyIn.nil))
        · go_simp
          refine ⟨trivial, (callsIn_wide.2 (by first | exact C20 | exact C20a)).mono ?_⟩
          rintro e C0 ⟨rfl, hC0⟩
          subst hC0
          refine hK _ _ ?_
          clear hK K
          refine wpAnyIn_ready (rs := [4]) (by kernel_rfl) (by simp) (AllReadyIn.cons rfl (fun K hK => ?_) AllReadyIn.nil)
          go_simp
          refine hK _ _ ?_
          clear hK K
          refine wpAnyIn_ready (rs := [5]) (by kernel_rfl) (by simp) (AllReadyIn.cons rfl (fun K hK => ?_) AllReadyIn.nil)
          go_simp
          refine hK _ _ ?_
          clear hK K
          refine wpAnyIn_done (by kernel_rfl) ?_ _
          exact ⟨rfl, rfl, by first | rfl | simp⟩
        · go_simp
          refine hK _ _ ?_
          clear hK K
          refine wpAnyIn_ready (rs := [3]) (by kernel_rfl) (by simp) (AllReadyIn.cons rfl (fun K hK => ?_) AllReadyIn.nil)
          go_simp
          refine ⟨trivial, (callsIn_wide.2 (by first | exact C20 | exact C20a)).mono ?_⟩
          rintro e C0 ⟨rfl, hC0⟩
          subst hC0
          refine hK _ _ ?_
          clear hK K
          refine wpAnyIn_ready (rs := [5]) (by kernel_rfl) (by simp) (AllReadyIn.cons rfl (fun K hK => ?_) AllReadyIn.nil)
          go_simp
          refine hK _ _ ?_
          clear hK K
          refine wpAnyIn_done (by kernel_rfl) ?_ _
          exact ⟨rfl, rfl, by first | rfl | simp⟩
      · go_simp
        refine hK _ _ ?_
        clear hK K
        refine wpAnyIn_ready (rs := [2]) (by kernel_rfl) (by simp) (AllReadyIn.cons rfl (fun K hK => ?_) AllReadyIn.nil)
        go_simp
        refine ⟨trivial, (callsIn_wide.2 (HB.out _)).mono ?_⟩
        rintro e C0 ⟨rfl, hC0⟩
        subst hC0
        refine hK _ _ ?_
        clear hK K
        refine wpAnyIn_ready (rs := [3]) (by kernel_rfl) (by simp) (AllReadyIn.cons rfl (fun K hK => ?_) AllReadyIn.nil)
        go_simp
        refine ⟨trivial, (callsIn_wide.2 (by first | exact C20 | exact C20a)).mono ?_⟩
        rintro e C0 ⟨rfl, hC0⟩
        subst hC0
        refine hK _ _ ?_
        clear hK K
        refine wpAnyIn_ready (rs := [5]) (by kernel_rfl) (by simp) (AllReadyIn.cons rfl (fun K hK => ?_) AllReadyIn.nil)
        go_simp
        refine hK _ _ ?_
        clear hK K
        refine wpAnyIn_done (by kernel_rfl) ?_ _
        exact ⟨rfl, rfl, by first | rfl | simp⟩
    · go_simp
      refine ⟨trivial, (callsIn_wide.2 (HB.out _)).mono ?_⟩
      rintro e C0 ⟨rfl, hC0⟩
      subst hC0
      refine hK _ _ ?_
      clear hK K
      refine wpAnyIn_ready (rs := [0, 4]) (by kernel_rfl) (by simp) (AllReadyIn.cons rfl (fun K hK => ?_) (AllReadyIn.cons rfl (fun K hK => ?_) AllReadyIn.nil))
      · go_simp
        refine hK _ _ ?_
        clear hK K
        refine wpAnyIn_ready (rs := [3, 4]) (by kernel_rfl) (by simp) (AllReadyIn.cons rfl (fun K hK => ?_) (AllReadyIn.cons rfl (fun K hK => ?_) AllReadyIn.nil))
        · go_simp
          refine ⟨trivial, (callsIn_wide.2 (by first | exact C20 | exact C20a)).mono ?_⟩
          rintro e C0 ⟨rfl, hC0⟩
          subst hC0
          refine hK _ _ ?_
          clear hK K
          refine wpAnyIn_ready (rs := [4]) (by kernel_rfl) (by simp) (AllReadyIn.cons rfl (fun K hK => ?_) AllReadyIn.nil)
          go_simp
          refine hK _ _ ?_
          clear hK K
          refine wpAnyIn_ready (rs := [5]) (by kernel_rfl) (by simp) (AllReadyIn.cons rfl (fun K hK => ?_) AllReadyIn.nil)
          go_simp
          refine hK _ _ ?_
          clear hK K
          refine wpAnyIn_done (by kernel_rfl) ?_ _
          exact ⟨rfl, rfl, by first | rfl | simp⟩
        · go_simp
          refine hK _ _ ?_
          clear hK K
          refine wpAnyIn_ready (rs := [3]) (by kernel_rfl) (by simp) (AllReadyIn.cons rfl (fun K hK => ?_) AllReadyIn.nil)
          go_simp
          refine ⟨trivial, (callsIn_wide.2 (by first | exact C20 | exact C20a)).mono ?_⟩
          rintro e C0 ⟨rfl, hC0⟩
          subst hC0
          refine hK _ _ ?_
          clear hK K
          refine wpAnyIn_ready (rs := [5]) (by kernel_rfl) (by simp) (AllReadyIn.cons rfl (fun K hK => ?_) AllReadyIn.nil)
          go_simp
          refine hK _ _ ?_
          clear hK K
          refine wpAnyIn_done (by kernel_rfl) ?_ _
          exact ⟨rfl, rfl, by first | rfl | simp⟩
      · go_simp
        refine hK _ _ ?_
        clear hK K
        refine wpAnyIn_ready (rs := [0]) (by kernel_rfl) (by simp) (AllReadyIn.cons rfl (fun K hK => ?_) AllReadyIn.nil)
        go_simp
        refine hK _ _ ?_
        clear hK K
        refine wpAnyIn_ready (rs := [3]) (by kernel_rfl) (by simp) (AllReadyIn.cons rfl (fun K hK => ?_) AllReadyIn.nil)
        go_simp
        refine ⟨trivial, (callsIn_wide.2 (by first | exact C20 | exact C20a)).mono ?_⟩
        rintro e C0 ⟨rfl, hC0⟩
        subst hC0
        refine hK _ _ ?_
        clear hK K
        refine wpAnyIn_ready (rs := [5]) (by kernel_rfl) (by simp) (AllReadyIn.cons rfl (fun K hK => ?_) AllReadyIn.nil)
        go_simp
        refine hK _ _ ?_
        clear hK K
        refine wpAnyIn_done (by kernel_rfl) ?_ _
        exact ⟨rfl, rfl, by first | rfl | simp⟩
    · go_simp
      refine hK _ _ ?_
      clear hK K
      refine wpAnyIn_ready (rs := [0, 2]) (by kernel_rfl) (by simp) (AllReadyIn.cons rfl (fun K hK => ?_) (AllReadyIn.cons rfl (fun K hK => ?_) AllReadyIn.nil))
      · go_simp
        refine hK _ _ ?_
        clear hK K
        refine wpAnyIn_ready (rs := [2]) (by kernel_rfl) (by simp) (AllReadyIn.cons rfl (fun K hK => ?_) AllReadyIn.nil)
        go_simp
        refine ⟨trivial, (callsIn_wide.2 (HB.out _)).mono ?_⟩
        rintro e C0 ⟨rfl, hC0⟩
        subst hC0
        refine hK _ _ ?_
        clear hK K
        refine wpAnyIn_ready (rs := [3]) (by kernel_rfl) (by simp) (AllReadyIn.cons rfl (fun K hK => ?_) AllReadyIn.nil)
        go_simp
        refine ⟨trivial, (callsIn_wide.2 (by first | exact C20 | exact C20a)).mono ?_⟩
        rintro e C0 ⟨rfl, hC0⟩
        subst hC0
        refine hK _ _ ?_
        clear hK K
        refine wpAnyIn_ready (rs := [5]) (by kernel_rfl) (by simp) (AllReadyIn.cons rfl (fun K hK => ?_) AllReadyIn.nil)
        go_simp
        refine hK _ _ ?_
        clear hK K
        refine wpAnyIn_done (by kernel_rfl) ?_ _
        exact ⟨rfl, rfl, by first | rfl | simp⟩
      · go_simp
        refine ⟨trivial, (callsIn_wide.2 (HB.out _)).mono ?_⟩
        rintro e C0 ⟨rfl, hC0⟩
        subst hC0
        refine hK _ _ ?_
        clear hK K
        refine wpAnyIn_ready (rs := [0]) (by kernel_rfl) (by simp) (AllReadyIn.cons rfl (fun K hK => ?_) AllReadyIn.nil)
        go_simp
        refine hK _ _ ?_
        clear hK K
        refine wpAnyIn_ready (rs := [3]) (by kernel_rfl) (by simp) (AllReadyIn.cons rfl (fun K hK => ?_) AllReadyIn.nil)
        go_simp
        refine ⟨trivial, (callsIn_wide.2 (by first | exact C20 | exact C20a)).mono ?_⟩
        rintro e C0 ⟨rfl, hC0⟩
        subst hC0
        refine hK _ _ ?_
        clear hK K
        refine wpAnyIn_ready (rs := [5]) (by kernel_rfl) (by simp) (AllReadyIn.cons rfl (fun K hK => ?_) AllReadyIn.nil)
        go_simp
        refine hK _ _ ?_
        clear hK K
        refine wpAnyIn_done (by kernel_rfl) ?_ _
        exact ⟨rfl, rfl, by first | rfl | simp⟩
  case rest =>
    rintro e a' w' ⟨rfl, rfl, rfl⟩
    have hs3 := HS3.out
    have b4 : Below w3.heap.size w3 ((w3.alloc (.cells #[.int .i64 (lam : Int)] 3)).drew) := bdrewN (balloc w3 _) 1
    have e8 : Boxed ((w3.alloc (.cells #[.int .i64 (lam : Int)] 3)).drew) w3.heap.size 3 (.int .i64 (lam : Int)) := Boxed.new w3 3 _
    have s4 : ((w3.alloc (.cells #[.int .i64 (lam : Int)] 3)).drew).heap.size = w3.heap.size + 1 := World.size_alloc w3 _
    obtain ⟨w4, Hw4⟩ : ∃ w4, Hid (w4 = (w3.alloc (.cells #[.int .i64 (lam : Int)] 3)).drew) := ⟨_, rfl⟩
    rw [← Hw4.out] at b4 e8 s4 ⊢
    clear Hw4 q5d q5a C20 C20a q5
    have HS4 : Hid (w4.heap.size = w3.heap.size + 1) := s4
    have CC := choices_any v t w4
    clear s4 hs3
    gi_wp2_with (refine ⟨trivial, (callsIn_wide.2 CC).mono ?_⟩; rintro e A2 ⟨rfl, hA2⟩; clear CC)
    have s4 := HS4.out
    have s3 := HS3.out
    have bA2 : Below w4.heap.size w4 ((w4.alloc (.cells #[.int .i64 (v : Int)] 3)).alloc (.cells #[.int .i64 (t : Int)] 3)) := (balloc w4 _).alloc (by simp) _
    have e1 : Boxed ((w4.alloc (.cells #[.int .i64 (v : Int)] 3)).alloc (.cells #[.int .i64 (t : Int)] 3)) (w4.heap.size + 1) 3 (.int .i64 (t : Int)) := by
      have h := Boxed.new (w4.alloc (.cells #[.int .i64 (v : Int)] 3)) 3 (.int .i64 (t : Int))
      rw [World.size_alloc] at h
      exact h
    have e2 : Boxed ((w4.alloc (.cells #[.int .i64 (v : Int)] 3)).alloc (.cells #[.int .i64 (t : Int)] 3)) w4.heap.size 3 (.int .i64 (v : Int)) := (Boxed.new w4 3 (.int .i64 (v : Int))).alloc _
    have sA2 : ((w4.alloc (.cells #[.int .i64 (v : Int)] 3)).alloc (.cells #[.int .i64 (t : Int)] 3)).heap.size = w4.heap.size + 2 := by simp
    obtain ⟨A2, HA2⟩ : ∃ A2, Hid (A2 = (w4.alloc (.cells #[.int .i64 (v : Int)] 3)).alloc (.cells #[.int .i64 (t : Int)] 3)) := ⟨_, rfl⟩
    rw [← HA2.out] at bA2 e1 e2 sA2 ⊢
    clear HA2
    have bw4 : Below w3.heap.size w3 A2 := b4.trans (bA2.mono (by omega))
    have T0 : TgI w w3 (.slice ua sl uc) (.int .i64 0) (.bool false) lam A2 := ⟨boxBelow f5 bw4 (by omega), boxBelow f6 bw4 (by omega), boxBelow f7 bw4 (by omega), boxBelow e8 bA2 (by omega), hb3.trans (bw4.mono (by omega))⟩
    have HSA : Hid (A2.heap.size = w4.heap.size + 2) := sA2
    have HT0 : Hid (TgI w w3 (.slice ua sl uc) (.int .i64 0) (.bool false) lam A2) := T0
    refine wpIn_runs (ys := chL t v) (enc := encS) (Kp := KS (w4.heap.size + 1) w4.heap.size) (Ab := AbO) (gf := 83) (lb := #[.pointer (some ⟨w4.heap.size + 1, 0, none⟩), .pointer (some ⟨w4.heap.size, 0, none⟩)]) rfl (enters_of Tryd.func83 (by kernel_rfl) rfl)
      (ch_runs t ht v _ _ _ A2 hv e1 e2) (fun _ => rfl) KS.trans ?hKb ?hAb
      (fun i B => (∀ j x, j < i → (chL t v)[j]? = some x → hN S x = lam) ∧ TgI w w3 (.slice ua sl uc) (.int .i64 0) (.bool false) lam B ∧ A2.heap.size ≤ B.heap.size)
      (fun i B => (∃ s ∈ chL t v, hN S s ≠ lam) ∧ TgI w w3 (.slice ua sl uc) (.int .i64 0) (.bool false) lam B ∧ A2.heap.size ≤ B.heap.size) ?hIp ?hXp ?hIa ?hXa ?h0
      (fun x => { tmps := #[.int .i64 (v : Int), .int .i64 (t : Int), .slice ua sl uc, undef, undef, .pointer (some ⟨w.heap.size, 0, none⟩), .pointer (some ⟨w.heap.size + 1, 0, none⟩), .pointer (some ⟨w.heap.size + 1 + 1, 0, none⟩), .pointer (some ⟨w3.heap.size, 0, none⟩), .int .u64 (x : Int), .slice ua sl uc, .int .i64 (t : Int), .int .u64 (m : Int), .int .i64 (lam : Int), .int .i64 (v : Int), .int .i64 (t : Int), .func (.func 83) #[] #[.pointer (some ⟨w4.heap.size + 1, 0, none⟩), .pointer (some ⟨w4.heap.size, 0, none⟩)], .int .u64 (x : Int), undef, undef, undef, undef, undef, undef], defers := [] }) ?assign ?body ?done ?stop
    case hKb =>
      intro B o hB
      exact ⟨by simp [World.putObj], fun b hb _ => World.putObj_heap_other (by omega)⟩
    case hAb =>
      intro V B C h3 h4 hb b hlt
      exact hb.block b (by omega)
    case hIp =>
      rintro i B o o' ⟨g1, g2, g3⟩ _ _
      exact ⟨g1, g2.mv (below_put (n := w3.heap.size + 1) B o' (by omega)) (by omega), by simpa [World.putObj] using g3⟩
    case hXp =>
      rintro i B o o' ⟨g1, g2, g3⟩ _ _
      exact ⟨g1, g2.mv (below_put (n := w3.heap.size + 1) B o' (by omega)) (by omega), by simpa [World.putObj] using g3⟩
    case hIa =>
      rintro i V B C ⟨g1, g2, g3⟩ _ h4 hb
      exact ⟨g1, g2.mv (Below.mono hb (by omega)) (by omega), Nat.le_trans g3 hb.size⟩
    case hXa =>
      rintro i V B C ⟨g1, g2, g3⟩ _ h4 hb
      exact ⟨g1, g2.mv (Below.mono hb (by omega)) (by omega), Nat.le_trans g3 hb.size⟩
    case h0 =>
      intro V hb
      exact ⟨fun j x h => by omega, T0.mv (Below.mono hb (by omega)) (by omega), hb.size⟩
    case assign =>
      clear s3 s4 sA2
      intro l x W K _ hK
      unfold encS
      gi_wp2
      exact hK
    case body =>
      rintro i x B hx ⟨g1, g2, g3⟩ hD
      have HG1 : Hid (∀ j x, j < i → (chL t v)[j]? = some x → hN S x = lam) := g1
      have HX : Hid ((chL t v)[i]? = some x) := hx
      have q5 := g2.b5.cell
      have q6 := g2.b6.cell
      have q7 := g2.b7.cell
      have q8 := g2.b8.cell
      have r6 := g2.b6.frozen
      have r7 := g2.b7.frozen
      have hx64 : x < 2 ^ 64 := Nat.lt_of_lt_of_le (chL_lt (List.mem_of_getElem? hx)) (Nat.pow_le_pow_right (by decide) (by omega))
      obtain ⟨c, Hc⟩ : ∃ c, Hid (hN S x = c) := ⟨_, rfl⟩
      have C20 : Calls Tryd.prog 74 #[.slice ua sl uc, .int .u64 (x : Int)] B.drew fun e w' => e = .returned (.int .i64 (c : Int)) ∧ w' = B.drew := by rw [← Hc.out]; exact HH.out x _ hx64 (bdrewN g2.bw 1)
      have HG2 : Hid (TgI w w3 (.slice ua sl uc) (.int .i64 0) (.bool false) lam B) := g2
      have hsz := HSA.out
      have KR : KS (w4.heap.size + 1) w4.heap.size (A2.heap.size + 1) B B.drew := ⟨Nat.le_refl _, fun b _ _ => rfl⟩
      have HKR : Hid (KS (w4.heap.size + 1) w4.heap.size (A2.heap.size + 1) B B.drew) := KR
      have HG3 : Hid (A2.heap.size ≤ B.heap.size) := g3
      by_cases hcl : c = lam
      · have hd : ((c : Int) != (lam : Int)) = false := by simp [hcl]
        have HN : Hid ((∀ j x, j < i + 1 → (chL t v)[j]? = some x → hN S x = lam) ∧ TgI w w3 (.slice ua sl uc) (.int .i64 0) (.bool false) lam B.drew ∧ A2.heap.size ≤ B.drew.heap.size) := by
          refine ⟨fun j y hj hy => ?_, g2.mv (bdrewN (Below.refl _ _) 1) s3, g3⟩
          by_cases e : j = i
          · subst e
            rw [HX.out] at hy
            obtain rfl := Option.some.inj hy
            rw [Hc.out]; exact hcl
          · exact HG1.out j y (by omega) hy
        clear g1 g2 hx hsz KR hcl s3 s4 sA2 g3
        gi_wp2
        refine wpIn_region_any (by kernel_rfl) (wpAnyIn_round (A2.heap.size + 1) (fun i o h c e => by revert h; revert i; intro i h; have hm := Array.mem_of_getElem? h; simp at hm; rcases hm with rfl | rfl | rfl | rfl | rfl <;> cases e) _ _ _ _ rfl ?_)
        try (change wpAnyIn _ _ _ _ _ _ _ _ _ (World.drew _))
        refine wpAnyIn_take (i := 1) (v := .int .u64 (x : Int)) rfl rfl (by kernel_rfl) (by kernel_rfl) (by kernel_rfl) (by intro _ _ _ h; first | exact h | cases h.1) ⟨Or.inl ⟨by rfl, fun w => by go_simp⟩, fun _ => rfl⟩ ?_
        refine wpAnyIn_ready (rs := [0, 3]) (by kernel_rfl) (by simp) (AllReadyIn.cons rfl (fun K hK => ?_) (AllReadyIn.cons rfl (fun K hK => ?_) AllReadyIn.nil))
        · go_simp
          refine hK _ _ ?_
          clear hK K
          refine wpAnyIn_ready (rs := [2, 3]) (by kernel_rfl) (by simp) (AllReadyIn.cons rfl (fun K hK => ?_) (AllReadyIn.cons rfl (fun K hK => ?_) AllReadyIn.nil))
          · go_simp
            refine ⟨trivial, (callsIn_wide.2 C20).mono ?_⟩
            rintro e C0 ⟨rfl, hC0⟩
            subst hC0
            refine hK _ _ ?_
            clear hK K
            refine wpAnyIn_ready (rs := [3]) (by kernel_rfl) (by simp) (AllReadyIn.cons rfl (fun K hK => ?_) AllReadyIn.nil)
            go_simp
            refine hK _ _ ?_
            clear hK K
            refine wpAnyIn_take (i := 4) (v := .bool false) rfl rfl (by kernel_rfl) (by kernel_rfl) (by kernel_rfl) (by intro _ _ _ h; first | exact h | cases h.1) ⟨Or.inl ⟨by rfl, fun w => by go_simp⟩, fun _ => rfl⟩ ?_
            refine wpAnyIn_done (by kernel_rfl) ?_ _
            gi_wp2
            exact ⟨⟨rfl, rfl⟩, HKR.out, HN.out⟩
          · go_simp
            refine hK _ _ ?_
            clear hK K
            refine wpAnyIn_ready (rs := [2]) (by kernel_rfl) (by simp) (AllReadyIn.cons rfl (fun K hK => ?_) AllReadyIn.nil)
            go_simp
            refine ⟨trivial, (callsIn_wide.2 C20).mono ?_⟩
            rintro e C0 ⟨rfl, hC0⟩
            subst hC0
            refine hK _ _ ?_
            clear hK K
            refine wpAnyIn_take (i := 4) (v := .bool false) rfl rfl (by kernel_rfl) (by kernel_rfl) (by kernel_rfl) (by intro _ _ _ h; first | exact h | cases h.1) ⟨Or.inl ⟨by rfl, fun w => by go_simp⟩, fun _ => rfl⟩ ?_
            refine wpAnyIn_done (by kernel_rfl) ?_ _
            gi_wp2
            exact ⟨⟨rfl, rfl⟩, HKR.out, HN.out⟩
        · go_simp
          refine hK _ _ ?_
          clear hK K
          refine wpAnyIn_ready (rs := [0]) (by kernel_rfl) (by simp) (AllReadyIn.cons rfl (fun K hK => ?_) AllReadyIn.nil)
          go_simp
          refine hK _ _ ?_
          clear hK K
          refine wpAnyIn_ready (rs := [2]) (by kernel_rfl) (by simp) (AllReadyIn.cons rfl (fun K hK => ?_) AllReadyIn.nil)
          go_simp
          refine ⟨trivial, (callsIn_wide.2 C20).mono ?_⟩
          rintro e C0 ⟨rfl, hC0⟩
          subst hC0
          refine hK _ _ ?_
          clear hK K
          refine wpAnyIn_take (i := 4) (v := .bool false) rfl rfl (by kernel_rfl) (by kernel_rfl) (by kernel_rfl) (by intro _ _ _ h; first | exact h | cases h.1) ⟨Or.inl ⟨by rfl, fun w => by go_simp⟩, fun _ => rfl⟩ ?_
          refine wpAnyIn_done (by kernel_rfl) ?_ _
          gi_wp2
          exact ⟨⟨rfl, rfl⟩, HKR.out, HN.out⟩
      · have hd : ((c : Int) != (lam : Int)) = true := by simp; omega
        have HN : Hid (∃ s ∈ chL t v, hN S s ≠ lam) := ⟨x, List.mem_of_getElem? hx, by rw [Hc.out]; exact hcl⟩
        have HF : Hid (∀ C, C = (B.drew.setCell ⟨w.heap.size + 1, 0, none⟩ (.int .i64 0)).setCell ⟨w.heap.size + 1 + 1, 0, none⟩ (.bool false) → (C.heap[A2.heap.size]? = B.heap[A2.heap.size]? ∧ C.heap[A2.heap.size + 1]? = B.heap[A2.heap.size + 1]?) ∧ KS (w4.heap.size + 1) w4.heap.size (A2.heap.size + 1) B C ∧ TgI w w3 (.slice ua sl uc) (.int .i64 0) (.bool false) lam C ∧ A2.heap.size ≤ C.heap.size) := by
          rintro C rfl
          have k : ∀ b, b ≠ w.heap.size + 1 → b ≠ w.heap.size + 1 + 1 → ((B.drew.setCell ⟨w.heap.size + 1, 0, none⟩ (.int .i64 0)).setCell ⟨w.heap.size + 1 + 1, 0, none⟩ (.bool false)).heap[b]? = B.heap[b]? := fun b h1 h2 =>
            (heap_setCell_other _ ⟨w.heap.size + 1 + 1, 0, none⟩ b _ h2).trans (heap_setCell_other B.drew ⟨w.heap.size + 1, 0, none⟩ b _ h1)
          have ksz : ((B.drew.setCell ⟨w.heap.size + 1, 0, none⟩ (.int .i64 0)).setCell ⟨w.heap.size + 1 + 1, 0, none⟩ (.bool false)).heap.size = B.heap.size := by rw [World.size_setCell, World.size_setCell]; rfl
          have d6 : Boxed B.drew (w.heap.size + 1) 3 (.int .i64 0) := g2.b6
          have d7 : Boxed B.drew (w.heap.size + 1 + 1) 4 (.bool false) := g2.b7
          have t6 := (d6.set (.int .i64 0)).other (B' := w.heap.size + 1 + 1) (by omega) (.bool false)
          have t7 := (d7.other (B' := w.heap.size + 1) (by omega) (.int .i64 0)).set (.bool false)
          have bC : Below w.heap.size B ((B.drew.setCell ⟨w.heap.size + 1, 0, none⟩ (.int .i64 0)).setCell ⟨w.heap.size + 1 + 1, 0, none⟩ (.bool false)) := ((bdrewN (Below.refl _ _) 1).setCell (p := ⟨w.heap.size + 1, 0, none⟩) (by show _ ≤ w.heap.size + 1; omega) _).setCell (p := ⟨w.heap.size + 1 + 1, 0, none⟩) (by show _ ≤ w.heap.size + 1 + 1; omega) _
          exact ⟨⟨k _ (by omega) (by omega), k _ (by omega) (by omega)⟩, ⟨by omega, fun b hb _ => k b (by omega) (by omega)⟩, ⟨boxAt g2.b5 (k _ (by omega) (by omega)), t6, t7, boxAt g2.b8 (k _ (by omega) (by omega)), g2.bw.trans bC⟩, by omega⟩
        clear g1 g2 hx hsz KR hcl s3 s4 sA2 g3
        gi_wp2
        refine wpIn_region_any (by kernel_rfl) (wpAnyIn_round (A2.heap.size + 1) (fun i o h c e => by revert h; revert i; intro i h; have hm := Array.mem_of_getElem? h; simp at hm; rcases hm with rfl | rfl | rfl | rfl | rfl <;> cases e) _ _ _ _ rfl ?_)
        try (change wpAnyIn _ _ _ _ _ _ _ _ _ (World.drew _))
        refine wpAnyIn_take (i := 1) (v := .int .u64 (x : Int)) rfl rfl (by kernel_rfl) (by kernel_rfl) (by kernel_rfl) (by intro _ _ _ h; first | exact h | cases h.1) ⟨Or.inl ⟨by rfl, fun w => by go_simp⟩, fun _ => rfl⟩ ?_
        refine wpAnyIn_ready (rs := [0, 3]) (by kernel_rfl) (by simp) (AllReadyIn.cons rfl (fun K hK => ?_) (AllReadyIn.cons rfl (fun K hK => ?_) AllReadyIn.nil))
        · go_simp
          refine hK _ _ ?_
          clear hK K
          refine wpAnyIn_ready (rs := [2, 3]) (by kernel_rfl) (by simp) (AllReadyIn.cons rfl (fun K hK => ?_) (AllReadyIn.cons rfl (fun K hK => ?_) AllReadyIn.nil))
          · go_simp
            refine ⟨trivial, (callsIn_wide.2 C20).mono ?_⟩
            rintro e C0 ⟨rfl, hC0⟩
            subst hC0
            refine hK _ _ ?_
            clear hK K
            refine wpAnyIn_ready (rs := [3]) (by kernel_rfl) (by simp) (AllReadyIn.cons rfl (fun K hK => ?_) AllReadyIn.nil)
            go_simp
            refine hK _ _ ?_
            clear hK K
            refine wpAnyIn_take (i := 4) (v := .bool true) rfl rfl (by kernel_rfl) (by kernel_rfl) (by kernel_rfl) (by intro _ _ _ h; first | exact h | cases h.1) ⟨Or.inl ⟨by rfl, fun w => by go_simp⟩, fun _ => rfl⟩ ?_
            refine wpAnyIn_done (by kernel_rfl) ?_ _
            gi_wp2
            exact ⟨(HF.out _ rfl).1, (HF.out _ rfl).2.1, HN.out, (HF.out _ rfl).2.2⟩
          · go_simp
            refine hK _ _ ?_
            clear hK K
            refine wpAnyIn_ready (rs := [2]) (by kernel_rfl) (by simp) (AllReadyIn.cons rfl (fun K hK => ?_) AllReadyIn.nil)
            go_simp
            refine ⟨trivial, (callsIn_wide.2 C20).mono ?_⟩
            rintro e C0 ⟨rfl, hC0⟩
            subst hC0
            refine hK _ _ ?_
            clear hK K
            refine wpAnyIn_take (i := 4) (v := .bool true) rfl rfl (by kernel_rfl) (by kernel_rfl) (by kernel_rfl) (by intro _ _ _ h; first | exact h | cases h.1) ⟨Or.inl ⟨by rfl, fun w => by go_simp⟩, fun _ => rfl⟩ ?_
            refine wpAnyIn_done (by kernel_rfl) ?_ _
            gi_wp2
            exact ⟨(HF.out _ rfl).1, (HF.out _ rfl).2.1, HN.out, (HF.out _ rfl).2.2⟩
        · go_simp
          refine hK _ _ ?_
          clear hK K
          refine wpAnyIn_ready (rs := [0]) (by kernel_rfl) (by simp) (AllReadyIn.cons rfl (fun K hK => ?_) AllReadyIn.nil)
          go_simp
          refine hK _ _ ?_
          clear hK K
          refine wpAnyIn_ready (rs := [2]) (by kernel_rfl) (by simp) (AllReadyIn.cons rfl (fun K hK => ?_) AllReadyIn.nil)
          go_simp
          refine ⟨trivial, (callsIn_wide.2 C20).mono ?_⟩
          rintro e C0 ⟨rfl, hC0⟩
          subst hC0
          refine hK _ _ ?_
          clear hK K
          refine wpAnyIn_take (i := 4) (v := .bool true) rfl rfl (by kernel_rfl) (by kernel_rfl) (by kernel_rfl) (by intro _ _ _ h; first | exact h | cases h.1) ⟨Or.inl ⟨by rfl, fun w => by go_simp⟩, fun _ => rfl⟩ ?_
          refine wpAnyIn_done (by kernel_rfl) ?_ _
          gi_wp2
          exact ⟨(HF.out _ rfl).1, (HF.out _ rfl).2.1, HN.out, (HF.out _ rfl).2.2⟩
    case done =>
      rintro B ⟨g1, g2, g3⟩ hK
      have HG : Hid ((∀ s ∈ chL t v, hN S s = lam)) := fun s hs => by
        obtain ⟨j, hj, rfl⟩ := List.mem_iff_getElem.1 hs
        exact g1 j _ hj (List.getElem?_eq_getElem hj)
      have q6 := g2.b6.cell
      have q7 := g2.b7.cell
      have q8 := g2.b8.cell
      have r6 := g2.b6.frozen
      have r7 := g2.b7.frozen
      have HG2 : Hid (TgI w w3 (.slice ua sl uc) (.int .i64 0) (.bool false) lam B) := g2
      have HK : Hid (B.heap[A2.heap.size]? = some (.deferred (some []))) := hK
      have HLT : Hid (w.heap.size + 4 ≤ A2.heap.size) := (by omega : w.heap.size + 4 ≤ A2.heap.size)
      clear g1 g2 s3 s4 sA2 g3 hK
      gi_wp2
      obtain ⟨C, HC⟩ : ∃ C, Hid (C = (B.setCell ⟨w.heap.size + 1, 0, none⟩ (.int .i64 (lam : Int))).setCell ⟨w.heap.size + 1 + 1, 0, none⟩ (.bool true)) := ⟨_, rfl⟩
      have g2 := HG2.out
      have hlt := HLT.out
      have k : ∀ b, b ≠ w.heap.size + 1 → b ≠ w.heap.size + 1 + 1 → C.heap[b]? = B.heap[b]? := fun b h1 h2 => by
        rw [HC.out]
        exact (heap_setCell_other _ ⟨w.heap.size + 1 + 1, 0, none⟩ b _ h2).trans (heap_setCell_other B ⟨w.heap.size + 1, 0, none⟩ b _ h1)
      have t6 : Boxed C (w.heap.size + 1) 3 (.int .i64 (lam : Int)) := by rw [HC.out]; exact (g2.b6.set (.int .i64 (lam : Int))).other (B' := w.heap.size + 1 + 1) (by omega) (.bool true)
      have t7 : Boxed C (w.heap.size + 1 + 1) 4 (.bool true) := by rw [HC.out]; exact (g2.b7.other (B' := w.heap.size + 1) (by omega) (.int .i64 (lam : Int))).set (.bool true)
      have bC : Below w.heap.size B C := by
        rw [HC.out]
        exact ((Below.refl _ B).setCell (p := ⟨w.heap.size + 1, 0, none⟩) (by show _ ≤ w.heap.size + 1; omega) _).setCell (p := ⟨w.heap.size + 1 + 1, 0, none⟩) (by show _ ≤ w.heap.size + 1 + 1; omega) _
      rw [← HC.out]
      have hK2 : C.heap[A2.heap.size]? = some (.deferred (some [])) := (k _ (by omega) (by omega)).trans HK.out
      refine ⟨by simp, .inl ⟨_, _, rfl, run_takeDeferred hK2, ?_⟩⟩
      have bP := below_put (n := w.heap.size + 4) C (.deferred none) (l := A2.heap.size) hlt
      exact ⟨_, res_two rfl rfl rfl (boxBelow t6 bP (by omega)) (boxBelow t7 bP (by omega)), .inl ⟨rfl, HG.out⟩, (g2.bw.trans bC).trans (bP.mono (by omega))⟩
    case stop =>
      rintro i B ⟨g1, g2, g3⟩ hK
      gi_wp2
      refine ⟨by simp, .inl ⟨_, _, rfl, run_takeDeferred hK, ?_⟩⟩
      have g4 := g2.mv (below_put (n := w3.heap.size + 1) B (.deferred none) (l := A2.heap.size) (by omega)) s3
      exact ⟨_, res_two rfl rfl rfl g4.b6 g4.b7, .inr ⟨rfl, g1⟩, g4.bw⟩

end Go.Proofs.YtcjkcgfohmhbcabDoor

namespace Go.Proofs.YtcjkcgfohmhbcabDoor
open Go.RowKit

/-! ### The sets of choices are the rising lists -/
theorem chL_of_list : ∀ {t n : Nat} {s : List Nat}, s.length = t → s.Pairwise (· < ·) → (∀ x ∈ s, x < n) → sb s ∈ chL t n
  | 0, n, s, hl, _, _ => by
    obtain rfl := List.eq_nil_of_length_eq_zero hl
    simp [chL, sb]
  | t + 1, n, s, hl, hp, hb => by
    have hne : s ≠ [] := fun h => by subst h; simp at hl
    obtain ⟨l, q, rfl⟩ : ∃ l q, s = l ++ [q] := ⟨s.dropLast, s.getLast hne, (List.dropLast_concat_getLast hne).symm⟩
    have h1 := List.pairwise_append.1 hp
    have hlt : l.length = t := by simpa using hl
    have hq : ∀ x ∈ l, x < q := fun x hx => h1.2.2 x hx q (by simp)
    have hqn : q < n := hb q (by simp)
    have htq : t ≤ q := by rw [← hlt]; exact (rise_pts h1.1 hq).le
    rw [sb_snoc]
    refine List.mem_flatMap.2 ⟨q, List.mem_range'_1.2 ⟨htq, by omega⟩, List.mem_map.2 ⟨sb l, chL_of_list hlt h1.1 hq, rfl⟩⟩
theorem chL_is_list : ∀ {t n x : Nat}, x ∈ chL t n → ∃ s : List Nat, x = sb s ∧ s.length = t ∧ s.Pairwise (· < ·) ∧ ∀ y ∈ s, y < n
  | 0, n, x, h => ⟨[], by simpa [chL, sb] using h, rfl, List.Pairwise.nil, fun y h => by simp at h⟩
  | t + 1, n, x, h => by
    obtain ⟨q, h1, h2⟩ := List.mem_flatMap.1 h
    obtain ⟨z, h3, rfl⟩ := List.mem_map.1 h2
    have h4 := List.mem_range'_1.1 h1
    obtain ⟨l, rfl, h5, h6, h7⟩ := chL_is_list h3
    refine ⟨l ++ [q], (sb_snoc l q).symm, by simp [h5], List.pairwise_append.2 ⟨h6, List.pairwise_singleton _ _, fun a ha b hb => ?_⟩, fun y hy => ?_⟩
    · rw [List.mem_singleton.1 hb]; exact h7 a ha
    · rcases List.mem_append.1 hy with hy | hy
      · have := h7 y hy; omega
      · rw [List.mem_singleton.1 hy]; omega
theorem hN_nb {v : Nat} {B : List (List Nat)} (G : GoodD v B) {s : List Nat} (hs : ∀ x ∈ s, x < v) : hN (B.map sb) (sb s) = nb B s := by
  have h40 := G.le
  unfold hN nb
  rw [List.countP_map]
  refine List.countP_congr fun b hb => ?_
  have hb2 := (G.bls b hb).lt
  simp only [Function.comp]
  rw [decide_eq_true_iff, an_all (fun x hx => by have := hs x hx; omega) (fun x hx => by have := hb2 x hx; omega)]
theorem good_sb64 {v : Nat} {B : List (List Nat)} (G : GoodD v B) : ∀ x ∈ B.map sb, x < 2 ^ 64 := fun x hx => by
  obtain ⟨b, hb, rfl⟩ := List.mem_map.1 hx
  have h40 := G.le
  exact sb_lt fun y hy => by have := (G.bls b hb).lt y hy; omega
theorem good_pc {v : Nat} {B : List (List Nat)} (G : GoodD v B) {b : List Nat} (hb : b ∈ B) : pc (sb b) = b.length := by
  have hr := rs_iff.1 (G.rs b hb)
  have h40 := G.le
  exact pc_sb hr.1 fun x hx => by have := (hr.2 x hx).2; omega
theorem lev_iff {v t : Nat} {B : List (List Nat)} (G : GoodD v B) : (∀ s ∈ chL t v, hN (B.map sb) s = hN (B.map sb) (2 ^ t - 1)) ↔ Lev v B t (hN (B.map sb) (2 ^ t - 1)) := by
  constructor
  · intro h
    refine lev_of_rise fun s h1 h2 h3 => ?_
    rw [← hN_nb G h2]
    exact h _ (chL_of_list h3 h1 h2)
  · intro h x hx
    obtain ⟨s, rfl, h1, h2, h3⟩ := chL_is_list hx
    rw [hN_nb G h3]
    exact h s (rise_pts h2 h3) h1

theorem lv_box (p : Int) (u : Value) (w : World) : (w.alloc (.cells #[.int .i64 p, u] 42)).cell? ⟨w.heap.size, 0, none⟩ = some (.int .i64 p) ∧ (w.alloc (.cells #[.int .i64 p, u] 42)).cell? ⟨w.heap.size, 1, none⟩ = some u := des_box p u w _ (Below.refl _ _)

set_option maxRecDepth 100000 in
set_option maxHeartbeats 4000000 in
theorem Level_far (v : Nat) (t : Int) (B : List (List Nat)) (u : Value) (w : World) (G : GoodD v B) (hu : Rw w u (toZ B)) (h : t < 0 ∨ 4 < t ∨ (v : Int) < t) :
    Calls Tryd.prog 53 #[.agg #[.int .i64 (v : Int), u], .int .i64 t] w fun e w' => e = .returned (.tuple #[.int .i64 0, .int .i64 0, .int .i64 1]) ∧ Below w.heap.size w w' := by
  obtain ⟨x0, x1⟩ := lv_box v u w
  have b0 := balloc w (.cells #[.int .i64 (v : Int), u] 42)
  have C1 := open_good v B u _ G (hu.below b0)
  obtain ⟨w0, Hw0⟩ : ∃ w0, Hid (w0 = w.alloc (.cells #[.int .i64 (v : Int), u] 42)) := ⟨_, rfl⟩
  have y0 : ∀ W, Below w0.heap.size w0 W → W.cell? ⟨w.heap.size, 0, none⟩ = some (.int .i64 (v : Int)) := fun W hW => by
    rw [Hw0.out] at hW; exact (des_box v u w W hW).1
  have hv40 := G.le
  by_cases h1 : t < 0
  · have hd : decide (t < 0) = true := decide_eq_true h1
    go_enter Tryd.func53, Tryd.ntmps53
    go_wp2_with (go_at_call 52; refine C1.mono ?_; rintro e w3 ⟨⟨x, rfl, _⟩, hb3⟩; clear C1)
    exact bodyPost_ret (v := .tuple #[.int .i64 0, .int .i64 0, .int .i64 1]) (by simp [results, Tryd.results53, go_sem]) rfl ⟨rfl, Below.next b0 hb3⟩
  · have hd : decide (t < 0) = false := decide_eq_false h1
    by_cases h2 : 4 < t
    · have hd2 : decide (4 < t) = true := decide_eq_true h2
      go_enter Tryd.func53, Tryd.ntmps53
      go_wp2_with (go_at_call 52; refine C1.mono ?_; rintro e w3 ⟨⟨x, rfl, _⟩, hb3⟩; clear C1)
      exact bodyPost_ret (v := .tuple #[.int .i64 0, .int .i64 0, .int .i64 1]) (by simp [results, Tryd.results53, go_sem]) rfl ⟨rfl, Below.next b0 hb3⟩
    · have hd2 : decide (4 < t) = false := decide_eq_false h2
      have hd3 : decide ((v : Int) < t) = true := decide_eq_true (by omega)
      have ht4 : t ≤ 4 := by omega
      go_enter Tryd.func53, Tryd.ntmps53
      go_wp2_with (go_at_call 52; refine C1.mono ?_; rintro e w3 ⟨⟨x, rfl, _⟩, hb3⟩; clear C1; have y1 := y0 w3 (by rw [Hw0.out]; exact hb3))
      exact bodyPost_ret (v := .tuple #[.int .i64 0, .int .i64 0, .int .i64 1]) (by simp [results, Tryd.results53, go_sem]) rfl ⟨rfl, Below.next b0 hb3⟩

set_option maxRecDepth 100000 in
set_option maxHeartbeats 8000000 in
theorem Level_main (v t : Nat) (B : List (List Nat)) (u : Value) (w : World) (G : GoodD v B) (hu : Rw w u (toZ B)) (h4 : t ≤ 4) (htv : t ≤ v) :
    Calls Tryd.prog 53 #[.agg #[.int .i64 (v : Int), u], .int .i64 (t : Int)] w fun e w' => LvT v B t e ∧ Below w.heap.size w w' := by
  obtain ⟨x0, x1⟩ := lv_box v u w
  have b0 := balloc w (.cells #[.int .i64 (v : Int), u] 42)
  have C1 := open_good v B u _ G (hu.below b0)
  obtain ⟨w0, Hw0⟩ : ∃ w0, Hid (w0 = w.alloc (.cells #[.int .i64 (v : Int), u] 42)) := ⟨_, rfl⟩
  have HY0 : Hid (∀ W, Below w0.heap.size w0 W → W.cell? ⟨w.heap.size, 0, none⟩ = some (.int .i64 (v : Int))) := fun W hW => by
    rw [Hw0.out] at hW; exact (des_box v u w W hW).1
  have hv40 := G.le
  have HG : Hid (GoodD v B) := G
  have hd : decide ((t : Int) < 0) = false := decide_eq_false (by omega)
  have hd2 : decide (4 < (t : Int)) = false := decide_eq_false (by omega)
  have hd3 : decide ((v : Int) < (t : Int)) = false := decide_eq_false (by omega)
  have ha : LvOk v B t = fun k l => B ≠ [] ∧ (∀ b ∈ B, b.length = k) ∧ Lev v B t l := rfl
  have fin4 : (¬ ∃ k l, LvOk v B t k l) → LvT v B (t : Int) (.returned (.tuple #[.int .i64 0, .int .i64 0, .int .i64 4])) := fun h => .inr ⟨t, rfl, h4, htv, .inr ⟨h, rfl⟩⟩
  have HF4 : Hid ((¬ ∃ k l, LvOk v B t k l) → LvT v B (t : Int) (.returned (.tuple #[.int .i64 0, .int .i64 0, .int .i64 4]))) := fin4
  have HF0 : Hid (∀ k l : Nat, LvOk v B t k l → LvT v B (t : Int) (.returned (.tuple #[.int .i64 (k : Int), .int .i64 (l : Int), .int .i64 0]))) := fun k l h => .inr ⟨t, rfl, h4, htv, .inl ⟨k, l, h, rfl⟩⟩
  have hB0 : Hid (Below w.heap.size w (w.alloc (.cells #[.int .i64 (v : Int), u] 42))) := b0
  clear G hu ha fin4 b0
  go_enter Tryd.func53, Tryd.ntmps53
  by_cases hne : B = []
  · subst hne
    go_wp2_with (first
      | (go_at_call 52; refine C1.mono ?_; rintro e w3 ⟨⟨x, rfl, hrow⟩, hb3⟩; clear C1; obtain ⟨xa, xc, rfl⟩ := own_formE hrow; have y1 := HY0.out w3 (by rw [Hw0.out]; exact hb3))
      | (go_at_call 66; refine (sizes_none w3 xa xc).mono ?_; rintro e w4 ⟨rfl, hw4⟩; subst hw4))
    exact bodyPost_ret (v := .tuple #[.int .i64 0, .int .i64 0, .int .i64 4]) (by simp [results, Tryd.results53, go_sem]) rfl ⟨HF4.out (fun ⟨k, l, h, _⟩ => h rfl), Below.next hB0.out hb3⟩
  · have hpos : 0 < (B.map sb).length := by rw [List.length_map]; exact List.length_pos_iff.2 hne
    have HNE : Hid (B ≠ []) := hne
    clear hne
    have hbl : (B.map sb).length ≤ 200 := by rw [List.length_map]; exact HG.out.few
    go_wp2_with (first
      | (go_at_call 52; refine C1.mono ?_; rintro e w3 ⟨⟨x, rfl, hrow⟩, hb3⟩; clear C1; have y1 := HY0.out w3 (by rw [Hw0.out]; exact hb3))
      | (go_at_call 66; refine (sizes_main (B.map sb) x w3 hrow.ss hbl (good_sb64 HG.out) hpos).mono ?_))
    rintro e w4 ⟨⟨rfl, hall⟩ | ⟨rfl, hno⟩, hw4⟩
    · subst hw4
      have T := together_any v t (B.map sb) x w4 hv40 h4 hrow.ss hbl (good_sb64 HG.out)
      have HK : Hid (∀ b ∈ B, b.length = pc ((B.map sb).getD 0 0)) := fun b hb => by
        rw [← good_pc HG.out hb]; exact hall _ (List.mem_map.2 ⟨b, hb, rfl⟩)
      have hk64 := pc_le ((B.map sb).getD 0 0)
      obtain ⟨k, Hk⟩ : ∃ k, Hid (pc ((B.map sb).getD 0 0) = k) := ⟨_, rfl⟩
      rw [Hk.out] at HK hk64 ⊢
      obtain ⟨xa, xc, ex⟩ := own_formE hrow
      obtain ⟨lam, Hlam⟩ : ∃ lam, Hid (hN (B.map sb) (2 ^ t - 1) = lam) := ⟨_, rfl⟩
      rw [Hlam.out] at T
      have hb4 : Below w.heap.size w w4 := Below.next hB0.out hb3
      have HT : Hid (Calls Tryd.prog 67 #[.int .i64 (v : Int), .int .i64 (t : Int), x] w4 fun e w' => ((e = .returned (.tuple #[.int .i64 (lam : Int), .bool true]) ∧ ∀ s ∈ chL t v, hN (B.map sb) s = lam) ∨ (e = .returned (.tuple #[.int .i64 0, .bool false]) ∧ ∃ s ∈ chL t v, hN (B.map sb) s ≠ lam)) ∧ Below w4.heap.size w4 w') := T
      clear hall hrow T
      subst ex
      generalize (B.map sb).length = bl at *
      go_wp2_with (go_at_call 67; refine HT.out.mono ?_; rintro e w5 ⟨⟨rfl, hy⟩ | ⟨rfl, hno⟩, hb5⟩)
      · have hL : LvOk v B t k lam := ⟨HNE.out, HK.out, by have := (lev_iff HG.out).1 (by rw [Hlam.out]; exact hy); rwa [Hlam.out] at this⟩
        have HL := HF0.out k lam hL
        have HL2 : Hid (LvT v B (t : Int) (.returned (.tuple #[.int .i64 (k : Int), .int .i64 (lam : Int), .int .i64 0]))) := HL
        clear hy hL HL
        exact bodyPost_ret (v := .tuple #[.int .i64 (k : Int), .int .i64 (lam : Int), .int .i64 0]) (by simp [results, Tryd.results53, go_sem]) rfl ⟨HL2.out, Below.next hb4 hb5⟩
      · have HNO : Hid (∃ s ∈ chL t v, hN (B.map sb) s ≠ lam) := hno
        clear hno
        refine bodyPost_ret (v := .tuple #[.int .i64 0, .int .i64 0, .int .i64 4]) (by simp [results, Tryd.results53, go_sem]) rfl ⟨HF4.out (fun ⟨k', l, _, _, hl⟩ => ?_), Below.next hb4 hb5⟩
        obtain ⟨s, hs, hn⟩ := HNO.out
        refine hn ?_
        obtain ⟨q, rfl, h1, h2, h3⟩ := chL_is_list hs
        rw [hN_nb HG.out h3, hl q (rise_pts h2 h3) h1, ← Hlam.out, low_sb, hN_nb HG.out (fun x hx => by have := List.mem_range.1 hx; omega)]
        exact (hl _ (range_pts htv) (by simp)).symm
    · subst hw4
      go_wp2
      refine bodyPost_ret (v := .tuple #[.int .i64 0, .int .i64 0, .int .i64 4]) (by simp [results, Tryd.results53, go_sem]) rfl ⟨HF4.out (fun ⟨k, l, _, h, _⟩ => hno ⟨k, fun x hx => ?_⟩), Below.next hB0.out hb3⟩
      obtain ⟨b, hb, rfl⟩ := List.mem_map.1 hx
      rw [good_pc HG.out hb]; exact h b hb

theorem Level_any (v : Nat) (t : Int) (B : List (List Nat)) (u : Value) (w : World) (G : GoodD v B) (hu : Rw w u (toZ B)) :
    Calls Tryd.prog 53 #[.agg #[.int .i64 (v : Int), u], .int .i64 t] w fun e w' => LvT v B t e ∧ Below w.heap.size w w' := by
  by_cases h : t < 0 ∨ 4 < t ∨ (v : Int) < t
  · refine (Level_far v t B u w G hu h).mono ?_
    rintro e w' ⟨rfl, hb⟩
    exact ⟨.inl ⟨h, rfl⟩, hb⟩
  · obtain ⟨m, rfl⟩ : ∃ m : Nat, t = m := ⟨t.toNat, by omega⟩
    exact Level_main v m B u w G hu (by omega) (by omega)

end Go.Proofs.YtcjkcgfohmhbcabDoor

/- The law DesignLevels. -/
namespace Go.Proofs.YtcjkcgfohmhbcabDoor
open Go.RowKit

end Go.Proofs.YtcjkcgfohmhbcabDoor

/- The walks of without, has, first, points: the points of a set, one after another. -/
namespace Go.Proofs.YtcjkcgfohmhbcabDoor
open Go.RowKit Go.Shelf

attribute [local go_sem] Oper.semAt_some

/-- The table of math/bits, in its variable. -/
def tzCells : Array Value := (Lib.deBruijn64tab.map fun n => Value.int .u8 ((n : Nat) : Int)).toArray
def Tab (w : World) : Prop := ∃ t fr, w.heap[1]? = some (.cells tzCells t fr)
theorem Tab.pos {w : World} (h : Tab w) : 1 < w.heap.size := by
  obtain ⟨t, fr, h⟩ := h
  exact (Array.getElem?_eq_some_iff.1 h).1
theorem Tab.below {w w' : World} {n : Nat} (h : Tab w) (hb : Below n w w') (hn : 1 < n) : Tab w' := by
  obtain ⟨t, fr, h⟩ := h
  exact ⟨t, fr, (hb.block 1 hn).trans h⟩
theorem Tab.next {w w' : World} (h : Tab w) (hb : Below w.heap.size w w') : Tab w' := h.below hb h.pos
theorem Tab.cell {w : World} (h : Tab w) (j : Nat) (hj : j < 64) : w.cell? ⟨1, j, none⟩ = some (.int .u8 ((Lib.deBruijn64tab.getD j 0 : Nat) : Int)) := by
  obtain ⟨t, fr, h⟩ := h
  rw [cell_of_row _ _ _ _ _ _ h]
  unfold tzCells
  rw [List.getElem?_toArray, List.getElem?_map, List.getD_eq_getElem?_getD]
  have : j < Lib.deBruijn64tab.length := hj
  rw [List.getElem?_eq_getElem this]
  rfl

set_option maxHeartbeats 1000000 in
theorem tz_core (x k idx : Nat) (w : World) (hx0 : ((x : Int) == 0) = false)
    (key : IntKind.u64.wrap (bits BinOp.and IntKind.u64 (x : Int) (IntKind.u64.wrap (-(x : Int))) * 285870213051353865) / 288230376151711744 = (idx : Int))
    (hi : idx < 64) (hk : k < 64) (hcell : w.cell? ⟨1, idx, none⟩ = some (.int .u8 k)) :
    Calls Tryd.prog 86 #[.int .u64 x] w fun e w' => e = .returned (.int .i64 k) ∧ w' = w := by
  go_enter Tryd.func86, Tryd.ntmps86
  go_wp2_with (simp only [key])
  go_ret
  exact ⟨rfl, rfl⟩

/-- The least point of a set. -/
theorem first_any (x : Nat) (w : World) (hT : Tab w) (hx : x < 2 ^ 64) (h0 : x ≠ 0) : ∃ k m : Nat, x = 2 ^ k * (2 * m + 1) ∧ k < 64 ∧
    Calls Tryd.prog 85 #[.int .u64 (x : Int)] w fun e w' => e = .returned (.int .i64 (k : Int)) ∧ w' = w := by
  obtain ⟨m, hm, hk⟩ := Lib.ctzFrom_spec 64 x (by omega) hx
  refine ⟨_, m, hm, hk, ?_⟩
  obtain ⟨hlow, hk2⟩ := Lib.lowest_bit 64 x h0 hx
  obtain ⟨hi, htab⟩ := Lib.deBruijn64_at _ hk2
  have hcell := hT.cell _ hi
  rw [htab] at hcell
  have hc : Lib.ctz 64 x = Lib.ctzFrom 64 x := by unfold Lib.ctz; rw [if_neg h0]
  have C := tz_core x _ _ w (by simp; omega) (tz64_key x _ hx h0 hlow) hi hk2 hcell
  rw [hc] at C
  generalize Lib.ctzFrom 64 x = c at *
  clear hm hlow hk2 hi htab hcell hc
  go_enter Tryd.func85, Tryd.ntmps85
  go_wp2_with (go_at_call 86; refine C.mono ?_; rintro e w' ⟨rfl, rfl⟩)
  go_ret
  exact ⟨rfl, rfl⟩

def encI (p : Nat) : Array Value := #[.int .i64 (p : Int)]
def KT (_ : Nat) (A B : World) : Prop := B.heap[1]? = A.heap[1]?
def AbN (_ _ _ : World) : Prop := False
theorem Tab.kt {A B : World} {l : Nat} (h : Tab A) (k : KT l A B) : Tab B := by
  obtain ⟨t, fr, h⟩ := h
  exact ⟨t, fr, (k : B.heap[1]? = A.heap[1]?).trans h⟩

theorem points_any (x : Nat) (w : World) :
    Calls Tryd.prog 77 #[.int .u64 (x : Int)] w fun e w' => e = .returned (.func (.func 84) #[] #[.pointer (some ⟨w.heap.size, 0, none⟩)]) ∧ w' = w.alloc (.cells #[.int .u64 (x : Int)] 105) := by
  go_enter Tryd.func77, Tryd.ntmps77
  go_wp2
  go_ret
  exact ⟨rfl, rfl⟩

set_option maxRecDepth 100000 in
set_option maxHeartbeats 4000000 in
theorem points_runs (x n bs : Nat) (w : World) (hx : x < 2 ^ 64) (hT : Tab w) (h1 : Boxed w bs 105 (.int .u64 (x : Int))) : Runs n Tryd.prog 84 #[.pointer (some ⟨bs, 0, none⟩)] (pts x) encI KT AbN w := by
  intro l J Jx W hbW hl1 hl2 hJ hJx hY hJ0
  have c1 := (boxBelow h1 hbW h1.lt).cell
  have hTW : Tab W := hT.next hbW
  have HY : Hid (∀ (i y : Nat) (A : World) (m : Nat), (pts x)[i]? = some y → J i A → YieldAt Fence.wide m Tryd.prog l #[.int .i64 (y : Int)] A fun e B => (e = .returned (.bool true) ∧ J (i + 1) B ∧ KT l A B) ∨ (e = .returned (.bool false) ∧ Jx i B ∧ KT l A B)) := fun i y A m hx hA => YieldAt.anyD (hY i y A hx hA) m
  have HX : Hid (x < 2 ^ 64) := hx
  clear hJ hJx hY hT h1 hx
  refine callsIn_of_wp Tryd.func84 rfl trivial ?_ rfl
  simp only [Tryd.ntmps84, List.size_toArray, List.length_cons, List.length_nil, Nat.reduceAdd, Nat.reduceSub, Array.replicate_succ, Array.replicate_zero, List.push_toArray, List.append_toArray, List.nil_append, List.cons_append]
  gi_wp2
  gi_loopw [3] (fun lv wr => ∃ i y : Nat, lv = .int .u64 (y : Int) ∧ y < 2 ^ 64 ∧ Hid ((pts x).drop i = pts y) ∧ Hid (i ≤ (pts x).length) ∧ J i wr ∧ Tab wr) (fun lv _ => (pts (intOf lv).toNat).length)
  case atStart => exact ⟨0, x, rfl, HX.out, (rfl : (pts x).drop 0 = pts x), (Nat.zero_le _ : 0 ≤ (pts x).length), hJ0, hTW⟩
  case round =>
    clear c1 hTW hJ0
    obtain ⟨i, y, rfl, hy64, HD, HLE, hJi, hTi⟩ := hrel
    by_cases hy0 : y = 0
    · subst hy0
      have hd : (((0 : Nat) : Int) != 0) = false := by decide
      have hlen : (pts x).length ≤ i := by
        have := HD.out
        rw [pts_zero] at this
        exact List.drop_eq_nil_iff.1 this
      have hlt : i ≤ (pts x).length := HLE.out
      obtain rfl : i = (pts x).length := by omega
      gi_wp2
      refine ⟨trivial, ?_⟩
      gi_wp2
      refine ⟨fun _ h => (by cases h), ?_⟩
      gi_wp2
      go_end0
      exact ⟨⟨_, rfl⟩, .inl hJi⟩
    · have hd : ((y : Int) != 0) = true := by simp; omega
      obtain ⟨k, m, hk, hk64, CF⟩ := first_any y wr hTi hy64 hy0
      have hp := pts_off hy64 hk
      have hat : (pts x)[i]? = some k := by
        have h2 := HD.out
        rw [hp] at h2
        have := congrArg (·[0]?) h2
        simpa [List.getElem?_drop] using this
      have hnx : (pts x).drop (i + 1) = pts (y &&& (y - 1)) := by
        have h2 := HD.out
        rw [hp] at h2
        have := congrArg (·.drop 1) h2
        simpa [List.drop_drop] using this
      have HLE2 : Hid (i + 1 ≤ (pts x).length) := (List.getElem?_eq_some_iff.1 hat).1
      have HNX : Hid ((pts x).drop (i + 1) = pts (y &&& (y - 1))) := hnx
      have hle : y &&& (y - 1) ≤ y := Nat.and_le_left
      have HM : Hid ((pts (y &&& (y - 1))).length < (pts y).length) := by show _ < _; rw [hp]; simp
      have e1 : IntKind.u64.wrap ((y : Int) - 1) = ((y - 1 : Nat) : Int) := by
        rw [show (y : Int) - 1 = ((y - 1 : Nat) : Int) by omega]; exact wrapN (by omega)
      have e2 : bits .and .u64 (y : Int) ((y - 1 : Nat) : Int) = ((y &&& (y - 1) : Nat) : Int) := andN hy64 (by omega)
      obtain ⟨z, Hz⟩ : ∃ z, Hid (y &&& (y - 1) = z) := ⟨_, rfl⟩
      rw [Hz.out] at HNX HM hle e2
      obtain ⟨y1, Hy1⟩ : ∃ y1, Hid (y - 1 = y1) := ⟨_, rfl⟩
      rw [Hy1.out] at e1 e2
      obtain ⟨fn, tmps, assign, body, hy, hR⟩ := HY.out i k wr (n - 1) hat hJi
      clear hk hp hat hnx
      gi_wp2_with (refine ⟨trivial, (fun h => wide_no h), (callsIn_wide.2 CF).mono ?_⟩; rintro e w3 ⟨rfl, hw3⟩; subst hw3; clear CF)
      refine ⟨(fun h => wide_no h), hR.mono ?_⟩
      rintro e C (⟨rfl, hJ3, hk3⟩ | ⟨rfl, hJ3, hk3⟩)
      · have hT3 := hTi.kt hk3
        clear hy hR
        gi_wp2
        go_roundw
        case rel => exact ⟨i + 1, z, rfl, by omega, HNX, HLE2, hJ3, hT3⟩
        case measure => simpa [intOf] using HM.out
      · clear hy hR
        gi_wp2
        go_end0
        exact ⟨⟨_, rfl⟩, .inr ⟨_, hJ3⟩⟩

end Go.Proofs.YtcjkcgfohmhbcabDoor

/- The walk of meets. -/
namespace Go.Proofs.YtcjkcgfohmhbcabDoor
open Go.RowKit Go.Shelf

attribute [local go_sem] Oper.semAt_some

/-- What lies in these blocks lies there as it lay. -/
def Same (S : Nat → Prop) (A B : World) : Prop := ∀ b, S b → B.heap[b]? = A.heap[b]?
theorem Same.refl (S : Nat → Prop) (A : World) : Same S A A := fun _ _ => rfl
theorem Same.trans {S : Nat → Prop} {A B C : World} (h : Same S A B) (k : Same S B C) : Same S A C := fun b hb => (k b hb).trans (h b hb)
theorem grown_of_belowF {A B : World} (h : Below A.heap.size A B) : A.grownBy B none := ⟨h.os, h.tape, h.output, h.size, fun k hk _ => h.block k hk⟩
theorem keepsOthers_below {A B : World} (h : Below A.heap.size A B) : KeepsOthers A B := ⟨h.size, fun k _ hk _ => (h.block k (Array.getElem?_eq_some_iff.1 hk).1).trans hk⟩
/-- What an append to the row in the box leaves. -/
theorem appFacts {S : Nat → Prop} {W W5 w2 : World} {ob lo base k m : Nat} {t e : TypeId} {size : Nat} {u v' : Value} {xs ys : List Value} (hte : t ≠ e) (hu : Boxed W ob t u) (hrow : W.ownsRow base e size u k xs) (h5 : Below W.heap.size W W5)
    (hSlt : ∀ b, S b → b < base) (hSo : ¬ S ob) (hsz : base ≤ W.heap.size) (hlo : lo ≤ ob ∧ lo ≤ base) (hown' : w2.ownsRow base e size v' m ys) (hgrow : W5.grownBy w2 u.ownBlock) :
    Boxed w2 ob t u ∧ Boxed (w2.setCell ⟨ob, 0, none⟩ v') ob t v' ∧ (w2.setCell ⟨ob, 0, none⟩ v').ownsRow base e size v' m ys ∧ KeepsOthers W (w2.setCell ⟨ob, 0, none⟩ v') ∧ Same S W (w2.setCell ⟨ob, 0, none⟩ v') ∧ Below lo W (w2.setCell ⟨ob, 0, none⟩ v') := by
  have hu5 := boxBelow hu h5 hu.lt
  have hrow5 : W5.ownsRow base e size u k xs := hrow.kept (grown_of_belowF h5) (by cases h : u.ownBlock <;> simp)
  have h1 : Boxed w2 ob t u := hu5.kept hgrow (hu.not_row hte hrow)
  have hblk : ∀ b, b < base → b ≠ ob → (w2.setCell ⟨ob, 0, none⟩ v').heap[b]? = W.heap[b]? := by
    intro b hb hne
    refine (heap_setCell_other w2 ⟨ob, 0, none⟩ b v' hne).trans ((hgrow.block b (by have := h5.size; omega) (fun e => ?_)).trans (h5.block b (by omega)))
    rcases hrow.2 with ⟨rfl, _⟩ | ⟨g, cap, cur, rfl, hg, _⟩
    · simp [Value.ownBlock] at e
    · simp [Value.ownBlock] at e
      omega
  refine ⟨h1, h1.set v', hown'.kept (grownBy_setCell' w2 ob v') (.inr (h1.not_row hte hown').symm), ?_, fun b hb => hblk b (hSlt b hb) (fun e => hSo (e ▸ hb)), ?_⟩
  · refine ((keepsOthers_below h5).trans (KeepsOthers.of_grownBy hgrow fun j o ej hj => ?_)).trans (KeepsOthers.setCell _ _ _)
    rcases hrow5.2 with ⟨rfl, _⟩ | ⟨g, cap, cur, rfl, _, hgb, _⟩
    · simp [Value.ownBlock] at ej
    · obtain rfl : g = j := by simpa [Value.ownBlock] using ej
      rw [hgb] at hj; cases hj; rfl
  · refine ⟨hgrow.os.trans h5.os, hgrow.tape.trans h5.tape, hgrow.output.trans h5.output, ?_, fun b hb => hblk b (by omega) (by omega)⟩
    have := hgrow.size
    have := h5.size
    simp
    omega

theorem pc_le_of {x n : Nat} (h : x < 2 ^ n) (hn : n ≤ 64) : pc x ≤ n := by
  have h64 : x < 2 ^ 64 := Nat.lt_of_lt_of_le h (Nat.pow_le_pow_right (by decide) hn)
  exact (rise_pts (pts_rise x) (v := n) fun i hi => by
    rcases Nat.lt_or_ge i n with h1 | h1
    · exact h1
    · have := (pts_mem' h64).1 hi
      rw [testBit_high h h1] at this; cases this).le
/-- What is met up to a pair. -/
def SnM (S : List Nat) (i j acc : Nat) : Prop := ∀ n, acc.testBit n = true ↔ ∃ i' j', j' < i' ∧ (i' < i ∨ (i' = i ∧ j' < j)) ∧ pc (S.getD i' 0 &&& S.getD j' 0) = n
theorem SnM.zero (S : List Nat) : SnM S 0 0 0 := fun n => by
  constructor
  · intro h; simp at h
  · rintro ⟨i, j, h1, h2 | h2, _⟩ <;> omega
theorem SnM.step {S : List Nat} {i j acc : Nat} (h : SnM S i j acc) (hj : j < i) : SnM S i (j + 1) (acc ||| 2 ^ pc (S.getD i 0 &&& S.getD j 0)) := fun n => by
  rw [Nat.testBit_or, Nat.testBit_two_pow, Bool.or_eq_true, decide_eq_true_eq, h n]
  constructor
  · rintro (⟨i', j', h1, h2, h3⟩ | h3)
    · exact ⟨i', j', h1, by omega, h3⟩
    · exact ⟨i, j, hj, .inr ⟨rfl, by omega⟩, h3⟩
  · rintro ⟨i', j', h1, h2, h3⟩
    by_cases e : i' = i ∧ j' = j
    · obtain ⟨rfl, rfl⟩ := e; exact .inr h3
    · exact .inl ⟨i', j', h1, by omega, h3⟩
theorem SnM.row {S : List Nat} {i acc : Nat} (h : SnM S i i acc) : SnM S (i + 1) 0 acc := fun n => by
  rw [h n]
  constructor
  · rintro ⟨i', j', h1, h2, h3⟩
    exact ⟨i', j', h1, by omega, h3⟩
  · rintro ⟨i', j', h1, h2, h3⟩
    exact ⟨i', j', h1, by omega, h3⟩
theorem cutS (a : Option Addr) (n cap k : Nat) (hk : k ≤ n) (hc : n ≤ cap) (_hn : n ≤ 200) (_hcap : cap ≤ maxLen) : ∀ W, (Instr.sliceAt 96 (.slice a n cap) none (some (.int .i64 (k : Int))) none).run Tryd.prog W = .ok (.slice a k cap) W := fun W => by
  have h1 : (k : Int) ≤ (cap : Int) := by omega
  unfold maxLen at _hcap
  go_simp
/-- A row of sets that is read, with room. -/
def SC (w : World) (v : Value) (S : List Nat) : Prop := ∃ a cap, v = .slice a S.length cap ∧ S.length ≤ cap ∧ cap ≤ maxLen ∧ ∀ j, j < S.length → ∃ g off, a = some ⟨g, off, none⟩ ∧ ∀ W, Below w.heap.size w W → W.cell? ⟨g, off + j, none⟩ = some (.int .u64 ((S.getD j 0 : Nat) : Int))
theorem SRow.sc {w : World} {base : Nat} {v : Value} {S : List Nat} (h : SRow w base v S) : SC w v S := by
  have hs := h.ss
  obtain ⟨_, ⟨rfl, hn⟩ | ⟨g, cap, cur, rfl, _, hg, h1, h2, _, ht⟩⟩ := h
  · have : S = [] := List.length_eq_zero_iff.1 hn
    subst this
    exact ⟨none, 0, rfl, Nat.le_refl _, Nat.zero_le _, fun j hj => by simp at hj⟩
  · obtain ⟨a, c, e, hc⟩ := hs
    refine ⟨_, cap, rfl, h1, h2, fun j hj => ?_⟩
    obtain ⟨g', off, e', hcell⟩ := hc j hj
    simp only [Value.slice.injEq] at e
    rw [← e.1] at e'
    exact ⟨g', off, e', fun W hW => (hW.cell (p := ⟨g', off + j, none⟩) (block_lt_of_cell hcell)).trans hcell⟩

set_option maxRecDepth 100000 in
set_option maxHeartbeats 8000000 in
theorem meets_any (S : List Nat) (u : Value) (w : World) (hT : Tab w) (hu : SC w u S) (hl : S.length ≤ 200) (hS : ∀ x ∈ S, x < 2 ^ 40) :
    Calls Tryd.prog 68 #[u] w fun e w' => ∃ (x : Value) (acc : Nat), e = .returned x ∧ acc < 2 ^ 41 ∧ SnM S S.length 0 acc ∧ w'.ownsRow w.heap.size 3 1 x (pts acc).length (((pts acc).map Int.ofNat).map (Value.int .i64)) ∧ Below w.heap.size w w' := by
  refine (callsIn_wide (n := 4)).1 ?_
  obtain ⟨a, cap, rfl, hcap, hcm, hc⟩ := hu
  have HC : Hid (∀ j, j < S.length → ∃ g off, a = some ⟨g, off, none⟩ ∧ w.cell? ⟨g, off + j, none⟩ = some (.int .u64 ((S.getD j 0 : Nat) : Int))) := fun j hj => by
    obtain ⟨g, off, e, h⟩ := hc j hj
    exact ⟨g, off, e, h w (Below.refl _ _)⟩
  have HS : Hid (∀ j, j < S.length → S.getD j 0 < 2 ^ 40) := fun j hj => hS _ (getD_in hj)
  have hcut : Hid (∀ k, k ≤ S.length → ∀ W, (Instr.sliceAt 96 (.slice a S.length cap) none (some (.int .i64 (k : Int))) none).run Tryd.prog W = .ok (.slice a k cap) W) := fun k hk => cutS a S.length cap k hk hcap hl hcm
  have HTab : Hid (Tab w) := hT
  generalize hn : S.length = n at *
  obtain ⟨i3, hi3, hz0, hz1, hz2⟩ := info3
  clear hc hS hT hcap hcm
  refine callsIn_of_wp_marks Tryd.func68 rfl trivial ?_ rfl
  simp only [Tryd.ntmps68, List.size_toArray, List.length_cons, List.length_nil, Nat.reduceAdd, Nat.reduceSub, Array.replicate_succ, Array.replicate_zero, List.push_toArray, List.append_toArray, List.nil_append, List.cons_append]
  gi_wp2
  gi_loopw [3, 12] (fun mv iv wr => ∃ i acc : Nat, iv = .int .i64 (i : Int) ∧ mv = .int .u64 (acc : Int) ∧ i ≤ n ∧ acc < 2 ^ 41 ∧ Hid (SnM S i 0 acc) ∧ wr = w) (fun _ iv _ => (n - intOf iv).toNat)
  case atStart => exact ⟨0, 0, rfl, rfl, by omega, by decide, (SnM.zero S), rfl⟩
  case round =>
    obtain ⟨i, acc, rfl, rfl, hi, hacc, HM, rfl⟩ := hrel
    by_cases hlt : i < n
    · have hd : decide ((i : Int) < (n : Int)) = true := by simp; omega
      have hii : (i : Int) < (n : Int) := by omega
      obtain ⟨g, off, rfl, hci⟩ := HC.out i hlt
      have hai := HS.out i hlt
      have hcu := hcut.out i hi
      obtain ⟨x, Hx⟩ : ∃ x, Hid (S.getD i 0 = x) := ⟨_, rfl⟩
      rw [Hx.out] at hci hai
      gi_wp2
      gi_loopw [3, 21] (fun mv jv wr' => ∃ j acc' : Nat, jv = .int .i64 (j : Int) ∧ mv = .int .u64 (acc' : Int) ∧ j ≤ i ∧ acc' < 2 ^ 41 ∧ Hid (SnM S i j acc') ∧ wr' = wr) (fun _ jv _ => (i - intOf jv).toNat)
      case atStart => exact ⟨0, acc, rfl, rfl, by omega, hacc, HM, rfl⟩
      case round =>
        clear HM hacc hd
        obtain ⟨j, acc', rfl, rfl, hj, hacc', HM', hw'⟩ := hrel
        replace hw' := hw'.symm
        subst hw'
        by_cases hltj : j < i
        · have hdj : decide ((j : Int) < (i : Int)) = true := by simp; omega
          have hji : (j : Int) < (i : Int) := by omega
          obtain ⟨g2, off2, e2, hcj⟩ := HC.out j (by omega)
          obtain ⟨rfl, rfl⟩ : g = g2 ∧ off = off2 := by
            simp only [Option.some.injEq, Addr.mk.injEq] at e2
            exact ⟨e2.1, e2.2.1⟩
          have haj := HS.out j (by omega)
          have hst := HM'.out.step hltj
          rw [Hx.out] at hst
          obtain ⟨y, Hy⟩ : ∃ y, Hid (S.getD j 0 = y) := ⟨_, rfl⟩
          rw [Hy.out] at hcj haj hst
          have hxy : x &&& y < 2 ^ 40 := Nat.lt_of_le_of_lt Nat.and_le_left hai
          have hand : bits .and .u64 (x : Int) (y : Int) = ((x &&& y : Nat) : Int) := andN (by omega) (by omega)
          have hpc : pc (x &&& y) ≤ 40 := pc_le_of hxy (by omega)
          have hZ := size_any (x &&& y) (by omega)
          obtain ⟨p, Hp⟩ : ∃ p, Hid (pc (x &&& y) = p) := ⟨_, rfl⟩
          obtain ⟨z, Hz⟩ : ∃ z, Hid (x &&& y = z) := ⟨_, rfl⟩
          rw [Hp.out] at hpc hst
          have CZ : Hid (∀ W, Calls Tryd.prog 73 #[.int .u64 (z : Int)] W fun e w' => e = .returned (.int .i64 (p : Int)) ∧ w' = W) := fun W => by rw [← Hz.out, ← Hp.out]; exact hZ W
          rw [Hz.out] at hand
          have h2p : 2 ^ p < 2 ^ 41 := pow_lt64 (by omega)
          have hor : bits .or .u64 (acc' : Int) ((2 ^ p : Nat) : Int) = ((acc' ||| 2 ^ p : Nat) : Int) := orN (by omega) (by omega)
          have hor2 : acc' ||| 2 ^ p < 2 ^ 41 := Nat.or_lt_two_pow hacc' h2p
          have CO : Hid (∀ W, Calls Tryd.prog 72 #[.int .i64 (p : Int)] W fun e w' => e = .returned (.int .u64 ((2 ^ p : Nat) : Int)) ∧ w' = W) := fun W => only_any p (by omega) W
          obtain ⟨q, Hq⟩ : ∃ q, Hid (2 ^ p = q) := ⟨_, (rfl : 2 ^ p = 2 ^ p)⟩
          rw [Hq.out] at hor hor2 CO hst
          obtain ⟨r, Hr⟩ : ∃ r, Hid (acc' ||| q = r) := ⟨_, rfl⟩
          rw [Hr.out] at hor hor2 hst
          have HST : Hid (SnM S i (j + 1) r) := hst
          clear hst hZ e2 h2p
          gi_wp2_with (first
            | (refine ⟨trivial, (callsIn_wide.2 (CZ.out _)).mono ?_⟩; rintro e w3 ⟨rfl, hw3⟩; replace hw3 := hw3.symm; subst hw3)
            | (refine ⟨trivial, (callsIn_wide.2 (CO.out _)).mono ?_⟩; rintro e w3 ⟨rfl, hw3⟩; replace hw3 := hw3.symm; subst hw3))
          go_roundw
          case rel => exact ⟨j + 1, r, by go_num, rfl, by omega, hor2, HST, by trivial⟩
          case measure => simp [intOf]; omega
        · have hdj : decide ((j : Int) < (i : Int)) = false := by simp; omega
          obtain rfl : j = i := by omega
          have HM2 : Hid (SnM S (j + 1) 0 acc') := HM'.out.row
          gi_wp2
          go_roundw
          case rel => exact ⟨j + 1, acc', by go_num, rfl, by omega, hacc', HM2, by trivial⟩
          case measure => simp [intOf]; omega
    · have hd : decide ((i : Int) < (n : Int)) = false := by simp; omega
      obtain rfl : i = n := by omega
      have hT := HTab.out
      have f8 : Boxed (wr.alloc (.cells #[.slice none 0 0] 23)) wr.heap.size 23 (.slice none 0 0) := Boxed.new wr 23 _
      have b1 := balloc wr (.cells #[.slice none 0 0] 23)
      obtain ⟨w1, Hw1⟩ : ∃ w1, Hid (w1 = wr.alloc (.cells #[.slice none 0 0] 23)) := ⟨_, rfl⟩
      have CP := points_any acc w1
      have s1 : w1.heap.size = wr.heap.size + 1 := by rw [Hw1.out]; simp
      rw [← Hw1.out] at f8 b1
      have HS1 : Hid (w1.heap.size = wr.heap.size + 1) := s1
      clear s1 hcut
      gi_wp2_with (refine ⟨trivial, ?_⟩; rw [← Hw1.out]; refine (callsIn_wide.2 CP).mono ?_; rintro e w2 ⟨rfl, hw2⟩)
      have s1 := HS1.out
      have b2 := balloc w1 (.cells #[.int .u64 (acc : Int)] 105)
      have f9 := Boxed.new w1 105 (.int .u64 (acc : Int))
      have s2 : (w1.alloc (.cells #[.int .u64 (acc : Int)] 105)).heap.size = w1.heap.size + 1 := by simp
      rw [← hw2] at b2 f9 s2
      have hT2 : Tab w2 := (hT.next b1).next b2
      have hposn : 1 < wr.heap.size := hT.pos
      rw [← hw2]
      clear hw2 CP
      refine wpIn_runs2 (ys := pts acc) (enc := encI) (Kp := KT) (Ab := AbN) (gf := 84) (lb := #[.pointer (some ⟨w1.heap.size, 0, none⟩)]) rfl (enters_of Tryd.func84 (by kernel_rfl) rfl)
        (points_runs acc _ w1.heap.size w2 (by omega) hT2 f9) (fun _ => rfl) (fun h k => k.trans h) ?hKb (fun _ _ _ _ _ h => h.elim)
        (fun i B => (∃ uu, Boxed B wr.heap.size 23 uu ∧ B.ownsRow w2.heap.size 3 1 uu i ((((pts acc).take i).map Int.ofNat).map (Value.int .i64))) ∧ Below wr.heap.size wr B ∧ w2.heap.size ≤ B.heap.size) (fun _ _ => False) ?hIp (fun _ _ _ _ h => h.elim) (fun _ _ _ _ _ _ _ h => h.elim) (fun _ _ _ _ h => h.elim) ?h0
        (fun x => { tmps := #[.slice a i cap, undef, .slice none 0 0, .int .u64 (acc : Int), u4, u5, undef, u7, .pointer (some ⟨wr.heap.size, 0, none⟩), .int .i64 (x : Int), .slice a i cap, .int .i64 (i : Int), .int .i64 (i : Int), .bool false, u14, u15, u16, u17, u18, u19, u20, u21, u22, u23, u24, u25, u26, u27, u28, u29, u30, u31, u32, u33, .int .u64 (acc : Int), .func (.func 84) #[] #[.pointer (some ⟨w1.heap.size, 0, none⟩)], .int .i64 (x : Int), undef, undef, undef, undef, undef], defers := [] }) ?assign ?body ?done (fun _ _ h => h.elim)
      case hKb =>
        intro B o hB
        exact World.putObj_heap_other (by omega)
      case hIp =>
        rintro i B o o' ⟨⟨uu, g1, g2⟩, g3, g4⟩ ho hc
        exact ⟨⟨uu, boxAt g1 (World.putObj_heap_other (by omega)), ownsRow_putObj g2 _ ho hc⟩, g3.trans (below_put _ _ (by omega)), by simpa [World.putObj] using g4⟩
      case h0 =>
        intro V hb
        exact ⟨⟨_, boxBelow (boxBelow f8 b2 (by omega)) hb (by omega), World.ownsRow_nil _ _ _ _⟩, (b1.trans (b2.mono (by omega))).trans (hb.mono (by omega)), hb.size⟩
      case assign =>
        clear s1 s2
        intro l x W K _ hK
        unfold encI
        gi_wp2
        exact hK
      case body =>
        rintro i' x B hx ⟨⟨uu, g1, g2⟩, g3, g4⟩ hD hrec
        have hlen : i' < (pts acc).length := (List.getElem?_eq_some_iff.1 hx).1
        have h64 : (pts acc).length ≤ 64 := pc_le acc
        have htk : (((pts acc).take (i' + 1)).map Int.ofNat).map (Value.int .i64) = (((pts acc).take i').map Int.ofNat).map (Value.int .i64) ++ [.int .i64 (x : Int)] := by
          rw [List.take_add_one, hx]; simp
        have HTK : Hid ((((pts acc).take (i' + 1)).map Int.ofNat).map (Value.int .i64) = (((pts acc).take i').map Int.ofNat).map (Value.int .i64) ++ [.int .i64 (x : Int)]) := htk
        have q8 := g1.cell
        obtain ⟨ua, uc, eu⟩ := own_formE g2
        have hu := g1
        have hrow := g2
        subst eu
        have r8 := (g1.alloc (.cells #[.int .i64 (x : Int)] 3)).cell
        have hb0 := balloc B (.cells #[.int .i64 (x : Int)] 3)
        have HREC : Hid (∀ b, b = w2.heap.size ∨ b = w2.heap.size + 1 → ∃ o, B.heap[b]? = some o ∧ o.isCells = false) := hrec
        clear hrec htk hx
        gi_wp2_with (gi_at_builtin; refine wpListIn_append_own _ rfl _ _ 23 rfl w2.heap.size 3 i3 (.int .i64 0) 1 8 und22 hi3 hz0 hz1 hz2 rfl (by decide) _ _ _ rfl (hrow.alloc _) ⟨B.heap.size, 0, none⟩ 1 1 [.int .i64 (x : Int)] rfl rfl (cell_one_new _ _ _) (by simp [Value.oneCell']) (by unfold maxLen; omega) (by omega) (by simp; omega) ?_; intro v' w5 hown' hgrow _; obtain ⟨g', cap', rfl⟩ := ownsRow_succ hown'; obtain ⟨k1, k2, k3, k4, _, k6⟩ := appFacts (S := fun b => False) (lo := wr.heap.size) (by decide) hu hrow hb0 (fun _ h => h.elim) (fun h => h) g4 ⟨Nat.le_refl _, by omega⟩ hown' hgrow; have k1c := k1.cell; have k1f := k1.frozen)
        refine ⟨⟨?_, ?_⟩, ?_, ⟨_, k2, by rw [HTK.out]; exact k3⟩, g3.trans k6, Nat.le_trans g4 k6.size⟩
        · obtain ⟨o, h1, h2⟩ := HREC.out _ (.inl rfl)
          rw [k4.same _ _ h1 h2, h1]
        · obtain ⟨o, h1, h2⟩ := HREC.out _ (.inr rfl)
          rw [k4.same _ _ h1 h2, h1]
        · exact k6.block 1 hposn
      case done =>
        rintro B ⟨⟨uu, g1, g2⟩, g3, g4⟩ hK
        have q8 := g1.cell
        have HM3 : Hid (SnM S i 0 acc) := HM
        rw [List.take_of_length_le (Nat.le_refl _)] at g2
        clear HM
        gi_wp2
        refine ⟨by simp, .inl ⟨_, _, rfl, run_takeDeferred hK, ?_⟩⟩
        have bP := below_put (n := w2.heap.size) B (.deferred none) (l := w2.heap.size) (Nat.le_refl _)
        refine ⟨_, results_tmp rfl _ _ _, uu, acc, rfl, hacc, HM3.out, own_low (ownsRow_putObj g2 _ hK rfl) (by omega), g3.trans (bP.mono (by omega))⟩

end Go.Proofs.YtcjkcgfohmhbcabDoor

/- The walk of Meets, and the law DesignMeets. -/
namespace Go.Proofs.YtcjkcgfohmhbcabDoor
open Go.RowKit

theorem pc_mt {v : Nat} {b c : List Nat} (hb : b.Pairwise (· < ·)) (hbv : ∀ x ∈ b, x < v) (_hcv : ∀ x ∈ c, x < v) (hv : v ≤ 64) : pc (sb b &&& sb c) = mt b c := by
  have h1 : sb b < 2 ^ 64 := sb_lt fun x hx => by have := hbv x hx; omega
  have e : pts (sb b &&& sb c) = b.filter fun x => c.contains x := by
    refine pts_ext (hb.filter _) (Nat.lt_of_le_of_lt Nat.and_le_left h1) fun i => ?_
    rw [Nat.testBit_and, sb_bit, sb_bit, List.mem_filter, Bool.and_eq_true, List.contains_iff_mem]
  unfold pc mt
  rw [e, List.countP_eq_length_filter]
theorem getD_map (B : List (List Nat)) {i : Nat} (hi : i < B.length) : (B.map sb).getD i 0 = sb (B.getD i []) := by
  rw [List.getD_eq_getElem?_getD, List.getD_eq_getElem?_getD, List.getElem?_map, List.getElem?_eq_getElem hi]
  rfl
theorem getD_memB {B : List (List Nat)} {i : Nat} (hi : i < B.length) : B.getD i [] ∈ B := by
  rw [List.getD_eq_getElem?_getD, List.getElem?_eq_getElem hi]; exact List.getElem_mem hi
theorem meet_is {v acc : Nat} {B : List (List Nat)} (G : GoodD v B) (hacc : acc < 2 ^ 41) (h : SnM (B.map sb) (B.map sb).length 0 acc) : pts acc = mtL v B := by
  have h40 := G.le
  unfold mtL
  refine pts_ext (List.pairwise_lt_range.filter _) (by omega) fun n => ?_
  rw [h n, List.mem_filter, List.mem_range, metB_iff, List.length_map]
  have key : ∀ i j, j < i → i < B.length → pc ((B.map sb).getD i 0 &&& (B.map sb).getD j 0) = mt (B.getD i []) (B.getD j []) := fun i j h1 h2 => by
    rw [getD_map B h2, getD_map B (by omega)]
    have r1 := rs_iff.1 (G.rs _ (getD_memB h2))
    have r2 := rs_iff.1 (G.rs _ (getD_memB (show j < B.length by omega)))
    exact pc_mt r1.1 (fun x hx => (r1.2 x hx).2) (fun x hx => (r2.2 x hx).2) (by omega)
  constructor
  · rintro ⟨i, j, h1, h2 | h2, h3⟩
    · rw [key i j h1 h2] at h3
      refine ⟨?_, i, j, h1, h2, h3⟩
      have : mt (B.getD i []) (B.getD j []) ≤ (B.getD i []).length := List.countP_le_length
      have := (G.bls _ (getD_memB h2)).le
      omega
    · omega
  · rintro ⟨_, i, j, h1, h2, h3⟩
    exact ⟨i, j, h1, .inl h2, by rw [key i j h1 h2]; exact h3⟩
theorem good_sb40 {v : Nat} {B : List (List Nat)} (G : GoodD v B) : ∀ x ∈ B.map sb, x < 2 ^ 40 := fun x hx => by
  obtain ⟨b, hb, rfl⟩ := List.mem_map.1 hx
  have h40 := G.le
  exact sb_lt fun y hy => by have := (G.bls b hb).lt y hy; omega

set_option maxRecDepth 100000 in
set_option maxHeartbeats 4000000 in
theorem Meets_good (v : Nat) (B : List (List Nat)) (u : Value) (w : World) (hT : Tab w) (G : GoodD v B) (hu : Rw w u (toZ B)) :
    Calls Tryd.prog 54 #[.agg #[.int .i64 (v : Int), u]] w fun e w' => ∃ x, e = .returned (.tuple #[x, .int .i64 0]) ∧ w'.ownsRow w.heap.size 3 1 x (mtL v B).length (((mtL v B).map Int.ofNat).map (Value.int .i64)) ∧ Below w.heap.size w w' := by
  obtain ⟨x0, x1⟩ := lv_box v u w
  have b0 := balloc w (.cells #[.int .i64 (v : Int), u] 42)
  have C1 := open_good v B u _ G (hu.below b0)
  have HM : Hid (∀ (x : Value) (W : World), Tab W → SC W x (B.map sb) → Calls Tryd.prog 68 #[x] W fun e w' => ∃ (y : Value), e = .returned y ∧ w'.ownsRow W.heap.size 3 1 y (mtL v B).length (((mtL v B).map Int.ofNat).map (Value.int .i64)) ∧ Below W.heap.size W w') := fun x W hT hx => by
    refine (meets_any (B.map sb) x W hT hx (by rw [List.length_map]; exact G.few) (good_sb40 G)).mono ?_
    rintro e w' ⟨y, acc, rfl, h1, h2, h3, h4⟩
    rw [meet_is G h1 h2] at h3
    exact ⟨y, rfl, h3, h4⟩
  have hT0 := hT.next b0
  have HT0 : Hid (Tab (w.alloc (.cells #[.int .i64 (v : Int), u] 42))) := hT0
  clear hu G
  go_enter Tryd.func54, Tryd.ntmps54
  go_wp2_with (first
    | (go_at_call 52; refine C1.mono ?_; rintro e w3 ⟨⟨x, rfl, hrow⟩, hb3⟩; clear C1; have CM := HM.out x w3 (HT0.out.next hb3) hrow.sc)
    | (go_at_call 68; refine CM.mono ?_; rintro e w4 ⟨y, rfl, hy, hb4⟩; clear CM))
  have hb5 := Below.next b0 hb3
  refine bodyPost_ret (v := .tuple #[y, .int .i64 0]) (by simp [results, Tryd.results54, go_sem]) rfl ⟨_, rfl, own_low hy hb5.size, Below.next hb5 hb4⟩

end Go.Proofs.YtcjkcgfohmhbcabDoor

namespace Go.Proofs.YtcjkcgfohmhbcabDoor
open Go.RowKit

theorem eqZ_of {a b : List Int} (hl : a.length = b.length) (h : ∀ j, j < a.length → a.getD j 0 = b.getD j 0) : a = b := by
  refine List.ext_getElem hl fun j h1 h2 => ?_
  have := h j h1
  rw [List.getD_eq_getElem?_getD, List.getD_eq_getElem?_getD, List.getElem?_eq_getElem h1, List.getElem?_eq_getElem h2] at this
  exact this
set_option maxRecDepth 100000 in
set_option maxHeartbeats 4000000 in
theorem Equal_any (a b : List Int) (q : Bool) (u v : Value) (w : World) (hu : Sl w u a) (hv : Sl w v b) (ha : a.length ≤ 100) (hb : b.length ≤ 100) (hq : q = true ↔ a = b) :
    Calls Tryd.prog 55 #[u, v] w fun e w' => e = .returned (.bool q) ∧ Below w.heap.size w w' := by
  obtain ⟨ua, uc, rfl, hua⟩ := hu
  obtain ⟨va, vc, rfl, hva⟩ := hv
  have HUA : Hid (∀ j, j < a.length → ∃ g o, ua = some ⟨g, o, none⟩ ∧ ∀ W, Below w.heap.size w W → W.cell? ⟨g, o + j, none⟩ = some (.int .i64 (a.getD j 0))) := fun j hj => by
    obtain ⟨g, o, e, hc⟩ := hua j hj
    exact ⟨g, o, e, fun W bW => (bW.cell (World.block_lt_of_cell? _ _ hc)).trans hc⟩
  have HVA : Hid (∀ j, j < b.length → ∃ g o, va = some ⟨g, o, none⟩ ∧ ∀ W, Below w.heap.size w W → W.cell? ⟨g, o + j, none⟩ = some (.int .i64 (b.getD j 0))) := fun j hj => by
    obtain ⟨g, o, e, hc⟩ := hva j hj
    exact ⟨g, o, e, fun W bW => (bW.cell (World.block_lt_of_cell? _ _ hc)).trans hc⟩
  have HNO : Hid (∀ j, j < a.length → a.getD j 0 ≠ b.getD j 0 → q = false) := fun j _ hn => Bool.eq_false_iff.2 fun k => hn (by rw [hq.1 k])
  by_cases hl : a.length = b.length
  · have HYE : Hid ((∀ j, j < a.length → a.getD j 0 = b.getD j 0) → q = true) := fun h => hq.2 (eqZ_of hl h)
    generalize a.length = n at *
    generalize b.length = m at *
    subst hl
    have hnn : ((n : Int) != (n : Int)) = false := by simp
    clear hua hva hq
    go_enter Tryd.func55, Tryd.ntmps55
    go_wp2
    go_loopw [13] (fun iv wr => ∃ i : Nat, iv = .int .i64 (i : Int) ∧ i ≤ n ∧ Hid (∀ j, j < i → a.getD j 0 = b.getD j 0) ∧ Below w.heap.size w wr) (fun iv _ => (n - intOf iv).toNat)
    case atStart => exact ⟨0, rfl, by omega, (show ∀ j, j < 0 → _ from fun j h => by omega), Below.refl _ _⟩
    case round =>
      obtain ⟨i, rfl, hi, HI, hB⟩ := hrel
      by_cases hlt : i < n
      · have hdi : decide ((i : Int) < (n : Int)) = true := by simp; omega
        have hii : (i : Int) < (n : Int) := by omega
        obtain ⟨g, o, rfl, hc0⟩ := HUA.out i hlt
        obtain ⟨g2, o2, rfl, hc20⟩ := HVA.out i hlt
        have hc := hc0 _ hB
        have hc2 := hc20 _ hB
        clear hc0 hc20
        have hno := HNO.out i hlt
        have HI2 : Hid (a.getD i 0 = b.getD i 0 → ∀ j, j < i + 1 → a.getD j 0 = b.getD j 0) := fun h j hj => by
          by_cases e : j = i
          · rw [e]; exact h
          · exact HI.out j (by omega)
        obtain ⟨x, Hx⟩ : ∃ x, Hid (a.getD i 0 = x) := ⟨_, rfl⟩
        obtain ⟨y, Hy⟩ : ∃ y, Hid (b.getD i 0 = y) := ⟨_, rfl⟩
        rw [Hx.out, Hy.out] at hno HI2
        rw [Hx.out] at hc
        rw [Hy.out] at hc2
        by_cases he : x = y
        · subst he
          have hxx : (x != x) = false := by simp
          have hxx2 : (x == x) = true := by simp
          have HI3 : Hid (∀ j, j < i + 1 → a.getD j 0 = b.getD j 0) := HI2.out rfl
          clear HI2 HI hno
          go_wp2
          go_quiet (fail)
          go_wp2
          go_roundw
          case rel => exact ⟨i + 1, by go_num, by omega, HI3, bdrewN hB _⟩
          case measure => simp [intOf]; omega
        · obtain rfl := hno he
          have hxy : (x != y) = true := by simpa using he
          have hxy2 : (x == y) = false := by simpa using he
          clear HI2 HI hno
          go_wp2
          go_quiet (fail)
          go_wp2
          go_ret
          exact ⟨rfl, bdrewN hB _⟩
      · have hdi : decide ((i : Int) < (n : Int)) = false := by simp; omega
        obtain rfl := HYE.out fun j hj => HI.out j (by omega)
        go_wp2
        go_ret
        exact ⟨rfl, hB⟩
  · obtain rfl : q = false := Bool.eq_false_iff.2 fun k => hl (by rw [hq.1 k])
    generalize a.length = n at *
    generalize b.length = m at *
    have hnm' : ¬ (n : Int) = (m : Int) := by omega
    have hnm : ((n : Int) != (m : Int)) = true := by simpa using hnm'
    clear hua hva hq HUA HVA HNO
    go_enter Tryd.func55, Tryd.ntmps55
    go_wp2
    go_ret
    exact ⟨rfl, Below.refl _ _⟩

end Go.Proofs.YtcjkcgfohmhbcabDoor
