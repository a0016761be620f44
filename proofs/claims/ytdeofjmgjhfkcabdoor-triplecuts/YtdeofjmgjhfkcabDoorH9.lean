/- The walk of Parallel. -/
import Derived.Test.YtdeofjmgjhfkcabDoorF2
import Derived.Test.YtdeofjmgjhfkcabDoorDCo
import Derived.Test.YtdeofjmgjhfkcabDoorE9
import Derived.Test.YtdeofjmgjhfkcabDoorLL
import Derived.Test.YtdeofjmgjhfkcabDoorDDu
import Derived.Test.YtdeofjmgjhfkcabDoorHQ
import Derived.Maps.OwnSet
import Derived.Maps.AppendAt
/- The walk of Complement. -/
/- The walk of among: what blocks have of the points that are kept, numbered anew. -/
namespace Go.Proofs.YtdeofjmgjhfkcabDoor
open Go.RowKit Go.Shelf

attribute [local go_sem] Oper.semAt_some

/-- What lies in cells lies there as it lay. -/
def CK (A B : World) : Prop := A.heap.size ≤ B.heap.size ∧ ∀ (b : Nat) (o : Obj), A.heap[b]? = some o → o.isCells = true → B.heap[b]? = some o
theorem CK.refl (A : World) : CK A A := ⟨Nat.le_refl _, fun _ _ h _ => h⟩
theorem CK.trans {A B C : World} (h : CK A B) (k : CK B C) : CK A C := ⟨Nat.le_trans h.1 k.1, fun b o h1 h2 => k.2 b o (h.2 b o h1 h2) h2⟩
theorem CK.put {A : World} {l : Nat} {o : Obj} (h : A.heap[l]? = some o) (hc : o.isCells = false) (o' : Obj) : CK A (A.putObj l o') :=
  ⟨by simp [World.putObj], fun b q h1 h2 => (World.putObj_heap_other (fun e => by subst e; rw [h] at h1; cases h1; rw [hc] at h2; cases h2)).trans h1⟩
theorem CK.row {A B : World} (k : CK A B) {base : Nat} {e : TypeId} {v : Value} {n : Nat} {xs : List Value} (h : A.ownsRow base e 1 v n xs) : B.ownsRow base e 1 v n xs := by
  obtain ⟨h3, h4 | ⟨g, cap, cur, h5, h6, h7, h8⟩⟩ := h
  · exact ⟨h3, .inl h4⟩
  · exact ⟨h3, .inr ⟨g, cap, cur, h5, h6, k.2 g _ h7 rfl, h8⟩⟩
theorem CK.or {A B : World} (k : CK A B) {base : Nat} {v : Value} {ls : List (List Nat)} (h : OR A base v ls) : OR B base v ls := by
  obtain ⟨vals, h1, h2⟩ := h
  exact ⟨vals, k.row h1, fun i u l hu hl => k.row (h2 i u l hu hl)⟩
/-- All marks are taken over, at the function's end; what it hands back is told behind them. -/
theorem marks_leave2 {F : Fence} {n : Nat} {P : Program} {fn : Func} {tmps : Array Value} {R : Ending → World → Prop} {m : Nat} : ∀ (rs : List Nat) (A : World), rs.Nodup → (∀ r ∈ rs, m ≤ r ∧ A.heap[r]? = some (.deferred (some []))) → (∀ B, Below m A B → CK A B → ∃ v, (results fn tmps).run P B = .ok v B ∧ R (.returned v) B) → LeavesInM F n P fn tmps R (rs.map markOf) .returning A := by
  intro rs
  induction rs with
  | nil =>
    intro A _ _ hR
    exact hR A (Below.refl _ _) (CK.refl _)
  | cons r rs ih =>
    intro A hn hm hR
    obtain ⟨h1, h2⟩ := hm r List.mem_cons_self
    obtain ⟨h3, h4⟩ := List.nodup_cons.1 hn
    refine ⟨by simp, .inl ⟨r, _, rfl, run_takeDeferred h2, ih _ h4 (fun q hq => ?_) fun B hb hc => hR B ((below_put A _ h1).trans hb) ((CK.put h2 rfl _).trans hc)⟩⟩
    refine ⟨(hm q (List.mem_cons_of_mem _ hq)).1, (World.putObj_heap_other (show q ≠ r from fun e => h3 (e ▸ hq))).trans (hm q (List.mem_cons_of_mem _ hq)).2⟩
/-- An append onto a row of the call's own, as one step of a region that draws its order, inside a fence. -/
theorem stepIn_append_own {F : Fence} {n : Nat} {P : Program} {ops : Array Oper} {o : Oper} {a : Act} {w : World} {K : Act → World → Prop} {Q : Exit → Act → World → Prop} {E : Prop}
    (hg : o.guard = none) (s x : Operand) (t : TypeId) (hop : o.op = Op.call { callee := Callee.builtin Builtin.append, args := #[s, x], argTypes := #[t, t] })
    (base : Nat) (e : TypeId) (i : TypeInfo) (z : Value) (size bytes : Nat) (h1 : P.underlying t = some (.slice e)) (h2 : P.info? e = some i) (h3 : i.zero = some z) (h4 : i.size = size) (h5 : i.bytes = bytes) (h6 : z.cells.size = size) (h7 : 0 < size)
    (v : Value) (k : Nat) (xs : List Value) (hs : a.eval s = v) (hown : w.ownsRow base e size v k xs) (ad : Addr) (m c : Nat) (news : List Value) (hx : a.eval x = .slice (some ad) m c) (hn : news.length = m * size)
    (hc : ∀ j u, news[j]? = some u → w.cell? (ad.add j) = some u) (h1c : ∀ u ∈ news, u.oneCell' = true) (b1 : k + m ≤ maxLen) (b2 : (k + m) * bytes ≤ 140737488355328) (b3 : base ≤ w.heap.size)
    (hK : ∀ v' w', w'.ownsRow base e size v' (k + m) (xs ++ news) → w.grownBy w' v.ownBlock → K (a.put o.dst v') w') :
    if Region.wanted o (yielded ops a.tmps) = true then Oper.wpIn F n P o a w K Q else E := by
  have hw : Region.wanted o (yielded ops a.tmps) = true := by simp [Region.wanted, hg]
  rw [if_pos hw]
  obtain ⟨v', w', hrun, r1, r2, _⟩ := run_append_own (P := P) w base t o.type e i z size bytes h1 h2 h3 h4 h5 h6 h7 v k xs hown ad m c news hn hc h1c b1 b2 b3
  unfold Oper.wpIn
  refine ⟨?_, ?_⟩
  · simp [Oper.about, hop, resolve, Target.leads, Sem.run_pure]
  · rw [Oper.semAt_plain F _ _ (by rw [hop]; intro c hc'; cases hc')]
    simp [execOp, hop, resolve, invoke, builtin, hs, hx, hrun, Result.andThen]
    exact hK _ _ r1 r2

/-- Points of z, by their numbers among those kept. -/
def amL (kept z : Nat) : List Nat := (pts z).map fun x => pc (kept &&& (2 ^ x - 1))
def rows (kept z : Nat) : List Int := (amL kept z).map Int.ofNat
/-- What among holds. -/
structure AmI (w : World) (kept p : Nat) (dv : Value) (rs : List Nat) (ls : List (List Nat)) (A : World) : Prop where
  k : Boxed A w.heap.size 53 (.int .u64 (kept : Int))
  r : A.heap[w.heap.size + 1]? = some (.cells #[.int .i64 0, .slice none 0 0] 25 (0, 0))
  d : A.heap[w.heap.size + 1 + 1]? = some (.cells #[.int .i64 (p : Int), dv] 25 (0, 0))
  o : OR A (w.heap.size + 3) dv ls
  nd : rs.Nodup
  mks : ∀ q ∈ rs, w.heap.size + 3 ≤ q ∧ A.heap[q]? = some (.deferred (some []))
  bw : Below w.heap.size w A
theorem AmI.size {w : World} {kept p : Nat} {dv : Value} {rs : List Nat} {ls : List (List Nat)} {A : World} (h : AmI w kept p dv rs ls A) : w.heap.size + 3 ≤ A.heap.size := (Array.getElem?_eq_some_iff.1 h.d).1
theorem AmI.below {w : World} {kept p : Nat} {dv : Value} {rs : List Nat} {ls : List (List Nat)} {A B : World} (h : AmI w kept p dv rs ls A) (b : Below A.heap.size A B) : AmI w kept p dv rs ls B :=
  ⟨boxBelow h.k b h.k.lt, (b.block _ (Array.getElem?_eq_some_iff.1 h.r).1).trans h.r, (b.block _ (Array.getElem?_eq_some_iff.1 h.d).1).trans h.d, h.o.below b, h.nd, fun q hq => ⟨(h.mks q hq).1, (b.block _ (Array.getElem?_eq_some_iff.1 (h.mks q hq).2).1).trans (h.mks q hq).2⟩, h.bw.trans (b.mono (by have := h.size; omega))⟩

end Go.Proofs.YtdeofjmgjhfkcabDoor

namespace Go.Proofs.YtdeofjmgjhfkcabDoor
open Go.RowKit

/-- A row of sets of one's own, to be changed. -/
def OwnS (w : World) (g n : Nat) (f : Nat → Nat) : Prop := ∃ cur, w.heap[g]? = some (.cells cur 53 (0, 0)) ∧ ∀ j, j < n → cur[j]? = some (.int .u64 ((f j : Nat) : Int))
theorem OwnS.lt {w : World} {g n : Nat} {f : Nat → Nat} (h : OwnS w g n f) : g < w.heap.size := by
  obtain ⟨cur, h, _⟩ := h
  exact (Array.getElem?_eq_some_iff.1 h).1
theorem OwnS.cell {w : World} {g n : Nat} {f : Nat → Nat} (h : OwnS w g n f) (j : Nat) (hj : j < n) : w.cell? ⟨g, j, none⟩ = some (.int .u64 ((f j : Nat) : Int)) := by
  obtain ⟨cur, h, hc⟩ := h
  rw [cell_of_row w g j _ _ _ h, hc j hj]
theorem OwnS.frozen {w : World} {g n : Nat} {f : Nat → Nat} (h : OwnS w g n f) (j : Nat) : w.frozen? ⟨g, j, none⟩ = false := by
  obtain ⟨cur, h, _⟩ := h
  exact frozen_of_row w g j _ _ h
def updS (f : Nat → Nat) (i v : Nat) : Nat → Nat := fun j => if j = i then v else f j
theorem OwnS.set {w : World} {g n : Nat} {f : Nat → Nat} (h : OwnS w g n f) (i v : Nat) : OwnS (w.setCell ⟨g, i, none⟩ (.int .u64 (v : Int))) g n (updS f i v) := by
  obtain ⟨cur, h, hc⟩ := h
  refine ⟨_, heap_setCell_same w g i _ _ _ h, fun j hj => ?_⟩
  have hcj := hc j hj
  have hlt : j < cur.size := (Array.getElem?_eq_some_iff.1 hcj).1
  rw [Array.getElem?_setIfInBounds]
  by_cases e : i = j
  · subst e; rw [if_pos rfl, if_pos hlt]; simp [updS]
  · rw [if_neg e, hcj]; simp [updS, Ne.symm e]
theorem OwnS.congr {w : World} {g n : Nat} {f f' : Nat → Nat} (h : OwnS w g n f) (e : ∀ j, j < n → f j = f' j) : OwnS w g n f' := by
  obtain ⟨cur, h, hc⟩ := h
  exact ⟨cur, h, fun j hj => by rw [hc j hj, e j hj]⟩
theorem OwnS.sc {w : World} {g cap : Nat} {S : List Nat} (h : OwnS w g S.length fun j => S.getD j 0) (hc : S.length ≤ cap) (hm : cap ≤ maxLen) : SC w (.slice (some ⟨g, 0, none⟩) S.length cap) S :=
  ⟨_, cap, rfl, hc, hm, fun j hj => ⟨g, 0, rfl, fun W hW => by
    rw [Nat.zero_add]
    exact (hW.cell (p := ⟨g, j, none⟩) h.lt).trans (h.cell j hj)⟩⟩
theorem SRow.owns {w : World} {base : Nat} {v : Value} {S : List Nat} (h : SRow w base v S) (hne : 0 < S.length) : ∃ g cap, v = .slice (some ⟨g, 0, none⟩) S.length cap ∧ base ≤ g ∧ S.length ≤ cap ∧ cap ≤ maxLen ∧ OwnS w g S.length fun j => S.getD j 0 := by
  obtain ⟨_, ⟨rfl, hn⟩ | ⟨g, cap, cur, rfl, hb, hg, h1, h2, _, ht⟩⟩ := h
  · omega
  · refine ⟨g, cap, rfl, hb, h1, h2, cur, hg, fun j hj => ?_⟩
    have h3 : (cur.toList.take (S.length * 1))[j]? = (S.map fun s => Value.int .u64 ((s : Nat) : Int))[j]? := by rw [ht]
    rw [List.getElem?_take, if_pos (by omega)] at h3
    rw [← Array.getElem?_toList, h3]
    simp [hj]

/-! ### What is kept of all points -/
theorem pc_low {v x : Nat} (hx : x ≤ v) (hv : v ≤ 64) : pc ((2 ^ v - 1) &&& (2 ^ x - 1)) = x := by
  have e : pts ((2 ^ v - 1) &&& (2 ^ x - 1)) = List.range x := by
    have h1 : 2 ^ v - 1 < 2 ^ 64 := by
      have : 2 ^ v ≤ 2 ^ 64 := Nat.pow_le_pow_right (by decide) hv
      have : 0 < 2 ^ v := Nat.two_pow_pos v
      omega
    refine pts_ext List.pairwise_lt_range (Nat.lt_of_le_of_lt Nat.and_le_left h1) fun i => ?_
    rw [Nat.testBit_and, low_bit, low_bit, List.mem_range, Bool.and_eq_true, decide_eq_true_eq, decide_eq_true_eq]
    omega
  unfold pc
  rw [e, List.length_range]
theorem am_all {v z : Nat} (hv : v ≤ 64) (hz : ∀ x ∈ pts z, x < v) : amL (2 ^ v - 1) z = pts z := by
  unfold amL
  conv => rhs; rw [← List.map_id (pts z)]
  refine List.map_congr_left fun x hx => ?_
  rw [pc_low (Nat.le_of_lt (hz x hx)) hv]
  rfl
theorem pc_all {v : Nat} (hv : v ≤ 64) : pc (2 ^ v - 1) = v := by
  have := pc_low (Nat.le_refl v) hv
  rwa [Nat.and_self] at this
theorem low_lt {v n : Nat} (h : v ≤ n) : 2 ^ v - 1 < 2 ^ n := by
  have h1 : 2 ^ v ≤ 2 ^ n := Nat.pow_le_pow_right (by decide) h
  have : 0 < 2 ^ v := Nat.two_pow_pos v
  omega
theorem am_oth {v : Nat} {b : List Nat} (hv : v ≤ 40) (hb : ∀ x ∈ b, x < v) : amL (2 ^ v - 1) (an (2 ^ v - 1) (sb b) &&& (2 ^ v - 1)) = oth v b := by
  have h1 : 2 ^ v - 1 < 2 ^ 64 := low_lt (by omega)
  have h2 : sb b < 2 ^ 64 := sb_lt fun x hx => by have := hb x hx; omega
  have e : pts (an (2 ^ v - 1) (sb b) &&& (2 ^ v - 1)) = oth v b := by
    refine pts_ext (oth_rise v b) (Nat.lt_of_le_of_lt Nat.and_le_right h1) fun i => ?_
    rw [Nat.testBit_and, an_bit h1 h2, low_bit, sb_bit, oth_mem]
    by_cases hi : i < v
    · simp [hi]
    · simp [hi]
  rw [am_all (by omega) (by rw [e]; exact fun x hx => (oth_mem.1 hx).1), e]

/-- What a design's result box holds, once stored. -/
theorem res_store {w0 w3 : World} {r : Nat} {p : Nat} {y : Value} (h5 : w3.heap[r]? = some (.cells #[.int .i64 0, .slice none 0 0] 25 (0, 0))) (hn : w0.heap.size ≤ r) :
    ((w3.setCell ⟨r, 0, none⟩ (.int .i64 (p : Int))).setCell ⟨r, 1, none⟩ y).heap[r]? = some (.cells #[.int .i64 (p : Int), y] 25 (0, 0)) ∧ (∀ b, b ≠ r → ((w3.setCell ⟨r, 0, none⟩ (.int .i64 (p : Int))).setCell ⟨r, 1, none⟩ y).heap[b]? = w3.heap[b]?) ∧ Below w0.heap.size w3 ((w3.setCell ⟨r, 0, none⟩ (.int .i64 (p : Int))).setCell ⟨r, 1, none⟩ y) := by
  have h6 := heap_setCell_same w3 r 0 _ 25 (.int .i64 (p : Int)) h5
  have h7 := heap_setCell_same _ r 1 _ 25 y h6
  exact ⟨by simpa using h7, fun b hb => (heap_setCell_other _ ⟨r, 1, none⟩ b _ hb).trans (heap_setCell_other w3 ⟨r, 0, none⟩ b _ hb), ((Below.refl _ w3).setCell (p := ⟨r, 0, none⟩) hn _).setCell (p := ⟨r, 1, none⟩) hn _⟩
/-- Rows above a block abide its change. -/
theorem rw_above {w w' : World} {base r : Nat} {y : Value} {ls : List (List Nat)} (h : OR w base y ls) (hr : r < base) (k : ∀ b, b ≠ r → w'.heap[b]? = w.heap[b]?) : Rw w' y (toZ ls) := (h.keep fun b hb _ => k b (by omega)).rw

end Go.Proofs.YtdeofjmgjhfkcabDoor

/- The walk of cuts: a search that remembers what cannot be cut. -/
namespace Go.Proofs.YtdeofjmgjhfkcabDoor
open Go.RowKit Go.Shelf Go.Maps

theorem und73 : Tryd.prog.underlying 68 = some (.map 53 90) := by kernel_rfl
set_option maxRecDepth 100000 in
theorem lawS : Keyed Tryd.prog 53 := int_keyed Tryd.underlying53
theorem zero83 (w : World) : (zeroValue 90).run Tryd.prog w = .ok (.agg #[]) w := by kernel_rfl
theorem countP_less {p q : Nat → Bool} {x : Nat} (h : ∀ m, p m = true → q m = true) (hp : p x = false) (hq : q x = true) : ∀ {l : List Nat}, x ∈ l → l.countP p + 1 ≤ l.countP q
  | [], hx => by simp at hx
  | y :: l, hx => by
    have hle : ∀ l : List Nat, l.countP p ≤ l.countP q := fun l => List.countP_mono_left fun m _ => h m
    rw [List.countP_cons, List.countP_cons]
    by_cases e : y = x
    · subst e
      rw [hp, hq]
      have := hle l
      simp
      omega
    · have hx' : x ∈ l := by
        rcases List.mem_cons.1 hx with h | h
        · exact (e h.symm).elim
        · exact h
      have := countP_less h hp hq hx'
      have h2 : (if p y = true then 1 else 0) ≤ (if q y = true then 1 else 0) := by
        by_cases e1 : p y = true
        · rw [if_pos e1, if_pos (h y e1)]; exact Nat.le_refl _
        · rw [if_neg e1]; exact Nat.zero_le _
      omega
def hasS (D : DataW Unit) (m : Nat) : Bool := Maps.has D (.int .u64 (m : Int))
def cntD (v : Nat) (D : DataW Unit) : Nat := (List.range (2 ^ v)).countP (hasS D)
theorem cntD_le (v : Nat) (D : DataW Unit) : cntD v D ≤ 2 ^ v := Nat.le_trans List.countP_le_length (by simp)
/-- What is remembered cannot be cut. -/
structure StI (v mb n : Nat) (B : List (List Nat)) (D : DataW Unit) (W : World) : Prop where
  own : W.ownsMap Tryd.prog 53 (unitElem (H := Unit)) mb n D
  cnt : n ≤ cntD v D
  stuck : ∀ m : Nat, m < 2 ^ v → hasS D m = true → ccB v B (dn m) = false
theorem hasS_put {D : DataW Unit} {L : Nat} (hD : IsMap D) (hL : L < 2 ^ 64) (m : Nat) (d : DataW Unit) : hasS (D.put (.int .u64 (L : Int)) d) m = (hasS D m || decide (m = L)) := by
  unfold hasS
  by_cases e : m = L
  · subst e
    rw [has_put_same hD (by first | trivial | (simp [WideAt.IsKeyLit]) )]
    simp
  · rw [has_put_other (by simp; omega)]
    simp [e]
theorem StI.put {v mb n L : Nat} {B : List (List Nat)} {D : DataW Unit} {W W' : World} (h : StI v mb n B D W) (ho : W'.ownsMap Tryd.prog 53 (unitElem (H := Unit)) mb (n + 1) (D.put (.int .u64 (L : Int)) (.agg []))) (hv : v ≤ 15) (hL : L < 2 ^ v) (hn : hasS D L = false) (hc : ccB v B (dn L) = false) : StI v mb (n + 1) B (D.put (.int .u64 (L : Int)) (.agg [])) W' := by
  have hL64 : L < 2 ^ 64 := Nat.lt_of_lt_of_le hL (Nat.pow_le_pow_right (by decide) (by omega))
  refine ⟨ho, ?_, fun m hm hh => ?_⟩
  · have := h.cnt
    have h2 : cntD v D + 1 ≤ cntD v (D.put (.int .u64 (L : Int)) (.agg [])) := countP_less (x := L) (fun m hm => by rw [hasS_put h.own.isMap hL64, hm]; rfl) hn (by rw [hasS_put h.own.isMap hL64]; simp) (List.mem_range.2 hL)
    omega
  · rw [hasS_put h.own.isMap hL64, Bool.or_eq_true, decide_eq_true_eq] at hh
    rcases hh with hh | rfl
    · exact h.stuck m hm hh
    · exact hc
/-- What lies about a search. -/
structure CX (B : List (List Nat)) (cb mb : Nat) (a : Option Addr) (cap : Nat) (w : World) : Prop where
  tab : Tab w
  ne0 : mb ≠ 0
  ne : cb ≠ mb
  box : w.heap[cb]? = some (.cells #[.slice a B.length cap, .map (some mb)] 70 (0, 0))
  bc : ∀ j, j < B.length → ∃ g off, a = some ⟨g, off, none⟩ ∧ g ≠ mb ∧ w.cell? ⟨g, off + j, none⟩ = some (.int .u64 ((sb (B.getD j []) : Nat) : Int))
theorem CX.grown {B : List (List Nat)} {cb mb : Nat} {a : Option Addr} {cap : Nat} {w w' : World} (h : CX B cb mb a cap w) (g : w.grownBy w' (some mb)) : CX B cb mb a cap w' := by
  have blk : ∀ k o, w.heap[k]? = some o → k ≠ mb → w'.heap[k]? = some o := fun k o hk hn => (g.block k (Array.getElem?_eq_some_iff.1 hk).1 (by simpa using hn)).trans hk
  obtain ⟨t, fr, ht⟩ := h.tab
  refine ⟨⟨t, fr, blk 0 _ ht (fun e => h.ne0 e.symm)⟩, h.ne0, h.ne, blk _ _ h.box h.ne, fun j hj => ?_⟩
  obtain ⟨gg, off, e, hn, hc⟩ := h.bc j hj
  refine ⟨gg, off, e, hn, ?_⟩
  have hlt := World.block_lt_of_cell? _ _ hc
  have hb := g.block gg hlt (by simpa using hn)
  rw [← hc]
  unfold World.cell?
  simp only [hb]
theorem wfU {L : Nat} (h : L < 2 ^ 64) : (Lit.int .u64 (L : Int)).wf = true := by
  simp [Lit.wf, IntKind.min, IntKind.max, IntKind.bits, IntKind.signed]
  omega
theorem grown_al {w w' : World} {mb : Nat} (g : w.grownBy w' (some mb)) (o : Obj) : w.grownBy (w'.alloc o) (some mb) := g.trans ((World.grownBy_alloc w' o none).but _)
theorem an_lt {L y k : Nat} (hL : L < 2 ^ 64) (hy : y < 2 ^ 64) (h1 : L.testBit k = true) (h2 : y.testBit k = true) : an L y < L := by
  rcases Nat.lt_or_ge (an L y) L with h | h
  · exact h
  · have e : an L y = L := Nat.le_antisymm (an_le L y) h
    have := an_bit (i := k) hL hy
    rw [e, h1, h2] at this
    cases this

set_option maxRecDepth 100000 in
set_option maxHeartbeats 4000000 in
theorem cuts_any (v : Nat) (B : List (List Nat)) (G : GoodD v B) (hv : v ≤ 15) (cb mb : Nat) (a : Option Addr) (cap : Nat) : ∀ (N L : Nat) (n : Nat) (D : DataW Unit) (w : World), L < N → L < 2 ^ v → CX B cb mb a cap w → StI v mb n B D w →
    Calls Tryd.prog 33 #[.pointer (some ⟨cb, 0, none⟩), .int .u64 (L : Int)] w fun e w' => e = .returned (.bool (ccB v B (dn L))) ∧ (∃ n' D', StI v mb n' B D' w' ∧ ∀ m, L < m → hasS D' m = hasS D m) ∧ w.grownBy w' (some mb)
  | 0, _, _, _, _, h, _, _, _ => by omega
  | N + 1, L, n, D, w, hN, hL, hX, hS => by
    have hp15 : (2 : Nat) ^ v ≤ 32768 := Nat.pow_le_pow_right (n := 2) (by decide) hv
    have hL64 : L < 2 ^ 64 := by omega
    have IH : Hid (∀ (L' : Nat) (n : Nat) (D : DataW Unit) (w : World), L' < N → L' < 2 ^ v → CX B cb mb a cap w → StI v mb n B D w → Calls Tryd.prog 33 #[.pointer (some ⟨cb, 0, none⟩), .int .u64 (L' : Int)] w fun e w' => e = .returned (.bool (ccB v B (dn L'))) ∧ (∃ n' D', StI v mb n' B D' w' ∧ ∀ m, L' < m → hasS D' m = hasS D m) ∧ w.grownBy w' (some mb)) := fun L' n D w h1 h2 h3 h4 => cuts_any v B G hv cb mb a cap N L' n D w h1 h2 h3 h4
    by_cases hL0 : L = 0
    · subst hL0
      have hc : ccB v B (dn 0) = true := cc_full (fullD_iff.2 fun x _ => by show (!(0 : Nat).testBit x) = true; rw [Nat.zero_testBit]; rfl) B
      rw [hc]
      go_enter Tryd.func33, Tryd.ntmps33
      go_wp2
      go_ret
      exact ⟨rfl, ⟨n, D, hS, fun _ _ => rfl⟩, World.grownBy.refl _ _⟩
    · have hl0 : ((L : Int) == 0) = false := beq_eq_false_iff_ne.2 (by omega)
      have b0 : w.cell? ⟨cb, 0, none⟩ = some (.slice a B.length cap) := by rw [cell_of_row _ _ _ _ _ _ hX.box]; rfl
      have b1 : w.cell? ⟨cb, 1, none⟩ = some (.map (some mb)) := by rw [cell_of_row _ _ _ _ _ _ hX.box]; rfl
      have hkey : keyOf Tryd.prog 53 (.int .u64 (L : Int)) = some (.int .u64 (L : Int)) := keyOf_int_mk Tryd.underlying53 (wfU hL64)
      have hown := hS.own
      cases hh : Maps.has D (.int .u64 (L : Int)) with
      | true =>
        have hc : ccB v B (dn L) = false := hS.stuck L hL hh
        rw [hc]
        go_enter Tryd.func33, Tryd.ntmps33
        go_wp2_with (at_lookup; refine wpList_lookup_own_unit _ rfl _ _ 68 rfl 53 90 lawS und73 (zero83 _) mb n D rfl hown _ _ rfl hkey ?_; rw [hh])
        go_ret
        exact ⟨rfl, ⟨n, D, ⟨hown.alloc _, hS.cnt, hS.stuck⟩, fun _ _ => rfl⟩, grown_al (World.grownBy.refl _ _) _⟩
      | false =>
        have HD : Hid (hasS D L = false) := hh
        obtain ⟨k, m, hk, hk64, _⟩ := first_any L w hX.tab hL64 hL0
        have hLk : L.testBit k = true := (low_off hk k).2.1
        have hkv : k < v := by
          rcases Nat.lt_or_ge k v with h | h
          · exact h
          · rw [testBit_high hL h] at hLk; cases hLk
        have HF : Hid (∀ W, Tab W → Calls Tryd.prog 51 #[.int .u64 (L : Int)] W fun e w' => e = .returned (.int .i64 (k : Int)) ∧ w' = W) := fun W hW => by
          obtain ⟨k', m', hk', hk64', C⟩ := first_any L W hW hL64 hL0
          have e : k' = k := by
            have h1 := (low_off hk' k).1 hLk
            have h2 := (low_off hk k').1 (low_off hk' k').2.1
            omega
          rwa [e] at C
        have hdk : dn L k = false := by show (!L.testBit k) = false; rw [hLk]; rfl
        have HB64 : Hid (∀ i, i < B.length → ∀ x ∈ B.getD i [], x < 64) := fun i hi x hx => by
          have hm : B.getD i [] ∈ B := by rw [List.getD_eq_getElem?_getD, List.getElem?_eq_getElem hi]; exact List.getElem_mem hi
          have := (G.bls _ hm).lt x hx
          omega
        have HCP : Hid (ccB v B (dn L) = true ↔ ∃ i, i < B.length ∧ k ∈ B.getD i [] ∧ fitD (dn L) (B.getD i []) = true ∧ ccB v B (addD (dn L) (B.getD i [])) = true) := cc_point hkv hdk
        obtain ⟨R, HR⟩ : ∃ R, Hid (ccB v B (dn L) = R) := ⟨_, rfl⟩
        rw [HR.out] at HCP ⊢
        have hgx : w.grownBy (w.alloc (.cells #[] 90)) (some mb) := grown_al (World.grownBy.refl _ _) _
        have HX1 : Hid (CX B cb mb a cap (w.alloc (.cells #[] 90))) := hX.grown hgx
        have HS1 : Hid (StI v mb n B D (w.alloc (.cells #[] 90))) := ⟨hown.alloc _, hS.cnt, hS.stuck⟩
        have HG1 : Hid (w.grownBy (w.alloc (.cells #[] 90)) (some mb)) := hgx
        have HXG : Hid (∀ W, w.grownBy W (some mb) → CX B cb mb a cap W) := fun W hW => hX.grown hW
        have h200 := G.few
        have b2 : (w.alloc (.cells #[] 90)).cell? ⟨cb, 0, none⟩ = some (.slice a B.length cap) := by rw [cell_of_row _ _ _ _ _ _ HX1.out.box]; rfl
        have HSW : Hid (∀ i, i < B.length → (an (sb (B.getD i [])) L = 0 ↔ ∀ x ∈ B.getD i [], dn L x = false) ∧ dn (an L (sb (B.getD i []))) = addD (dn L) (B.getD i []) ∧ ((sb (B.getD i [])).testBit k = true ↔ k ∈ B.getD i []) ∧ sb (B.getD i []) < 2 ^ 64) := fun i hi => ⟨within_dn hL64 (HB64.out i hi), dn_add hL64 (HB64.out i hi), by rw [sb_bit]; exact List.contains_iff_mem, sb_lt (HB64.out i hi)⟩
        generalize hBn : B.length = bn at *
        clear hX hS hgx HB64 hdk hk
        go_enter Tryd.func33, Tryd.ntmps33
        go_wp2_with (at_lookup; refine wpList_lookup_own_unit _ rfl _ _ 68 rfl 53 90 lawS und73 (zero83 _) mb n D rfl hown _ _ rfl hkey ?_; rw [hh])
        go_loopw [26] (fun iv wr => ∃ (i n' : Nat) (D' : DataW Unit), iv = .int .i64 (i : Int) ∧ i ≤ bn ∧ Hid (StI v mb n' B D' wr) ∧ Hid (hasS D' L = false ∧ ∀ m, L < m → hasS D' m = hasS D m) ∧ w.grownBy wr (some mb) ∧ Hid (∀ j, j < i → ¬ (k ∈ B.getD j [] ∧ fitD (dn L) (B.getD j []) = true ∧ ccB v B (addD (dn L) (B.getD j [])) = true))) (fun iv _ => (bn - intOf iv).toNat)
        case atStart => exact ⟨0, n, D, rfl, by omega, HS1, ⟨HD.out, fun _ _ => rfl⟩, HG1.out, fun j hj => by omega⟩
        case round =>
          clear b0 b1 b2
          obtain ⟨i, n', D', rfl, hi, HSI, HDD, hg, HNO⟩ := hrel
          have HXr := HXG.out _ hg
          have HXR : Hid (CX B cb mb a cap wr) := HXr
          have b0 : wr.cell? ⟨cb, 0, none⟩ = some (.slice a bn cap) := by rw [cell_of_row _ _ _ _ _ _ HXr.box, hBn]; rfl
          have b1 : wr.cell? ⟨cb, 1, none⟩ = some (.map (some mb)) := by rw [cell_of_row _ _ _ _ _ _ HXr.box]; rfl
          by_cases hlt : i < bn
          · have hd : decide ((i : Int) < (bn : Int)) = true := by simp; omega
            have hii : (i : Int) < (bn : Int) := by omega
            obtain ⟨gg, off, rfl, -, hci⟩ := HXr.bc i (by omega)
            obtain ⟨q1, q2, q3, q4⟩ := HSW.out i hlt
            have CF := HF.out wr HXr.tab
            clear HXr
            obtain ⟨y, Hy⟩ : ∃ y, Hid (sb (B.getD i []) = y) := ⟨_, rfl⟩
            rw [Hy.out] at hci q1 q2 q3 q4
            have CHs := has_any y k q4 hk64 wr
            have HQ3 : Hid (y.testBit k = true ↔ k ∈ B.getD i []) := q3
            have HQ1 : Hid (an y L = 0 ↔ ∀ x ∈ B.getD i [], dn L x = false) := q1
            have HQ2 : Hid (dn (an L y) = addD (dn L) (B.getD i [])) := q2
            clear q1 q2 q3
            cases ht : y.testBit k with
            | false =>
              rw [ht] at CHs
              have HN2 : Hid (∀ j, j < i + 1 → ¬ (k ∈ B.getD j [] ∧ fitD (dn L) (B.getD j []) = true ∧ ccB v B (addD (dn L) (B.getD j [])) = true)) := fun j hj ⟨h1, h2⟩ => by
                by_cases e : j = i
                · subst e
                  rw [HQ3.out.2 h1] at ht; cases ht
                · exact HNO.out j (by omega) ⟨h1, h2⟩
              clear ht
              go_wp2_with (first
                | (go_at_call 51; refine CF.mono ?_; rintro e w4 ⟨rfl, hw4⟩; replace hw4 := hw4.symm; subst hw4; clear CF)
                | (go_at_call 50; refine CHs.mono ?_; rintro e w4 ⟨rfl, hw4⟩; replace hw4 := hw4.symm; subst hw4; clear CHs))
              go_roundw
              case rel => exact ⟨i + 1, n', D', by go_num, by omega, HSI, HDD, hg, HN2⟩
              case measure => simp [intOf]; omega
            | true =>
              rw [ht] at CHs
              by_cases hw0 : an y L = 0
              · have CWi := within_any y L true q4 hL64 (decide_eq_true hw0) wr
                have CWo := without_any L y hL64 q4 wr
                have hlt2 : an L y < L := an_lt hL64 q4 hLk ht
                have hkb : k ∈ B.getD i [] := HQ3.out.1 ht
                have hfit : fitD (dn L) (B.getD i []) = true := fitD_iff.2 ⟨fun e => by rw [e] at hkb; simp at hkb, HQ1.out.1 hw0⟩
                have CR := IH.out (an L y) n' D' wr (by omega) (by omega) HXR.out HSI.out
                rw [HQ2.out] at CR
                obtain ⟨L', HL'⟩ : ∃ L', Hid (an L y = L') := ⟨_, rfl⟩
                rw [HL'.out] at CR CWo hlt2
                have HLT : Hid (L' < L) := hlt2
                cases hr : ccB v B (addD (dn L) (B.getD i [])) with
                | true =>
                  rw [hr] at CR
                  have hRt : R = true := HCP.out.2 ⟨i, hlt, hkb, hfit, hr⟩
                  subst hRt
                  clear ht hw0 hr hkb hfit hlt2
                  go_wp2_with (first
                    | (go_at_call 51; refine CF.mono ?_; rintro e w4 ⟨rfl, hw4⟩; replace hw4 := hw4.symm; subst hw4; clear CF)
                    | (go_at_call 50; refine CHs.mono ?_; rintro e w4 ⟨rfl, hw4⟩; replace hw4 := hw4.symm; subst hw4; clear CHs)
                    | (go_at_call 34; refine CWi.mono ?_; rintro e w4 ⟨rfl, hw4⟩; replace hw4 := hw4.symm; subst hw4; clear CWi)
                    | (go_at_call 35; refine CWo.mono ?_; rintro e w4 ⟨rfl, hw4⟩; replace hw4 := hw4.symm; subst hw4; clear CWo)
                    | (go_at_call 33; refine CR.mono ?_; rintro e w5 ⟨rfl, ⟨n5, D5, hS5, hD5⟩, hg5⟩; clear CR))
                  go_ret
                  exact ⟨rfl, ⟨n5, D5, hS5, fun m hm => (hD5 m (by have := HLT.out; omega)).trans (HDD.out.2 m hm)⟩, hg.trans hg5⟩
                | false =>
                  rw [hr] at CR
                  have HN2 : Hid (∀ j, j < i + 1 → ¬ (k ∈ B.getD j [] ∧ fitD (dn L) (B.getD j []) = true ∧ ccB v B (addD (dn L) (B.getD j [])) = true)) := fun j hj ⟨h1, h2, h3⟩ => by
                    by_cases e : j = i
                    · subst e
                      rw [hr] at h3; cases h3
                    · exact HNO.out j (by omega) ⟨h1, h2, h3⟩
                  clear ht hw0 hr hkb hfit hlt2
                  go_wp2_with (first
                    | (go_at_call 51; refine CF.mono ?_; rintro e w4 ⟨rfl, hw4⟩; replace hw4 := hw4.symm; subst hw4; clear CF)
                    | (go_at_call 50; refine CHs.mono ?_; rintro e w4 ⟨rfl, hw4⟩; replace hw4 := hw4.symm; subst hw4; clear CHs)
                    | (go_at_call 34; refine CWi.mono ?_; rintro e w4 ⟨rfl, hw4⟩; replace hw4 := hw4.symm; subst hw4; clear CWi)
                    | (go_at_call 35; refine CWo.mono ?_; rintro e w4 ⟨rfl, hw4⟩; replace hw4 := hw4.symm; subst hw4; clear CWo)
                    | (go_at_call 33; refine CR.mono ?_; rintro e w5 ⟨rfl, ⟨n5, D5, hS5, hD5⟩, hg5⟩; clear CR))
                  go_roundw
                  case rel => exact ⟨i + 1, n5, D5, by go_num, by omega, hS5, ⟨(hD5 L HLT.out).trans HDD.out.1, fun m hm => (hD5 m (by have := HLT.out; omega)).trans (HDD.out.2 m hm)⟩, hg.trans hg5, HN2⟩
                  case measure => simp [intOf]; omega
              · have CWi := within_any y L false q4 hL64 (decide_eq_false hw0) wr
                have HN2 : Hid (∀ j, j < i + 1 → ¬ (k ∈ B.getD j [] ∧ fitD (dn L) (B.getD j []) = true ∧ ccB v B (addD (dn L) (B.getD j [])) = true)) := fun j hj ⟨h1, h2, h3⟩ => by
                  by_cases e : j = i
                  · subst e
                    exact hw0 (HQ1.out.2 (fitD_iff.1 h2).2)
                  · exact HNO.out j (by omega) ⟨h1, h2, h3⟩
                clear ht hw0
                go_wp2_with (first
                  | (go_at_call 51; refine CF.mono ?_; rintro e w4 ⟨rfl, hw4⟩; replace hw4 := hw4.symm; subst hw4; clear CF)
                  | (go_at_call 50; refine CHs.mono ?_; rintro e w4 ⟨rfl, hw4⟩; replace hw4 := hw4.symm; subst hw4; clear CHs)
                  | (go_at_call 34; refine CWi.mono ?_; rintro e w4 ⟨rfl, hw4⟩; replace hw4 := hw4.symm; subst hw4; clear CWi))
                go_roundw
                case rel => exact ⟨i + 1, n', D', by go_num, by omega, HSI, HDD, hg, HN2⟩
                case measure => simp [intOf]; omega
          · have hd : decide ((i : Int) < (bn : Int)) = false := by simp; omega
            obtain rfl : i = bn := by omega
            have hRf : R = false := by
              cases e : R with
              | false => rfl
              | true =>
                obtain ⟨j, hj, h⟩ := HCP.out.1 e
                exact (HNO.out j hj h).elim
            subst hRf
            have hown2 := HSI.out.own
            have hn2 : n' < maxLen := by
              have h1 := HSI.out.cnt
              have h2 := cntD_le v D'
              unfold maxLen; omega
            clear HNO HXr
            go_wp2_with (at_mapUpdate; refine wpList_mapUpdate_own _ rfl _ _ _ 68 rfl 53 90 lawS und73 (unitElem (H := Unit)) mb n' _ rfl hown2 hn2 _ _ _ rfl rfl hkey _ [] unitElem_mk ?_; intro w2 hown3 hgrow)
            go_ret
            exact ⟨rfl, ⟨n' + 1, _, HSI.out.put hown3 hv hL HDD.out.1 HR.out, fun m hm => by rw [hasS_put hown2.isMap hL64, HDD.out.2 m hm]; simp; omega⟩, hg.trans hgrow⟩

end Go.Proofs.YtdeofjmgjhfkcabDoor

/- The walk of firstCut. -/
namespace Go.Proofs.YtdeofjmgjhfkcabDoor
open Go.RowKit Go.Shelf Go.Maps

theorem sb_zero {K : List Nat} : sb K = 0 ↔ K = [] := by
  constructor
  · intro h
    cases K with
    | nil => rfl
    | cons x K =>
      have := sb_bit (x :: K) x
      rw [h, Nat.zero_testBit] at this
      simp at this
  · rintro rfl; rfl
theorem fit_congr {v : Nat} {D E : Nat → Bool} {b : List Nat} (h : ∀ x, x < v → D x = E x) (hb : ∀ x ∈ b, x < v) : fitD D b = fitD E b := by
  rw [Bool.eq_iff_iff, fitD_iff, fitD_iff]
  exact ⟨fun ⟨h1, h2⟩ => ⟨h1, fun x hx => (h x (hb x hx)).symm.trans (h2 x hx)⟩, fun ⟨h1, h2⟩ => ⟨h1, fun x hx => (h x (hb x hx)).trans (h2 x hx)⟩⟩
theorem full_congr {v : Nat} {D E : Nat → Bool} (h : ∀ x, x < v → D x = E x) : fullD v D = fullD v E := by
  rw [Bool.eq_iff_iff, fullD_iff, fullD_iff]
  exact ⟨fun g x hx => (h x hx).symm.trans (g x hx), fun g x hx => (h x hx).trans (g x hx)⟩
theorem add_congr {v : Nat} {D E : Nat → Bool} (b : List Nat) (h : ∀ x, x < v → D x = E x) : ∀ x, x < v → addD D b x = addD E b x := fun x hx => by
  unfold addD; rw [h x hx]
theorem cc_congr {v : Nat} : ∀ {B : List (List Nat)} {D E : Nat → Bool}, Bls v B → (∀ x, x < v → D x = E x) → ccB v B D = ccB v B E
  | [], D, E, _, h => full_congr h
  | b :: B, D, E, hB, h => by
    have hB' : Bls v B := fun c hc => hB c (by simp [hc])
    show ((fitD D b && ccB v B (addD D b)) || ccB v B D) = ((fitD E b && ccB v B (addD E b)) || ccB v B E)
    rw [fit_congr h (hB b (by simp)).lt, cc_congr hB' (add_congr b h), cc_congr hB' h]
theorem fc_congr {v : Nat} : ∀ {B : List (List Nat)} {i : Nat} {D E : Nat → Bool}, Bls v B → (∀ x, x < v → D x = E x) → fcB v B i D = fcB v B i E
  | [], i, D, E, _, h => by unfold fcB; rw [full_congr h]
  | b :: B, i, D, E, hB, h => by
    have hB' : Bls v B := fun c hc => hB c (by simp [hc])
    show (if (fitD D b && ccB v B (addD D b)) = true then (fcB v B (i + 1) (addD D b)).map (i :: ·) else fcB v B (i + 1) D) = (if (fitD E b && ccB v B (addD E b)) = true then (fcB v B (i + 1) (addD E b)).map (i :: ·) else fcB v B (i + 1) E)
    rw [fit_congr h (hB b (by simp)).lt, cc_congr hB' (add_congr b h), fc_congr hB' (add_congr b h), fc_congr hB' h]
/-- Where the search stands. -/
def FcI (v : Nat) (B : List (List Nat)) (D0 : Nat → Bool) (i : Nat) (D : Nat → Bool) (l : List Nat) : Prop := NoUse v B i D ∧ fcB v B 0 D0 = (fcB v (B.drop i) i D).map (l ++ ·)
theorem FcI.zero (v : Nat) (B : List (List Nat)) (D0 : Nat → Bool) : FcI v B D0 0 D0 [] := ⟨NoUse.zero v B D0, by
  rw [List.drop_zero]
  cases fcB v B 0 D0 <;> rfl⟩
theorem FcI.take {v i : Nat} {B : List (List Nat)} {D0 D : Nat → Bool} {l : List Nat} (h : FcI v B D0 i D l) (hB : Bls v B) (hi : i < B.length) (hf : fitD D (B.getD i []) = true) (hc : ccB v B (addD D (B.getD i [])) = true) : FcI v B D0 (i + 1) (addD D (B.getD i [])) (l ++ [i]) := by
  refine ⟨h.1.take hB hi hf, ?_⟩
  rw [h.2, fc_step hB h.1 hi, if_pos (by rw [hf, hc]; rfl), Option.map_map]
  cases fcB v (B.drop (i + 1)) (i + 1) (addD D (B.getD i [])) with
  | none => rfl
  | some r => simp
theorem FcI.pass {v i : Nat} {B : List (List Nat)} {D0 D : Nat → Bool} {l : List Nat} (h : FcI v B D0 i D l) (hB : Bls v B) (hi : i < B.length) (hn : ¬ (fitD D (B.getD i []) = true ∧ ccB v B (addD D (B.getD i [])) = true)) : FcI v B D0 (i + 1) D l := by
  refine ⟨h.1.pass hn, ?_⟩
  rw [h.2, fc_step hB h.1 hi, if_neg (by rw [Bool.and_eq_true]; exact hn)]
theorem FcI.end {v : Nat} {B : List (List Nat)} {D0 D : Nat → Bool} {l : List Nat} (h : FcI v B D0 B.length D l) (hc : ccB v B D0 = true) : fcB v B 0 D0 = some l := by
  have h1 := h.2
  rw [List.drop_length] at h1
  have h2 : (fcB v B 0 D0).isSome = true := by rw [fcB_some]; exact hc
  rw [h1] at h2 ⊢
  unfold fcB at h2 ⊢
  by_cases e : fullD v D = true
  · rw [if_pos e]; simp
  · rw [if_neg e] at h2; simp at h2
theorem StI.grown {v mb n : Nat} {B : List (List Nat)} {D : DataW Unit} {w w' : World} {row : Option Nat} (h : StI v mb n B D w) (g : w.grownBy w' row) (hr : some mb ≠ row) : StI v mb n B D w' := ⟨h.own.kept g hr, h.cnt, h.stuck⟩

set_option maxRecDepth 100000 in
set_option maxHeartbeats 4000000 in
theorem firstCut_any (v : Nat) (B : List (List Nat)) (G : GoodD v B) (hv : v ≤ 15) (u : Value) (w : World) (hT : Tab w) (hu : SC w u (B.map sb)) :
    Calls Tryd.prog 16 #[.int .u64 ((2 ^ v - 1 : Nat) : Int), u] w fun e w' => ((fcB v B 0 (dn (2 ^ v - 1)) = none ∧ e = .returned (.tuple #[.slice none 0 0, .bool false])) ∨ ∃ l x, fcB v B 0 (dn (2 ^ v - 1)) = some l ∧ e = .returned (.tuple #[x, .bool true]) ∧ w'.ownsRow (w.heap.size + 2) 3 1 x l.length ((l.map Int.ofNat).map (Value.int .i64))) ∧ Below w.heap.size w w' := by
  have hp15 : (2 : Nat) ^ v ≤ 32768 := Nat.pow_le_pow_right (n := 2) (by decide) hv
  have hL : 2 ^ v - 1 < 2 ^ v := by have := Nat.pos_of_ne_zero (show 2 ^ v ≠ 0 by simp); omega
  obtain ⟨a, cap, rfl, hcap, hcm, hc⟩ := hu
  rw [List.length_map] at hc hcap ⊢
  have hmm := @run_makeMap Tryd.prog
  obtain ⟨i3, hi3, hz0, hz1, hz2⟩ := info3
  obtain ⟨w0, Hw0⟩ : ∃ w0, Hid (w0 = (w.alloc (.map #[] 0)).alloc (.cells #[.slice a B.length cap, .map (some w.heap.size)] 70)) := ⟨_, rfl⟩
  have hs0 : w0.heap.size = w.heap.size + 2 := by rw [Hw0.out]; simp
  have hb0 : Below w.heap.size w w0 := by rw [Hw0.out]; exact Below.next ((Below.refl _ _).alloc (Nat.le_refl _) _) (balloc _ _)
  have hX0 : CX B (w.heap.size + 1) w.heap.size a cap w0 := by
    refine ⟨hT.next hb0, by have := hT.pos; omega, by omega, ?_, fun j hj => ?_⟩
    · have := heap_alloc_new (w.alloc (.map #[] 0)) (.cells #[.slice a B.length cap, .map (some w.heap.size)] 70)
      rw [World.size_alloc] at this
      rw [Hw0.out]; exact this
    · obtain ⟨g, off, e, h⟩ := hc j hj
      have h1 := h w (Below.refl _ _)
      have hlt : g < w.heap.size := World.block_lt_of_cell? _ _ h1
      refine ⟨g, off, e, by omega, ?_⟩
      rw [h w0 hb0, List.getD_eq_getElem?_getD, List.getElem?_map, List.getElem?_eq_getElem hj, List.getD_eq_getElem?_getD, List.getElem?_eq_getElem hj]
      rfl
  have hS0 : StI v w.heap.size 0 B (.map []) w0 := by
    refine ⟨?_, Nat.zero_le _, fun m _ h => by simp [hasS, Maps.has] at h⟩
    rw [Hw0.out]
    exact (World.ownsMap_made w Tryd.prog 53 (unitElem (H := Unit))).alloc _
  have C1 := cuts_any v B G hv (w.heap.size + 1) w.heap.size a cap (2 ^ v - 1 + 1) (2 ^ v - 1) 0 (.map []) w0 (by omega) hL hX0 hS0
  have HX : Hid (∀ W, w0.grownBy W (some w.heap.size) → CX B (w.heap.size + 1) w.heap.size a cap W) := fun W hW => hX0.grown hW
  have HCU : Hid (∀ (L n : Nat) (D : DataW Unit) (W : World), L < 2 ^ v → CX B (w.heap.size + 1) w.heap.size a cap W → StI v w.heap.size n B D W → Calls Tryd.prog 33 #[.pointer (some ⟨w.heap.size + 1, 0, none⟩), .int .u64 (L : Int)] W fun e w' => e = .returned (.bool (ccB v B (dn L))) ∧ (∃ n' D', StI v w.heap.size n' B D' w' ∧ ∀ m, L < m → hasS D' m = hasS D m) ∧ W.grownBy w' (some w.heap.size)) := fun L n D W h1 h2 h3 => cuts_any v B G hv (w.heap.size + 1) w.heap.size a cap (L + 1) L n D W (by omega) h1 h2 h3
  have HBW : Hid (∀ W, w0.grownBy W (some w.heap.size) → Below w.heap.size w W) := fun W hW => ⟨hW.os.trans hb0.os, hW.tape.trans hb0.tape, hW.output.trans hb0.output, Nat.le_trans hb0.size hW.size, fun k hk => (hW.block k (by omega) (by simp; omega)).trans (hb0.block k hk)⟩
  have HBls : Hid (Bls v B) := G.bls
  have h200 := G.few
  have HB64 : Hid (∀ i, i < B.length → ∀ x ∈ B.getD i [], x < 64) := fun i hi x hx => by
    have hm : B.getD i [] ∈ B := by rw [List.getD_eq_getElem?_getD, List.getElem?_eq_getElem hi]; exact List.getElem_mem hi
    have := (G.bls _ hm).lt x hx
    omega
  have HSN : Hid ((fcB v B 0 (dn (2 ^ v - 1))).isSome = ccB v B (dn (2 ^ v - 1))) := fcB_some
  have HFE : Hid (∀ D l, FcI v B (dn (2 ^ v - 1)) B.length D l → ccB v B (dn (2 ^ v - 1)) = true → fcB v B 0 (dn (2 ^ v - 1)) = some l) := fun D l h1 h2 => h1.end h2
  have HF0 : Hid (FcI v B (dn (2 ^ v - 1)) 0 (dn (2 ^ v - 1)) []) := FcI.zero _ _ _
  have HSW : Hid (∀ i L, i < B.length → L < 2 ^ v → (an (sb (B.getD i [])) L = 0 ↔ ∀ x ∈ B.getD i [], dn L x = false) ∧ dn (an L (sb (B.getD i []))) = addD (dn L) (B.getD i []) ∧ (sb (B.getD i []) = 0 ↔ B.getD i [] = []) ∧ sb (B.getD i []) < 2 ^ 64) := fun i L hi hL => ⟨within_dn (by omega) (HB64.out i hi), dn_add (by omega) (HB64.out i hi), sb_zero, sb_lt (HB64.out i hi)⟩
  obtain ⟨D0, HD0⟩ : ∃ D0, Hid (dn (2 ^ v - 1) = D0) := ⟨_, rfl⟩
  rw [HD0.out] at C1 HSN HFE HF0 ⊢
  obtain ⟨F, HFF⟩ : ∃ F, Hid (fcB v B 0 D0 = F) := ⟨_, rfl⟩
  rw [HFF.out] at HSN HFE ⊢
  obtain ⟨r, Hr⟩ : ∃ r, Hid (ccB v B D0 = r) := ⟨_, rfl⟩
  rw [Hr.out] at C1 HSN HFE
  have HDL : Hid (D0 = dn (2 ^ v - 1)) := HD0.out.symm
  obtain ⟨L0, HL0⟩ : ∃ L0, Hid (2 ^ v - 1 = L0) := ⟨_, (rfl : 2 ^ v - 1 = 2 ^ v - 1)⟩
  rw [HL0.out] at C1 HDL hL ⊢
  have hS0' : Hid (w0.heap.size = w.heap.size + 2) := hs0
  rw [← hs0]
  generalize hBn : B.length = bn at *
  clear hX0 hS0 hc hb0 HB64 HD0 hcap hcm hs0
  cases r with
  | false =>
    have hFn : F = none := by have := HSN.out; cases F with | none => rfl | some x => simp at this
    go_enter Tryd.func16, Tryd.ntmps16
    go_wp2_with (go_at_call 33; rw [← Hw0.out]; refine C1.mono ?_; rintro e w1 ⟨rfl, _, hg⟩; clear C1)
    exact bodyPost_ret (v := .tuple #[.slice none 0 0, .bool false]) (by simp [results, Tryd.results16, go_sem]) rfl ⟨.inl ⟨hFn, rfl⟩, HBW.out _ hg⟩
  | true =>
    go_enter Tryd.func16, Tryd.ntmps16
    go_wp2_with (go_at_call 33; rw [← Hw0.out]; refine C1.mono ?_; rintro e w1 ⟨rfl, ⟨n1, D1, hS1, _⟩, hg1⟩; clear C1; have HS1 : Hid (StI v w.heap.size n1 B D1 w1) := hS1; clear hS1)
    go_loopw [0, 7, 20] (fun lv ov iv wr => ∃ (i L n' : Nat) (D' : DataW Unit) (l : List Nat), iv = .int .i64 (i : Int) ∧ lv = .int .u64 (L : Int) ∧ i ≤ bn ∧ L < 2 ^ v ∧ Hid (StI v w.heap.size n' B D' wr) ∧ wr.ownsRow w0.heap.size 3 1 ov l.length ((l.map Int.ofNat).map (Value.int .i64)) ∧ l.length ≤ i ∧ w0.grownBy wr (some w.heap.size) ∧ Hid (FcI v B D0 i (dn L) l)) (fun _ _ iv _ => (bn - intOf iv).toNat)
    case atStart => exact ⟨0, L0, n1, D1, [], rfl, rfl, by omega, hL, HS1, World.ownsRow_nil _ _ _ _, by simp, hg1, by show FcI _ _ _ _ _ _; rw [← HDL.out]; exact HF0.out⟩
    case round =>
      clear HS1 hg1
      obtain ⟨i, L, n', D', l, rfl, rfl, hi, hLv, HSI, hown, hll, hg, HFI⟩ := hrel
      have HXr := HX.out _ hg
      by_cases hlt : i < bn
      · have hd : decide ((i : Int) < (bn : Int)) = true := by simp; omega
        have hii : (i : Int) < (bn : Int) := by omega
        obtain ⟨gg, off, rfl, -, hci⟩ := HXr.bc i (by omega)
        obtain ⟨q1, q2, q3, q4⟩ := HSW.out i L hlt hLv
        have HXR : Hid (CX B (w.heap.size + 1) w.heap.size (some ⟨gg, off, none⟩) cap wr) := HXr
        clear HXr
        have hPass : ¬ (fitD (dn L) (B.getD i []) = true ∧ ccB v B (addD (dn L) (B.getD i [])) = true) → FcI v B D0 (i + 1) (dn L) l := fun h => HFI.out.pass HBls.out (by omega) h
        have HPA : Hid (¬ (fitD (dn L) (B.getD i []) = true ∧ ccB v B (addD (dn L) (B.getD i [])) = true) → FcI v B D0 (i + 1) (dn L) l) := hPass
        have HTA : Hid (fitD (dn L) (B.getD i []) = true → ccB v B (addD (dn L) (B.getD i [])) = true → FcI v B D0 (i + 1) (addD (dn L) (B.getD i [])) (l ++ [i])) := fun h1 h2 => HFI.out.take HBls.out (by omega) h1 h2
        obtain ⟨y, Hy⟩ : ∃ y, Hid (sb (B.getD i []) = y) := ⟨_, rfl⟩
        rw [Hy.out] at hci q1 q2 q3 q4
        have HQ1 : Hid (an y L = 0 ↔ ∀ x ∈ B.getD i [], dn L x = false) := q1
        have HQ3 : Hid (y = 0 ↔ B.getD i [] = []) := q3
        have hL64 : L < 2 ^ 64 := by omega
        clear q1 q3 hPass
        by_cases hy0 : y = 0
        · have hd0 : ((y : Int) != 0) = false := by simp [hy0]
          have HFI2 : Hid (FcI v B D0 (i + 1) (dn L) l) := HPA.out fun ⟨h1, _⟩ => (fitD_iff.1 h1).1 (HQ3.out.1 hy0)
          clear hy0 HFI q2
          go_wp2
          go_roundw
          case rel => exact ⟨i + 1, L, n', D', l, by go_num, rfl, by omega, hLv, HSI, hown, by omega, hg, HFI2⟩
          case measure => simp [intOf]; omega
        · have hd0 : ((y : Int) != 0) = true := by simp; omega
          by_cases hw0 : an y L = 0
          · have CWi := within_any y L true q4 hL64 (decide_eq_true hw0) wr
            have HWo : Hid (∀ W, Calls Tryd.prog 35 #[.int .u64 (L : Int), .int .u64 (y : Int)] W fun e w' => e = .returned (.int .u64 ((an L y : Nat) : Int)) ∧ w' = W) := fun W => without_any L y hL64 q4 W
            have hfit : fitD (dn L) (B.getD i []) = true := fitD_iff.2 ⟨fun e => hy0 (HQ3.out.2 e), HQ1.out.1 hw0⟩
            have hle := an_le L y
            have CR := HCU.out (an L y) n' D' wr (by omega) HXR.out HSI.out
            have hTk := HTA.out hfit
            have hPs : ccB v B (dn (an L y)) = false → FcI v B D0 (i + 1) (dn L) l := fun h => HPA.out fun ⟨_, h2⟩ => by rw [← q2] at h2; rw [h2] at h; cases h
            rw [← q2] at hTk
            obtain ⟨L', HL'⟩ : ∃ L', Hid (an L y = L') := ⟨_, rfl⟩
            rw [HL'.out] at CR HWo hTk hPs hle
            have hlv2 : L' < 2 ^ v := by omega
            cases hr : ccB v B (dn L') with
            | false =>
              rw [hr] at CR
              have HFI2 : Hid (FcI v B D0 (i + 1) (dn L) l) := hPs hr
              clear hr hTk hPs hw0 hy0 hfit q2
              go_wp2_with (first
                | (go_at_call 34; refine CWi.mono ?_; rintro e w4 ⟨rfl, hw4⟩; replace hw4 := hw4.symm; subst hw4; clear CWi)
                | (go_at_call 35; refine (HWo.out _).mono ?_; rintro e w4 ⟨rfl, hw4⟩; replace hw4 := hw4.symm; subst hw4)
                | (go_at_call 33; refine CR.mono ?_; rintro e w5 ⟨rfl, ⟨n5, D5, hS5, _⟩, hg5⟩; clear CR; have hown5 := own_keep hown fun b hb hb2 => hg5.block b hb2 (by have := hS0'.out; simp; omega)))
              go_roundw
              case rel => exact ⟨i + 1, L, n5, D5, l, by go_num, rfl, by omega, hLv, hS5, hown5, by omega, hg.trans hg5, HFI2⟩
              case measure => simp [intOf]; omega
            | true =>
              rw [hr] at CR
              have HFI2 : Hid (FcI v B D0 (i + 1) (dn L') (l ++ [i])) := hTk hr
              clear hr hTk hPs hw0 hy0 hfit q2
              obtain ⟨kl, Hk⟩ : ∃ kl, Hid (l.length = kl) := ⟨_, rfl⟩
              rw [Hk.out] at hown hll
              go_wp2_with (first
                | (go_at_call 34; refine CWi.mono ?_; rintro e w4 ⟨rfl, hw4⟩; replace hw4 := hw4.symm; subst hw4; clear CWi)
                | (go_at_call 35; refine (HWo.out _).mono ?_; rintro e w4 ⟨rfl, hw4⟩; replace hw4 := hw4.symm; subst hw4)
                | (go_at_call 33; refine CR.mono ?_; rintro e w5 ⟨rfl, ⟨n5, D5, hS5, _⟩, hg5⟩; clear CR; have hown5 := own_keep hown fun b hb hb2 => hg5.block b hb2 (by have := hS0'.out; simp; omega); have hsz5 := hg5.size; have hgg5 := hg.trans hg5; have hsz0 := hgg5.size)
                | (at_builtin; refine wpList_append_own _ rfl _ _ 29 rfl w0.heap.size 3 i3 (.int .i64 0) 1 8 und22 hi3 hz0 hz1 hz2 rfl (by decide) _ _ _ rfl (hown5.alloc _) ⟨w5.heap.size, 0, none⟩ 1 1 [.int .i64 (i : Int)] rfl rfl ?c1 ?c2 ?c3 ?c4 ?c5 ?_)
                | go_in)
              case c1 =>
                intro j u hj
                match j, hj with
                | 0, hj => simp at hj; subst hj; simp [Addr.add]
              case c2 => intro u hu; simp at hu; subst hu; rfl
              case c3 => unfold maxLen; omega
              case c4 => omega
              case c5 => simp; omega
              · intro v' w9 hown' hgrow _
                have hg9 : w0.grownBy w9 (some w.heap.size) := (grown_al hgg5 _).andThen hgrow (fun j hj => .inl (hown5.lt j hj).1)
                have hS9 : StI v w.heap.size n5 B D5 w9 := (hS5.grown (World.grownBy_alloc w5 _ none) (by simp)).grown hgrow (fun e => by have := (hown5.lt _ e.symm).1; have := hS0'.out; omega)
                have HS9 : Hid (StI v w.heap.size n5 B D5 w9) := hS9
                clear hS5 hS9 hown5
                go_wp2_with (go_at_call 35; refine (HWo.out _).mono ?_; rintro e w4 ⟨rfl, hw4⟩; replace hw4 := hw4.symm; subst hw4)
                go_roundw
                case rel => exact ⟨i + 1, L', n5, D5, l ++ [i], by go_num, rfl, by omega, hlv2, HS9, by simpa [Hk.out] using hown', by rw [List.length_append, Hk.out]; simp; omega, hg9, HFI2⟩
                case measure => simp [intOf]; omega
          · have CWi := within_any y L false q4 hL64 (decide_eq_false hw0) wr
            have HFI2 : Hid (FcI v B D0 (i + 1) (dn L) l) := HPA.out fun ⟨h1, _⟩ => hw0 (HQ1.out.2 (fitD_iff.1 h1).2)
            clear hw0 hy0 HFI q2
            go_wp2_with (go_at_call 34; refine CWi.mono ?_; rintro e w4 ⟨rfl, hw4⟩; replace hw4 := hw4.symm; subst hw4; clear CWi)
            go_roundw
            case rel => exact ⟨i + 1, L, n', D', l, by go_num, rfl, by omega, hLv, HSI, hown, by omega, hg, HFI2⟩
            case measure => simp [intOf]; omega
      · have hd : decide ((i : Int) < (bn : Int)) = false := by simp; omega
        obtain rfl : i = bn := by omega
        have hFs := HFE.out _ _ HFI.out (by first | rfl | trivial)
        obtain ⟨ra, rc, er⟩ := own_form hown
        subst er
        clear HFI HSI
        go_wp2
        exact bodyPost_ret (v := .tuple #[.slice ra l.length rc, .bool true]) (by simp [results, Tryd.results16, go_sem]) rfl ⟨.inr ⟨l, _, hFs, rfl, hown⟩, HBW.out _ hg⟩

end Go.Proofs.YtdeofjmgjhfkcabDoor

namespace Go.Proofs.YtdeofjmgjhfkcabDoor
open Go.RowKit Go.Shelf

set_option maxRecDepth 100000 in
set_option maxHeartbeats 2000000 in
theorem Parallel_bad (p : Int) (ls : List (List Int)) (v : Value) (w : World) (hv : Rw w v ls) (hl : ls.length ≤ maxLen) (hll : ∀ l ∈ ls, l.length ≤ maxLen) (hz : dF p ls ≠ 0) :
    Calls Tryd.prog 6 #[.agg #[.int .i64 p, v]] w fun e w' => e = .returned (.tuple #[.slice none 0 0, .int .i64 (dF p ls : Int)]) ∧ Below w.heap.size w w' := by
  obtain ⟨x0, x1⟩ := lv_box p v w
  have b0 := balloc w (.cells #[.int .i64 p, v] 25)
  have C1 := open_any p ls v _ (hv.below b0) hl hll
  generalize dF p ls = z at *
  have hd : ((z : Int) != 0) = true := by simp; omega
  clear hv hl hll
  go_enter Tryd.func6, Tryd.ntmps6
  go_wp2_with (go_at_call 15; refine C1.mono ?_; rintro e w3 ⟨⟨x, rfl, _, _⟩, hb3⟩; clear C1)
  exact bodyPost_ret (v := .tuple #[.slice none 0 0, .int .i64 (z : Int)]) (by simp [results, Tryd.results6, go_sem]) rfl ⟨rfl, Below.next b0 hb3⟩

set_option maxRecDepth 100000 in
set_option maxHeartbeats 2000000 in
theorem Parallel_far (v : Nat) (B : List (List Nat)) (u : Value) (w : World) (G : GoodD v B) (hu : Rw w u (toZ B)) (hv : 15 < v) :
    Calls Tryd.prog 6 #[.agg #[.int .i64 (v : Int), u]] w fun e w' => e = .returned (.tuple #[.slice none 0 0, .int .i64 3]) ∧ Below w.heap.size w w' := by
  obtain ⟨x0, x1⟩ := lv_box v u w
  have b0 := balloc w (.cells #[.int .i64 (v : Int), u] 25)
  have HC : Hid (∀ W, Below (w.alloc (.cells #[.int .i64 (v : Int), u] 25)).heap.size (w.alloc (.cells #[.int .i64 (v : Int), u] 25)) W → W.cell? ⟨w.heap.size, 0, none⟩ = some (.int .i64 (v : Int))) := fun W hW => (des_box v u w W hW).1
  have C1 := open_good v B u _ G (hu.below b0)
  have hd : decide ((v : Int) > 15) = true := by simp; omega
  have hd2 : decide ((15 : Int) < (v : Int)) = true := by simp; omega
  clear hu hv
  go_enter Tryd.func6, Tryd.ntmps6
  go_wp2_with (go_at_call 15; refine C1.mono ?_; rintro e w3 ⟨⟨x, rfl, _⟩, hb3⟩; clear C1; have y0 := HC.out _ hb3)
  exact bodyPost_ret (v := .tuple #[.slice none 0 0, .int .i64 3]) (by simp [results, Tryd.results6, go_sem]) rfl ⟨rfl, Below.next b0 hb3⟩

set_option maxRecDepth 100000 in
set_option maxHeartbeats 2000000 in
theorem Parallel_good (v : Nat) (B : List (List Nat)) (u : Value) (w : World) (hT : Tab w) (G : GoodD v B) (hu : Rw w u (toZ B)) (hv : v ≤ 15) :
    Calls Tryd.prog 6 #[.agg #[.int .i64 (v : Int), u]] w fun e w' => ((fcB v B 0 (fun _ => false) = none ∧ e = .returned (.tuple #[.slice none 0 0, .int .i64 4])) ∨ ∃ l x, fcB v B 0 (fun _ => false) = some l ∧ e = .returned (.tuple #[x, .int .i64 0]) ∧ Sl w' x (l.map Int.ofNat)) ∧ Below w.heap.size w w' := by
  obtain ⟨x0, x1⟩ := lv_box v u w
  have b0 := balloc w (.cells #[.int .i64 (v : Int), u] 25)
  have HB0 : Hid (Below w.heap.size w (w.alloc (.cells #[.int .i64 (v : Int), u] 25))) := b0
  have HC : Hid (∀ W, Below (w.alloc (.cells #[.int .i64 (v : Int), u] 25)).heap.size (w.alloc (.cells #[.int .i64 (v : Int), u] 25)) W → W.cell? ⟨w.heap.size, 0, none⟩ = some (.int .i64 (v : Int))) := fun W hW => (des_box v u w W hW).1
  have C1 := open_good v B u _ G (hu.below b0)
  have hT0 : Hid (Tab (w.alloc (.cells #[.int .i64 (v : Int), u] 25))) := hT.next b0
  have hd : decide ((v : Int) > 15) = false := by simp; omega
  have hd2 : decide ((15 : Int) < (v : Int)) = false := by simp; omega
  have CB : Hid (∀ W, Calls Tryd.prog 17 #[.int .i64 (v : Int)] W fun e w' => e = .returned (.int .u64 ((2 ^ v - 1 : Nat) : Int)) ∧ w' = W) := fun W => below_any v (by omega) W
  have hfc : fcB v B 0 (dn (2 ^ v - 1)) = fcB v B 0 (fun _ => false) := fc_congr G.bls fun x hx => by
    show (!(2 ^ v - 1).testBit x) = false
    rw [low_bit]; simp [hx]
  have CF : Hid (∀ (x : Value) (W : World), Tab W → SC W x (B.map sb) → Calls Tryd.prog 16 #[.int .u64 ((2 ^ v - 1 : Nat) : Int), x] W fun e w' => ((fcB v B 0 (fun _ => false) = none ∧ e = .returned (.tuple #[.slice none 0 0, .bool false])) ∨ ∃ l x, fcB v B 0 (fun _ => false) = some l ∧ e = .returned (.tuple #[x, .bool true]) ∧ Sl w' x (l.map Int.ofNat)) ∧ Below W.heap.size W w') := fun x W hTW hx => by
    have := firstCut_any v B G hv x W hTW hx
    rw [hfc] at this
    refine this.mono ?_
    rintro e w' ⟨h | ⟨l, y, h1, h2, h3⟩, hb⟩
    · exact ⟨.inl h, hb⟩
    · exact ⟨.inr ⟨l, y, h1, h2, Sl.owned (by rw [List.length_map]; exact h3)⟩, hb⟩
  obtain ⟨al, Hal⟩ : ∃ al, Hid (2 ^ v - 1 = al) := ⟨_, (rfl : 2 ^ v - 1 = 2 ^ v - 1)⟩
  rw [Hal.out] at CB CF
  obtain ⟨F, HF⟩ : ∃ F, Hid (fcB v B 0 (fun _ => false) = F) := ⟨_, rfl⟩
  rw [HF.out] at CF ⊢
  clear hu hv hfc Hal HF b0
  go_enter Tryd.func6, Tryd.ntmps6
  go_wp2_with (first
    | (go_at_call 15; refine C1.mono ?_; rintro e w3 ⟨⟨x, rfl, hrow⟩, hb3⟩; clear C1; have y0 := HC.out _ hb3; have HROW : Hid (SC w3 x (B.map sb)) := SRow.sc hrow; clear hrow)
    | (go_at_call 17; refine (CB.out _).mono ?_; rintro e w4 ⟨rfl, hw4⟩; replace hw4 := hw4.symm; subst hw4)
    | (go_at_call 16; refine (CF.out _ _ (hT0.out.next hb3) HROW.out).mono ?_; rintro e w5 ⟨⟨hF, rfl⟩ | ⟨l, y, hF, rfl, hy⟩, hb5⟩))
  · exact bodyPost_ret (v := .tuple #[.slice none 0 0, .int .i64 4]) (by simp [results, Tryd.results6, go_sem]) rfl ⟨.inl ⟨hF, rfl⟩, Below.next HB0.out (Below.next hb3 hb5)⟩
  · exact bodyPost_ret (v := .tuple #[y, .int .i64 0]) (by simp [results, Tryd.results6, go_sem]) rfl ⟨.inr ⟨l, _, hF, rfl, hy⟩, Below.next HB0.out (Below.next hb3 hb5)⟩

end Go.Proofs.YtdeofjmgjhfkcabDoor
