/- The walks of Basis, Normal, Join, Meet and Has. -/
import Derived.Test.YtjfjdidibglhaabDoorYB5
import Derived.Shelf.Spec.SlicesGrow
import Derived.Maps.AppendAt
import Derived.Deep.AppendLies
import Derived.Deep.MidRow
import Derived.Deep.RegionHeld3
import Derived.Test.YtjfjdidibglhaabDoorSpX
/- The walks of has, Basis, Normal, Join, Meet and Has. -/
/- The library's Grow by its contract, and the walk of its Concat, at rows. -/
namespace Go.Proofs.YtjfjdidibglhaabDoor
open Go.Shelf Go.RowKit Go.Maps

/-- What is appended: nothing, or so many cells. -/
def SrcC (w : World) (x : Value) (m : Nat) (news : List Value) : Prop := (∃ c, x = .slice none 0 c ∧ m = 0 ∧ news = []) ∨ ∃ ad c, x = .slice (some ad) m c ∧ news.length = m ∧ ∀ (j : Nat) (u : Value), news[j]? = some u → w.cell? (ad.add j) = some u
theorem run_append_none_c {P : Program} {w : World} (base : Nat) (t ty e : TypeId) (i : TypeInfo) (size c : Nat) (ht : P.underlying t = some (.slice e)) (hi : P.info? e = some i)
    (v : Value) (n : Nat) (xs : List Value) (hown : w.ownsRow base e size v n xs) : (Builtin.append_ #[t, t] ty #[v, .slice none 0 c]).run P w = .ok v w := by
  rcases hown.2 with ⟨rfl, rfl⟩ | ⟨g, cap, cur, rfl, _, _, hnc, _⟩
  · simp [Builtin.append_, run_underlying ht, sizeOf, typeInfo, hi, Builtin.lenOf, Builtin.firstCells]
  · simp [Builtin.append_, run_underlying ht, sizeOf, typeInfo, hi, Builtin.lenOf, Builtin.firstCells, hnc, storeCells]
theorem wpList_append_srcC {P : Program} (w : World) {ops : Array Oper} {rest : List Oper} {o : Oper} {a : Act} {Q : Exit → Act → World → Prop} (hgd : o.guard = none) (s x : Operand) (t : TypeId)
    (ho : o.op = .call { callee := .builtin .append, args := #[s, x], argTypes := #[t, t] })
    (base : Nat) (e : TypeId) (i : TypeInfo) (z : Value) (bytes : Nat) (ht : P.underlying t = some (.slice e)) (hi : P.info? e = some i) (hz : i.zero = some z)
    (hsize : i.size = 1) (hby : i.bytes = bytes) (hzs : z.cells.size = 1)
    (v : Value) (n : Nat) (xs : List Value) (hs : a.eval s = v) (hown : w.ownsRow base e 1 v n xs)
    (vx : Value) (m : Nat) (news : List Value) (hx : a.eval x = vx) (hsrc : SrcC w vx m news) (h1 : ∀ u ∈ news, u.oneCell' = true)
    (h63 : n + m ≤ maxLen) (hbytes : (n + m) * bytes ≤ 140737488355328) (hbase : base ≤ w.heap.size)
    (h : ∀ v' w', w'.ownsRow base e 1 v' (n + m) (xs ++ news) → w.grownBy w' v.ownBlock → wpList P ops Q rest (a.put o.dst v') w') :
    wpList P ops Q (o :: rest) a w := by
  rcases hsrc with ⟨c, rfl, rfl, rfl⟩ | ⟨ad, c, rfl, hl, hnews⟩
  · refine wpList_plain hgd fun K hK => ?_
    have hr := run_append_none_c (P := P) base t o.type e i 1 c ht hi v n xs hown
    unfold Oper.wp execOp
    simp only [ho, resolve, invoke, builtin, Sem.run_bind, Sem.run_pure, Result.andThen_ok, List.map_toArray, List.map_cons, List.map_nil, hs, hx, hr]
    exact hK _ _ (h v w (by rw [List.append_nil]; exact hown) ⟨rfl, rfl, rfl, Nat.le_refl _, fun _ _ _ => rfl⟩)
  · exact wpList_append_own_at w hgd s x t ho base e i z 1 bytes ht hi hz hsize hby hzs (by decide) v n xs hs hown ad m c news hx (by rw [hl, Nat.mul_one]) hnews h1 h63 hbytes hbase fun v' w' h2 h3 _ _ => h v' w' h2 h3

def growR_ren : Go.Shelf.Ren := ⟨fun | 4 => 56 | n => n, fun | 22 => 25 | 25 => 22 | 3 => 3 | 4 => 4 | 9 => 9 | 20 => 20 | 0 => 0 | n => n, fun | n => n⟩
/-- Headers of rows. -/
def HdR (w : World) (us : List Value) (ls : List (List Int)) : Prop := us.length = ls.length ∧ ∀ (i : Nat) l, ls[i]? = some l → ∃ u, us[i]? = some u ∧ Sl w u l
theorem HdR.append {w : World} {us vs : List Value} {ls ms : List (List Int)} (h : HdR w us ls) (k : HdR w vs ms) : HdR w (us ++ vs) (ls ++ ms) := by
  refine ⟨by rw [List.length_append, List.length_append, h.1, k.1], fun i l hl => ?_⟩
  by_cases hi : i < ls.length
  · rw [List.getElem?_append_left hi] at hl
    rw [List.getElem?_append_left (by rw [h.1]; exact hi)]
    exact h.2 i l hl
  · rw [List.getElem?_append_right (by omega)] at hl
    rw [List.getElem?_append_right (by rw [h.1]; omega), h.1]
    exact k.2 _ l hl
theorem HdR.one {w : World} {us : List Value} {ls : List (List Int)} (h : HdR w us ls) : ∀ u ∈ us, u.oneCell' = true := fun u hu => by
  obtain ⟨i, hi, rfl⟩ := List.getElem_of_mem hu
  have hi' : i < ls.length := by rw [← h.1]; exact hi
  obtain ⟨u', h1, a, c, e, _⟩ := h.2 i ls[i] (List.getElem?_eq_getElem hi')
  rw [List.getElem?_eq_getElem hi] at h1
  rw [Option.some.inj h1, e]
  rfl
/-- Rows that are read, as what is appended. -/
theorem rw_src {w : World} {x : Value} {ls : List (List Int)} (h : Rw w x ls) : ∃ us, HdR w us ls ∧ ∀ W, Below w.heap.size w W → SrcC W x ls.length us := by
  obtain ⟨a, cap, rfl, h⟩ := h
  cases a with
  | none =>
    have h0 : ls = [] := by
      cases ls with
      | nil => rfl
      | cons l ls =>
        obtain ⟨b, off, u, e, _⟩ := h 0 l rfl
        cases e
    subst h0
    exact ⟨[], ⟨rfl, fun i l hl => by simp at hl⟩, fun W _ => .inl ⟨cap, rfl, rfl, rfl⟩⟩
  | some ad =>
    have hU : ∀ i : Nat, ∃ u : Value, ∀ l, ls[i]? = some l → (∀ W, Below w.heap.size w W → W.cell? (ad.add i) = some u) ∧ Sl w u l := fun i => by
      cases hi : ls[i]? with
      | none => exact ⟨.slice none 0 0, fun l h => by cases h⟩
      | some l =>
        obtain ⟨b, off, u, e, hc, hs⟩ := h i l hi
        cases e
        exact ⟨u, fun l' h' => by cases h'; exact ⟨fun W bW => by rw [Addr.add_mid]; exact (bW.cell (block_lt_of_cell hc)).trans hc, hs⟩⟩
    obtain ⟨U, hU'⟩ := Classical.axiomOfChoice hU
    refine ⟨(List.range ls.length).map U, ⟨by simp, fun i l hl => ?_⟩, fun W bW => .inr ⟨ad, cap, rfl, by simp, fun j u hj => ?_⟩⟩
    · have hi : i < ls.length := (List.getElem?_eq_some_iff.1 hl).1
      exact ⟨U i, by simp [hi], (hU' i l hl).2⟩
    · have hj' : j < ls.length := by have := (List.getElem?_eq_some_iff.1 hj).1; simpa using this
      have hu : U j = u := by simpa [hj'] using hj
      rw [← hu]
      exact (hU' j ls[j] (List.getElem?_eq_getElem hj')).1 W bW
theorem hdr_rw {w0 w : World} {base : Nat} {v : Value} {us : List Value} {ls : List (List Int)} (h : w.ownsRow base 22 1 v ls.length us) (hd : HdR w0 us ls) (hb : Below w0.heap.size w0 w) : Rw w v ls := by
  obtain ⟨h1, ⟨rfl, h0⟩ | ⟨g, cap, cur, rfl, hg0, hg, h2, h3, h4, ht⟩⟩ := h
  · have : ls = [] := List.length_eq_zero_iff.1 h0
    subst this
    exact ⟨none, 0, rfl, fun i l hi => by simp at hi⟩
  · refine ⟨_, cap, rfl, fun i l hi => ?_⟩
    obtain ⟨u, h5, h6⟩ := hd.2 i l hi
    have hil : i < ls.length := (List.getElem?_eq_some_iff.1 hi).1
    refine ⟨g, 0, u, rfl, ?_, h6.below hb⟩
    rw [cell_of_row w g _ cur 22 (0, 0) hg, Nat.zero_add, ← Array.getElem?_toList]
    have h7 : (cur.toList.take (ls.length * 1))[i]? = us[i]? := by rw [ht]
    rw [List.getElem?_take, if_pos (by omega)] at h7
    rw [h7, h5]
theorem flat_take {ls : List (List (List Int))} {j : Nat} {l : List (List Int)} (h : ls[j]? = some l) : (ls.take (j + 1)).flatten = (ls.take j).flatten ++ l := by
  rw [List.take_add_one, h, Option.toList_some, List.flatten_append]
  simp
theorem flat_le (ls : List (List (List Int))) (j : Nat) : (ls.take j).flatten.length ≤ ls.flatten.length := by
  conv => rhs; rw [← List.take_append_drop j ls, List.flatten_append, List.length_append]
  omega
theorem own_slice {w : World} {base n : Nat} {v : Value} {xs : List Value} (h : w.ownsRow base 22 1 v n xs) : ∃ a c, v = .slice a n c := by
  obtain ⟨_, ⟨rfl, h0⟩ | ⟨g, cap, cur, rfl, _⟩⟩ := h
  · exact ⟨none, 0, by rw [h0]⟩
  · exact ⟨_, _, rfl⟩
end Go.Proofs.YtjfjdidibglhaabDoor

namespace Go.Proofs.YtjfjdidibglhaabDoor
open Go.RowKit

theorem ls_one {w : World} {x : Value} {rs : List (List Int)} (h : Rw w x rs) (h1 : rs.length ≤ maxLen) (h2 : ∀ r ∈ rs, r.length ≤ maxLen) : LsR (w.alloc (.cells #[x] 25)) (.slice (some ⟨w.heap.size, 0, none⟩) 1 1) [x] [rs] := by
  refine ⟨w.heap.size, 1, rfl, rfl, fun i y ss hy hs => ?_⟩
  have hi : i = 0 := by have := (List.getElem?_eq_some_iff.1 hy).1; simpa using this
  subst hi
  simp only [List.getElem?_cons_zero, Option.some.injEq] at hy hs
  subst hy hs
  exact ⟨by rw [cell_of_row _ _ _ _ _ _ (heap_alloc_new w _)]; rfl, h.below (balloc w _), h1, h2⟩
theorem ls_two {w : World} {x y : Value} {rs ss : List (List Int)} (h : Rw w x rs) (h1 : rs.length ≤ maxLen) (h2 : ∀ r ∈ rs, r.length ≤ maxLen) (k : Rw w y ss) (k1 : ss.length ≤ maxLen) (k2 : ∀ r ∈ ss, r.length ≤ maxLen) : LsR (w.alloc (.cells #[x, y] 25)) (.slice (some ⟨w.heap.size, 0, none⟩) 2 2) [x, y] [rs, ss] := by
  refine ⟨w.heap.size, 2, rfl, rfl, fun i z ts hz ht => ?_⟩
  have hi : i < 2 := by have := (List.getElem?_eq_some_iff.1 hz).1; simpa using this
  have hn := heap_alloc_new w (.cells #[x, y] 25)
  match i, hi with
  | 0, _ =>
    simp only [List.getElem?_cons_zero, Option.some.injEq] at hz ht
    subst hz ht
    exact ⟨by rw [cell_of_row _ _ _ _ _ _ hn]; rfl, h.below (balloc w _), h1, h2⟩
  | 1, _ =>
    simp only [List.getElem?_cons_succ, List.getElem?_cons_zero, Option.some.injEq] at hz ht
    subst hz ht
    exact ⟨by rw [cell_of_row _ _ _ _ _ _ hn]; rfl, k.below (balloc w _), k1, k2⟩
theorem toZ_app (A B : List (List Nat)) : [toZ A, toZ B].flatten = toZ (A ++ B) := by simp [toZ]
theorem toZ_len (A : List (List Nat)) : (toZ A).length = A.length := by simp [toZ]
theorem toZ_max {q n : Nat} {A : List (List Nat)} (h : Rws q n A) (hn : n ≤ 6) : ∀ r ∈ toZ A, r.length ≤ maxLen := fun r hr => by
  obtain ⟨s, hs, rfl⟩ := List.mem_map.1 hr
  rw [List.length_map, (h s hs).len]
  unfold maxLen; omega
theorem len_max {m : Nat} (h : m ≤ 99) : m ≤ maxLen := by unfold maxLen; omega
theorem sl_rw {w : World} {x : Value} {r : List Int} (h : Sl w x r) : Rw (w.alloc (.cells #[x] 22)) (.slice (some ⟨w.heap.size, 0, none⟩) 1 1) [r] := by
  refine ⟨_, 1, rfl, fun i l hl => ?_⟩
  have hi : i = 0 := by have := (List.getElem?_eq_some_iff.1 hl).1; simpa using this
  subst hi
  simp only [List.getElem?_cons_zero, Option.some.injEq] at hl
  subst hl
  exact ⟨w.heap.size, 0, x, rfl, by rw [cell_of_row _ _ _ _ _ _ (heap_alloc_new w _)]; rfl, h.below (balloc w _)⟩
theorem rw_form {w : World} {x : Value} {A : List (List Nat)} (h : Rw w x (toZ A)) : ∃ a c, x = .slice a A.length c := by
  obtain ⟨a, c, e, _⟩ := h
  rw [toZ_len] at e
  exact ⟨a, c, e⟩
theorem rw_formH {w : World} {x : Value} {A : List (List Nat)} (h : Rw w x (toZ A)) : ∃ a m c, x = .slice a m c ∧ Hid (A.length = m) := by
  obtain ⟨a, c, e⟩ := rw_form h
  exact ⟨a, _, c, e, rfl⟩
end Go.Proofs.YtjfjdidibglhaabDoor

namespace Go.Proofs.YtjfjdidibglhaabDoor
open Go.RowKit

/-- What open answers in each later world. -/
def OpC (p k n : Int) (v : Value) (vs : List Value) (rss : List (List (List Int))) (w : World) (z : Int) (rv : Value) : Prop := ∀ W u, Below w.heap.size w W → LsR W u vs rss → Calls Tryd.prog 23 #[.agg #[.int .i64 p, .int .i64 k, v], .int .i64 n, u] W fun e w' => OpA z rv e ∧ Below W.heap.size W w'
theorem opc_fault {p k n z : Int} {l : List Int} {v : Value} {w : World} (hT : Fd.Tab w) (hl : Fd.Sl w v l) (hll : l.length ≤ maxLen) (hz : Fd.FaultIs p k l z) (h0 : z ≠ 0) (vs : List Value) (rss : List (List (List Int))) (rv : Value) : OpC p k n v vs rss w z rv :=
  fun W u b _ => open_fault p k n z l v u rv W (hT.below b) (hl.below b) hll hz h0
theorem opc_far {P K : Nat} {n : Int} {l : List Int} {v : Value} {w : World} (hF : Fld P K l v w) (hn : ¬ (1 ≤ n ∧ n ≤ 6)) (vs : List Value) (rss : List (List (List Int))) (rv : Value) : OpC P K n v vs rss w 1 rv :=
  fun W u b _ => open_far P K n l v u rv W (hF.below b) hn
theorem opc_full {P K n : Nat} {l : List Int} {v : Value} {w : World} (hF : Fld P K l v w) (h1 : 1 ≤ n) (h6 : n ≤ 6) (hf : 4096 < (P ^ K) ^ n) (vs : List Value) (rss : List (List (List Int))) (rv : Value) : OpC P K n v vs rss w 3 rv :=
  fun W u b _ => open_full P K n l v u rv W (hF.below b) h1 h6 hf
theorem opc_rows {P K n : Nat} {l : List Int} {v : Value} {w : World} (hF : Fld P K l v w) (h1 : 1 ≤ n) (h6 : n ≤ 6) (hf : (P ^ K) ^ n ≤ 4096) (vs : List Value) (rss : List (List (List Int))) (hm : rss.length ≤ 2) {z : Nat} (hz : lsE (P ^ K) n rss = z) : OpC P K n v vs rss w z (rmV P K v n) :=
  fun W u b hu => open_rows P K n l v u vs rss W (hF.below b) h1 h6 hf hu hm z hz
/-- Rows as they come. -/
structure RwC (w : World) (u : Value) (rs : List (List Int)) : Prop where
  rw : Rw w u rs
  len : rs.length ≤ maxLen
  all : ∀ r ∈ rs, r.length ≤ maxLen
theorem RwC.below {w w' : World} {u : Value} {rs : List (List Int)} (h : RwC w u rs) (b : Below w.heap.size w w') : RwC w' u rs := ⟨h.rw.below b, h.len, h.all⟩
theorem RwC.form {w : World} {u : Value} {rs : List (List Int)} (h : RwC w u rs) : ∃ a m c, u = .slice a m c ∧ Hid (rs.length = m) := by
  obtain ⟨a, c, e, _⟩ := h.rw
  exact ⟨a, _, c, e, rfl⟩
set_option maxRecDepth 100000 in
set_option maxHeartbeats 4000000 in
theorem Basis_err (p k n z : Int) (v u : Value) (rs : List (List Int)) (rv : Value) (w : World) (hv : ∃ a m c, v = .slice a m c) (hu : RwC w u rs) (hO : OpC p k n v [u] [rs] w z rv) (h0 : z ≠ 0) :
    Calls Tryd.prog 17 #[.agg #[.int .i64 p, .int .i64 k, v], .int .i64 n, u] w fun e w' => e = .returned (.tuple #[.slice none 0 0, .int .i64 z]) ∧ Below w.heap.size w w' := by
  obtain ⟨fa, fn, fc, rfl⟩ := hv
  have b1 := balloc w (.cells #[.int .i64 p, .int .i64 k, .slice fa fn fc] 24)
  obtain ⟨x0, x1, x2⟩ := fl_box p k (.slice fa fn fc) w _ (Below.refl _ _)
  have hL := ls_one (hu.rw.below b1) hu.len hu.all
  have b2 := Below.next b1 (balloc (w.alloc (.cells #[.int .i64 p, .int .i64 k, .slice fa fn fc] 24)) (.cells #[u] 25))
  have hs1 : (w.alloc (.cells #[.int .i64 p, .int .i64 k, .slice fa fn fc] 24)).heap.size = w.heap.size + 1 := by simp
  rw [hs1] at hL
  have C := hO _ _ b2 hL
  obtain ⟨ua, um, uc, rfl, Hum⟩ := hu.form
  have hne : (z != 0) = true := by simpa using h0
  obtain ⟨W1, HW1⟩ : ∃ W1, Hid ((w.alloc (.cells #[.int .i64 p, .int .i64 k, .slice fa fn fc] 24)).alloc (.cells #[.slice ua um uc] 25) = W1) := ⟨_, rfl⟩
  rw [HW1.out] at b2 C
  clear hL hO hu
  go_enter Tryd.func17, Tryd.ntmps17
  go_wp2_with (first
    | (go_at_call 23; rw [HW1.out]; refine C.mono ?_; rintro e w1 ⟨⟨rp, rk, rn, ra, rm, rc, rfl, _⟩, b3⟩; clear C)
    | (refine wpList_store_row rfl 53 _ _ rfl w1.heap.size (rmC rp rk (.slice ra rm rc) rn) rfl rfl 53 _ (rm_made w1) (inf50 _ _ _ _) rfl (rmC_one _ _ _ _ _ _) ?_; have b5 : Below w.heap.size w ((w1.alloc (.cells #[.int .i64 0, .int .i64 0, .slice none 0 0, .int .i64 0] 53)).setRow w1.heap.size (rmC rp rk (.slice ra rm rc) rn)) := Fd.bsetRow ((Below.next b2 b3).alloc (Below.next b2 b3).size _) (Below.next b2 b3).size _; revert b5; generalize ((w1.alloc (.cells #[.int .i64 0, .int .i64 0, .slice none 0 0, .int .i64 0] 53)).setRow w1.heap.size (rmC rp rk (.slice ra rm rc) rn)) = W2; intro b5))
  go_ret2
  exact ⟨rfl, b5⟩
set_option maxRecDepth 100000 in
set_option maxHeartbeats 4000000 in
theorem Normal_err (p k n z : Int) (v u : Value) (rs : List (List Int)) (rv : Value) (w : World) (hv : ∃ a m c, v = .slice a m c) (hu : RwC w u rs) (hO : OpC p k n v [u] [rs] w z rv) (h0 : z ≠ 0) :
    Calls Tryd.prog 10 #[.agg #[.int .i64 p, .int .i64 k, v], .int .i64 n, u] w fun e w' => e = .returned (.tuple #[.slice none 0 0, .int .i64 z]) ∧ Below w.heap.size w w' := by
  obtain ⟨fa, fn, fc, rfl⟩ := hv
  have b1 := balloc w (.cells #[.int .i64 p, .int .i64 k, .slice fa fn fc] 24)
  obtain ⟨x0, x1, x2⟩ := fl_box p k (.slice fa fn fc) w _ (Below.refl _ _)
  have hL := ls_one (hu.rw.below b1) hu.len hu.all
  have b2 := Below.next b1 (balloc (w.alloc (.cells #[.int .i64 p, .int .i64 k, .slice fa fn fc] 24)) (.cells #[u] 25))
  have hs1 : (w.alloc (.cells #[.int .i64 p, .int .i64 k, .slice fa fn fc] 24)).heap.size = w.heap.size + 1 := by simp
  rw [hs1] at hL
  have C := hO _ _ b2 hL
  obtain ⟨ua, um, uc, rfl, Hum⟩ := hu.form
  have hne : (z != 0) = true := by simpa using h0
  obtain ⟨W1, HW1⟩ : ∃ W1, Hid ((w.alloc (.cells #[.int .i64 p, .int .i64 k, .slice fa fn fc] 24)).alloc (.cells #[.slice ua um uc] 25) = W1) := ⟨_, rfl⟩
  rw [HW1.out] at b2 C
  clear hL hO hu
  go_enter Tryd.func10, Tryd.ntmps10
  go_wp2_with (first
    | (go_at_call 23; rw [HW1.out]; refine C.mono ?_; rintro e w1 ⟨⟨rp, rk, rn, ra, rm, rc, rfl, _⟩, b3⟩; clear C)
    | (refine wpList_store_row rfl 53 _ _ rfl w1.heap.size (rmC rp rk (.slice ra rm rc) rn) rfl rfl 53 _ (rm_made w1) (inf50 _ _ _ _) rfl (rmC_one _ _ _ _ _ _) ?_; have b5 : Below w.heap.size w ((w1.alloc (.cells #[.int .i64 0, .int .i64 0, .slice none 0 0, .int .i64 0] 53)).setRow w1.heap.size (rmC rp rk (.slice ra rm rc) rn)) := Fd.bsetRow ((Below.next b2 b3).alloc (Below.next b2 b3).size _) (Below.next b2 b3).size _; revert b5; generalize ((w1.alloc (.cells #[.int .i64 0, .int .i64 0, .slice none 0 0, .int .i64 0] 53)).setRow w1.heap.size (rmC rp rk (.slice ra rm rc) rn)) = W2; intro b5))
  go_ret2
  exact ⟨rfl, b5⟩
theorem rm_inj {rp rk rn p k n : Int} {ra fa : Option Addr} {rm rc fn fc : Nat} (h : Value.agg #[.int .i64 rp, .int .i64 rk, .slice ra rm rc, .int .i64 rn] = Value.agg #[.int .i64 p, .int .i64 k, .slice fa fn fc, .int .i64 n]) : rp = p ∧ rk = k ∧ (ra = fa ∧ rm = fn ∧ rc = fc) ∧ rn = n := by
  simpa using h
/-- A basis, and no error. -/
def BaR (q : Nat) (ad mu : Nat → Nat → Nat) (n : Nat) (V : List Nat → Prop) (e : Ending) (w' : World) : Prop := ∃ x ls, e = .returned (.tuple #[x, .int .i64 0]) ∧ BasIs q ad mu n V ls ∧ Rw w' x (toZ ls)
set_option maxRecDepth 100000 in
set_option maxHeartbeats 16000000 in
theorem Basis_ok (P K n : Nat) (l : List Int) (v u : Value) (A : List (List Nat)) (w : World) (hF : Fld P K l v w) (hu : Rw w u (toZ A)) (hA : Rws (P ^ K) n A) (hAl : A.length ≤ 12) (h1 : 1 ≤ n) (hn : n ≤ 6) (hO : OpC P K n v [u] [toZ A] w 0 (rmV P K v n)) :
    Calls Tryd.prog 17 #[.agg #[.int .i64 (P : Int), .int .i64 (K : Int), v], .int .i64 (n : Int), u] w fun e w' => BaR (P ^ K) (adF P K) (muF P K l) n (Spn (P ^ K) (adF P K) (muF P K l) n A) e w' ∧ Below w.heap.size w w' := by
  have hfq := hF.fqr
  have HBas : Hid (∀ (W : World) (y : Value) (Y : List (List Nat)), Below w.heap.size w W → Rw W y (toZ Y) → Rws (P ^ K) n Y → Y.length ≤ 24 → Calls Tryd.prog 39 #[rmV P K v n, y] W fun e w' => BaA (P ^ K) (adF P K) (muF P K l) n Y e w' ∧ Below W.heap.size W w') := fun W y Y b hy hY hl => basis_any P K n l v y Y W (hF.below b) hy hY h1 hn hl
  have HA : Hid (Rws (P ^ K) n A) := hA
  obtain ⟨fa, fn, fc, rfl⟩ : ∃ fa fn fc, v = .slice fa fn fc := by obtain ⟨a, c, e, _⟩ := hF.sl; exact ⟨a, _, c, e⟩
  have b1 := balloc w (.cells #[.int .i64 (P : Int), .int .i64 (K : Int), .slice fa fn fc] 24)
  obtain ⟨x0, x1, x2⟩ := fl_box (P : Int) (K : Int) (.slice fa fn fc) w _ (Below.refl _ _)
  have hL := ls_one (hu.below b1) (by rw [toZ_len]; exact len_max (by omega)) (toZ_max hA hn)
  have b2 := Below.next b1 (balloc (w.alloc (.cells #[.int .i64 (P : Int), .int .i64 (K : Int), .slice fa fn fc] 24)) (.cells #[u] 25))
  have hs1 : (w.alloc (.cells #[.int .i64 (P : Int), .int .i64 (K : Int), .slice fa fn fc] 24)).heap.size = w.heap.size + 1 := by simp
  rw [hs1] at hL
  have C := hO _ _ b2 hL
  have Hu : Hid (∀ W, Below w.heap.size w W → Rw W u (toZ A)) := fun W b => hu.below b
  obtain ⟨ua, um, uc, rfl, Hum⟩ := rw_formH hu
  obtain ⟨W1, HW1⟩ : ∃ W1, Hid ((w.alloc (.cells #[.int .i64 (P : Int), .int .i64 (K : Int), .slice fa fn fc] 24)).alloc (.cells #[.slice ua um uc] 25) = W1) := ⟨_, rfl⟩
  rw [HW1.out] at b2 C
  clear hL hO hfq hF hu
  go_enter Tryd.func17, Tryd.ntmps17
  go_wp2_with (first
    | (go_at_call 23; rw [HW1.out]; refine C.mono ?_; rintro e w1 ⟨⟨rp, rk, rn, ra, rm, rc, rfl, hrv⟩, b3⟩; obtain ⟨rfl, rfl, ⟨rfl, rfl, rfl⟩, rfl⟩ : rp = (P : Int) ∧ rk = (K : Int) ∧ (ra = fa ∧ rm = fn ∧ rc = fc) ∧ rn = (n : Int) := rm_inj (hrv rfl); have r2 : RmB (w1.alloc (.cells #[.int .i64 (P : Int), .int .i64 (K : Int), .slice ra rm rc, .int .i64 (n : Int)] 53)) w1.heap.size (P : Int) (K : Int) (.slice ra rm rc) (n : Int) := heap_alloc_new w1 _; have b5 : Below w.heap.size w (w1.alloc (.cells #[.int .i64 (P : Int), .int .i64 (K : Int), .slice ra rm rc, .int .i64 (n : Int)] 53)) := Below.next (Below.next b2 b3) (balloc w1 _); obtain ⟨c0, c1, c2, c3⟩ := r2.cells; clear C hrv)
    | (go_at_call 39; refine (HBas.out _ _ A b5 (Hu.out _ b5) HA.out (by omega)).mono ?_; rintro e w3 ⟨⟨y, Y, rfl, hY, hy⟩, b6⟩))
  go_ret2
  exact ⟨⟨_, _, rfl, hY, hy⟩, Below.next b5 b6⟩
set_option maxRecDepth 100000 in
set_option maxHeartbeats 16000000 in
theorem Normal_ok (P K n : Nat) (l : List Int) (v u : Value) (A : List (List Nat)) (w : World) (hF : Fld P K l v w) (hu : Rw w u (toZ A)) (hA : Rws (P ^ K) n A) (hAl : A.length ≤ 12) (h1 : 1 ≤ n) (hn : n ≤ 6) (hO : OpC P K n v [u] [toZ A] w 0 (rmV P K v n)) :
    Calls Tryd.prog 10 #[.agg #[.int .i64 (P : Int), .int .i64 (K : Int), v], .int .i64 (n : Int), u] w fun e w' => BaR (P ^ K) (adF P K) (muF P K l) n (Nrm (P ^ K) (adF P K) (muF P K l) n A) e w' ∧ Below w.heap.size w w' := by
  have hfq := hF.fqr
  have HNor : Hid (∀ (W : World) (y : Value) (Y : List (List Nat)), Below w.heap.size w W → Rw W y (toZ Y) → Rws (P ^ K) n Y → Y.length ≤ 24 → Calls Tryd.prog 24 #[rmV P K v n, y] W fun e w' => NoA (P ^ K) (adF P K) (muF P K l) n Y e w' ∧ Below W.heap.size W w') := fun W y Y b hy hY hl => normal_any P K n l v y Y W (hF.below b) hy hY h1 hn hl
  have HA : Hid (Rws (P ^ K) n A) := hA
  obtain ⟨fa, fn, fc, rfl⟩ : ∃ fa fn fc, v = .slice fa fn fc := by obtain ⟨a, c, e, _⟩ := hF.sl; exact ⟨a, _, c, e⟩
  have b1 := balloc w (.cells #[.int .i64 (P : Int), .int .i64 (K : Int), .slice fa fn fc] 24)
  obtain ⟨x0, x1, x2⟩ := fl_box (P : Int) (K : Int) (.slice fa fn fc) w _ (Below.refl _ _)
  have hL := ls_one (hu.below b1) (by rw [toZ_len]; exact len_max (by omega)) (toZ_max hA hn)
  have b2 := Below.next b1 (balloc (w.alloc (.cells #[.int .i64 (P : Int), .int .i64 (K : Int), .slice fa fn fc] 24)) (.cells #[u] 25))
  have hs1 : (w.alloc (.cells #[.int .i64 (P : Int), .int .i64 (K : Int), .slice fa fn fc] 24)).heap.size = w.heap.size + 1 := by simp
  rw [hs1] at hL
  have C := hO _ _ b2 hL
  have Hu : Hid (∀ W, Below w.heap.size w W → Rw W u (toZ A)) := fun W b => hu.below b
  obtain ⟨ua, um, uc, rfl, Hum⟩ := rw_formH hu
  obtain ⟨W1, HW1⟩ : ∃ W1, Hid ((w.alloc (.cells #[.int .i64 (P : Int), .int .i64 (K : Int), .slice fa fn fc] 24)).alloc (.cells #[.slice ua um uc] 25) = W1) := ⟨_, rfl⟩
  rw [HW1.out] at b2 C
  clear hL hO hfq hF hu
  go_enter Tryd.func10, Tryd.ntmps10
  go_wp2_with (first
    | (go_at_call 23; rw [HW1.out]; refine C.mono ?_; rintro e w1 ⟨⟨rp, rk, rn, ra, rm, rc, rfl, hrv⟩, b3⟩; obtain ⟨rfl, rfl, ⟨rfl, rfl, rfl⟩, rfl⟩ : rp = (P : Int) ∧ rk = (K : Int) ∧ (ra = fa ∧ rm = fn ∧ rc = fc) ∧ rn = (n : Int) := rm_inj (hrv rfl); have r2 : RmB (w1.alloc (.cells #[.int .i64 (P : Int), .int .i64 (K : Int), .slice ra rm rc, .int .i64 (n : Int)] 53)) w1.heap.size (P : Int) (K : Int) (.slice ra rm rc) (n : Int) := heap_alloc_new w1 _; have b5 : Below w.heap.size w (w1.alloc (.cells #[.int .i64 (P : Int), .int .i64 (K : Int), .slice ra rm rc, .int .i64 (n : Int)] 53)) := Below.next (Below.next b2 b3) (balloc w1 _); obtain ⟨c0, c1, c2, c3⟩ := r2.cells; clear C hrv)
    | (go_at_call 24; refine (HNor.out _ _ A b5 (Hu.out _ b5) HA.out (by omega)).mono ?_; rintro e w3 ⟨⟨y, Y, rfl, hY, hy⟩, b6⟩))
  go_ret2
  exact ⟨⟨_, _, rfl, hY, hy⟩, Below.next b5 b6⟩
theorem rwE_vc {q n : Nat} {r : List Nat} (h : Vc q n r) : rwE q n (r.map Int.ofNat) = 0 := rwE_in (by rw [List.length_map, h.len]) fun j hj => by
  have hj' : j < r.length := by simpa using hj
  have := h.lt _ (List.getElem_mem hj')
  simp [hj']
  omega
end Go.Proofs.YtjfjdidibglhaabDoor
