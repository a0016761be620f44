/- The runs of the squares of a field of 3 to 5 elements: of strength 2, and an affine plane. -/
import Derived.Test.YtjfjdidibglhaabDoorYB8
import Derived.Deep.RegionHeld3
import Derived.Test.YtjfjdidibglhaabDoorSpB
import Derived.Deep.AppendLies
import Derived.Test.YtjfjdidibglhaabDoorA3
import Derived.Test.YtjfjdidibglhaabDoorArV
import Derived.Test.YtjfjdidibglhaabDoorArF
import Derived.Test.YtjfjdidibglhaabDoorTBf
import Derived.Test.YtjfjdidibglhaabDoorAS2
import Derived.Test.YtjfjdidibglhaabDoorDLx
/- The least weight of what is normal to a space, found by looking at all; the runs of a space as a list of rows. -/
/- array.spanned, walked: all of a space, of its basis. -/
/- The document's Span, walked. -/
/- The document's Open, Shut, lead and added, walked. -/
/- The document's RowFault and RowsFault, walked. -/
/- What the program answers of any field, any number and any rows. -/
/- What is asked first: spaceFact. -/
namespace Go.Proofs.YtjfjdidibglhaabDoor.Fd
end Go.Proofs.YtjfjdidibglhaabDoor.Fd
namespace Go.Proofs.YtjfjdidibglhaabDoor
open Go.RowKit

end Go.Proofs.YtjfjdidibglhaabDoor

namespace Go.Proofs.YtjfjdidibglhaabDoor
open Go.RowKit

/-- A room that is none: open says what is wrong, whatever the rows. -/
structure RmE (p k : Int) (l : List Int) (n z : Int) : Prop where
  ne : z ≠ 0
  is : (Fd.FaultIs p k l z) ∨ (Fd.FaultIs p k l 0 ∧ ¬ (1 ≤ n ∧ n ≤ 6) ∧ z = 1) ∨ (∃ P K N : Nat, p = P ∧ k = K ∧ n = N ∧ Fd.GoodF P K l ∧ 1 ≤ N ∧ N ≤ 6 ∧ 4096 < (P ^ K) ^ N ∧ z = 3)
theorem RmE.op {p k n z : Int} {l : List Int} {v : Value} {w : World} (h : RmE p k l n z) (hT : Fd.Tab w) (hl : Fd.Sl w v l) (hll : l.length ≤ maxLen) (vs : List Value) (rss : List (List (List Int))) (rv : Value) : OpC p k n v vs rss w z rv := by
  rcases h.is with h1 | ⟨h1, h2, rfl⟩ | ⟨P, K, N, rfl, rfl, rfl, hG, h1, h6, hf, rfl⟩
  · exact opc_fault hT hl hll h1 h.ne vs rss rv
  · obtain ⟨P, K, rfl, rfl, hG⟩ := Fd.good_of h1
    exact opc_far ⟨hT, hl, hll, hG⟩ h2 vs rss rv
  · exact opc_full ⟨hT, hl, hll, hG⟩ h1 h6 hf vs rss rv
section
variable {P K n : Nat} {l : List Int} {v : Value} {w : World}
end
end Go.Proofs.YtjfjdidibglhaabDoor

/- The document's RoomFault, RowFault and RowsFault, walked. -/
namespace Go.Proofs.YtjfjdidibglhaabDoor.Fd
open Go.RowKit
end Go.Proofs.YtjfjdidibglhaabDoor.Fd
namespace Go.Proofs.YtjfjdidibglhaabDoor
open Go.RowKit

theorem Fld.size {P K : Nat} {l : List Int} {v : Value} {w : World} (hF : Fld P K l v w) {q : Nat} (hq : Hid (P ^ K = q)) (W : World) : Calls Tryd.prog 8 #[.agg #[.int .i64 (P : Int), .int .i64 (K : Int), v]] W fun e w' => e = .returned (.int .i64 (q : Int)) ∧ Below W.heap.size W w' := by
  have h := Fd.size_any P K v W
  rw [hF.good.ord, hq.out] at h
  exact h
end Go.Proofs.YtjfjdidibglhaabDoor

namespace Go.Proofs.YtjfjdidibglhaabDoor
open Go.RowKit

end Go.Proofs.YtjfjdidibglhaabDoor

namespace Go.Proofs.YtjfjdidibglhaabDoor
open Go.RowKit

end Go.Proofs.YtjfjdidibglhaabDoor

/- Rows of truths of one's own, and what the document's Span keeps. -/
namespace Go.Proofs.YtjfjdidibglhaabDoor
open Go.RowKit

/-- A row of truths of one's own, whole. -/
def OwnB (w : World) (g n : Nat) (f : Nat → Bool) : Prop := ∃ cur, w.heap[g]? = some (.cells cur 4 (0, 0)) ∧ cur.size = n ∧ ∀ j, j < n → cur[j]? = some (.bool (f j))
theorem OwnB.lt {w : World} {g n : Nat} {f : Nat → Bool} (h : OwnB w g n f) : g < w.heap.size := by obtain ⟨c, h, _⟩ := h; exact (Array.getElem?_eq_some_iff.1 h).1
theorem OwnB.keep {w w' : World} {g n : Nat} {f : Nat → Bool} (h : OwnB w g n f) (k : w'.heap[g]? = w.heap[g]?) : OwnB w' g n f := by
  obtain ⟨c, h, e⟩ := h
  exact ⟨c, k.trans h, e⟩
theorem OwnB.below {w w' : World} {g n : Nat} {f : Nat → Bool} (h : OwnB w g n f) (b : Below w.heap.size w w') : OwnB w' g n f := h.keep (b.block g h.lt)
theorem OwnB.cell {w : World} {g n : Nat} {f : Nat → Bool} (h : OwnB w g n f) {j : Nat} (hj : j < n) : w.cell? ⟨g, j, none⟩ = some (.bool (f j)) := by
  obtain ⟨c, h, _, e⟩ := h
  rw [cell_of_row w g j _ _ _ h, e j hj]
theorem OwnB.frozen {w : World} {g n : Nat} {f : Nat → Bool} (h : OwnB w g n f) (j : Nat) : w.frozen? ⟨g, j, none⟩ = false := by
  obtain ⟨c, h, _⟩ := h
  exact frozen_of_row w g j _ _ h
theorem OwnB.set {w : World} {g n : Nat} {f f' : Nat → Bool} (h : OwnB w g n f) (i : Nat) (v : Bool) (e : ∀ j, j < n → (if j = i then v else f j) = f' j) : OwnB (w.setCell ⟨g, i, none⟩ (.bool v)) g n f' := by
  obtain ⟨c, h, hs, hc⟩ := h
  refine ⟨_, heap_setCell_same w g i _ _ _ h, by simpa using hs, fun j hj => ?_⟩
  rw [Array.getElem?_setIfInBounds, ← e j hj]
  by_cases e1 : i = j
  · subst e1; rw [if_pos rfl, if_pos (by omega), if_pos rfl]
  · rw [if_neg e1, if_neg (fun h => e1 h.symm), hc j hj]
/-- A row of truths that is read. -/
def RdB (w : World) (v : Value) (n : Nat) (f : Nat → Bool) : Prop := ∃ b off cap, v = .slice (some ⟨b, off, none⟩) n cap ∧ ∀ j, j < n → w.cell? ⟨b, off + j, none⟩ = some (.bool (f j))
theorem RdB.below {w w' : World} {v : Value} {n : Nat} {f : Nat → Bool} (h : RdB w v n f) (k : Below w.heap.size w w') : RdB w' v n f := by
  obtain ⟨b, off, cap, e, h⟩ := h
  exact ⟨b, off, cap, e, fun j hj => (k.cell (p := ⟨b, off + j, none⟩) (block_lt_of_cell (h j hj))).trans (h j hj)⟩
theorem OwnB.rd {w : World} {g n : Nat} {f : Nat → Bool} (h : OwnB w g n f) : RdB w (.slice (some ⟨g, 0, none⟩) n n) n f := ⟨g, 0, n, rfl, fun j hj => by rw [Nat.zero_add]; exact h.cell hj⟩

section
variable {q n : Nat} {ad mu : Nat → Nat → Nat} {ng : Nat → Nat}
/-- Numbers of lists that are in T, none twice, and marked. -/
structure SpK (q n : Nat) (T : List Nat → Prop) (L : List Nat) (V : Nat → Bool) : Prop where
  lt : ∀ c ∈ L, c < q ^ n
  is : ∀ c ∈ L, T (opn q n c)
  nd : L.Nodup
  mrk : ∀ c, c < q ^ n → (V c = true ↔ c ∈ L)
theorem SpK.mono {T T' : List Nat → Prop} {L : List Nat} {V : Nat → Bool} (h : SpK q n T L V) (k : ∀ v, T v → T' v) : SpK q n T' L V := ⟨h.lt, fun c hc => k _ (h.is c hc), h.nd, h.mrk⟩
theorem SpK.add {T : List Nat → Prop} {L : List Nat} {V : Nat → Bool} (h : SpK q n T L V) {c : Nat} (hc : c < q ^ n) (hT : T (opn q n c)) (hV : V c = false) : SpK q n T (L ++ [c]) (fun i => if i = c then true else V i) := by
  have hn : c ∉ L := fun k => by rw [(h.mrk c hc).2 k] at hV; cases hV
  refine ⟨fun a ha => ?_, fun a ha => ?_, ?_, fun a ha => ?_⟩
  · rcases List.mem_append.1 ha with e | e
    · exact h.lt a e
    · rw [List.mem_singleton.1 e]; exact hc
  · rcases List.mem_append.1 ha with e | e
    · exact h.is a e
    · rw [List.mem_singleton.1 e]; exact hT
  · refine List.nodup_append.2 ⟨h.nd, by simp, fun a ha b hb => ?_⟩
    rw [List.mem_singleton.1 hb]
    intro e
    rw [e] at ha
    exact hn ha
  · show (if a = c then true else V a) = true ↔ _
    by_cases e : a = c
    · rw [if_pos e, e]; simp
    · rw [if_neg e, h.mrk a ha]; simp [e]
theorem SpK.len {T : List Nat → Prop} {L : List Nat} {V : Nat → Bool} (h : SpK q n T L V) : L.length ≤ q ^ n := by
  have := h.nd.length_le_of_subset (l₂ := List.range (q ^ n)) fun c hc => List.mem_range.2 (h.lt c hc)
  rwa [List.length_range] at this
/-- The next number: that of the row a and x times r. -/
def nxC (q n : Nat) (ad mu : Nat → Nat → Nat) (r : List Nat) (x a : Nat) : Nat := shu q (adV ad n (opn q n a) (smV mu n x r))
theorem nxC_lt (h : FqR q ad mu ng) {r : List Nat} (hr : Vc q n r) {x : Nat} (hx : x < q) (a : Nat) : nxC q n ad mu r x a < q ^ n := shu_lt h.pos n _ (adV_vc h (opn_vc h.pos n a) (smV_vc h hx hr))
theorem nxC_opn (h : FqR q ad mu ng) {r : List Nat} (hr : Vc q n r) {x : Nat} (hx : x < q) (a : Nat) : opn q n (nxC q n ad mu r x a) = adV ad n (opn q n a) (smV mu n x r) := opn_shu h.pos n _ (adV_vc h (opn_vc h.pos n a) (smV_vc h hx hr))
theorem nxC_in (h : FqR q ad mu ng) {R : List (List Nat)} {r : List Nat} (hR : Rws q n R) (hr : Vc q n r) {x a : Nat} (hx : x < q) (ha : Spn q ad mu n R (opn q n a)) : Spn q ad mu n (R ++ [r]) (opn q n (nxC q n ad mu r x a)) := by
  rw [nxC_opn h hr hx, spn_snoc h hR hr]
  exact ⟨_, x, ha, hx, rfl⟩
theorem opn_null (q n : Nat) : opn q n 0 = zV n := by
  have h : ∀ n, opn q n 0 = List.replicate n 0 := by
    intro n
    induction n with
    | zero => rfl
    | succ n ih => rw [opn, Nat.zero_div, Nat.zero_mod, ih, List.replicate_succ']
  rw [h]
  refine List.ext_getElem? fun i => ?_
  simp [zV, ofF, List.getElem?_replicate]
  by_cases e : i < n
  · simp [e]
  · simp [e]
theorem full_next (h : FqR q ad mu ng) {R : List (List Nat)} {r : List Nat} (hR : Rws q n R) (hr : Vc q n r) {L0 L : List Nat} (hf : ∀ c, c < q ^ n → Spn q ad mu n R (opn q n c) → c ∈ L0) (hd : ∀ x, x < q → ∀ a ∈ L0, nxC q n ad mu r x a ∈ L) {c : Nat} (hc : c < q ^ n)
    (k : Spn q ad mu n (R ++ [r]) (opn q n c)) : c ∈ L := by
  obtain ⟨u, x, hu, hx, e⟩ := (spn_snoc h hR hr _).1 k
  have huv := hu.vc h hR
  have ha := hf (shu q u) (shu_lt h.pos n u huv) (by rw [opn_shu h.pos n u huv]; exact hu)
  have := hd x hx _ ha
  unfold nxC at this
  rw [opn_shu h.pos n u huv, ← e, shu_opn n c hc] at this
  exact this
/-- Span's state: ahead of a row; amid one. -/
def OutS (q n : Nat) (ad mu : Nat → Nat → Nat) (S : List (List Nat)) (i : Nat) (L : List Nat) (V : Nat → Bool) : Prop := SpK q n (Spn q ad mu n (S.take i)) L V ∧ ∀ c, c < q ^ n → Spn q ad mu n (S.take i) (opn q n c) → c ∈ L
structure MidS (q n : Nat) (ad mu : Nat → Nat → Nat) (S : List (List Nat)) (i : Nat) (r : List Nat) (L0 : List Nat) (x j : Nat) (L : List Nat) (V : Nat → Bool) : Prop where
  k : SpK q n (Spn q ad mu n (S.take (i + 1))) L V
  pre : ∃ M, L = L0 ++ M
  old : ∀ a ∈ L0, a < q ^ n ∧ Spn q ad mu n (S.take i) (opn q n a)
  full : ∀ c, c < q ^ n → Spn q ad mu n (S.take i) (opn q n c) → c ∈ L0
  don : ∀ y, y < x → ∀ a ∈ L0, nxC q n ad mu r y a ∈ L
  cur : ∀ h, h < j → nxC q n ad mu r x (L0.getD h 0) ∈ L
theorem take_snoc {S : List (List Nat)} {i : Nat} {r : List Nat} (hr : S[i]? = some r) : S.take (i + 1) = S.take i ++ [r] := by rw [List.take_add_one, hr, Option.toList_some]
theorem rws_take {S : List (List Nat)} (h : Rws q n S) (i : Nat) : Rws q n (S.take i) := fun r hr => h r (List.mem_of_mem_take hr)
theorem MidS.row {S : List (List Nat)} {i : Nat} {r L0 : List Nat} {x j : Nat} {L : List Nat} {V : Nat → Bool} (k : MidS q n ad mu S i r L0 x j L V) (hj : j = L0.length) : MidS q n ad mu S i r L0 (x + 1) 0 L V where
  k := k.k
  pre := k.pre
  old := k.old
  full := k.full
  don := fun y hy a ha => by
    by_cases e : y = x
    · subst e
      obtain ⟨h, hh, rfl⟩ := List.getElem_of_mem ha
      have := k.cur h (by omega)
      rwa [List.getD_eq_getElem?_getD, List.getElem?_eq_getElem hh, Option.getD_some] at this
    · exact k.don y (by omega) a ha
  cur := fun _ h => by omega
theorem MidS.done (h : FqR q ad mu ng) {S : List (List Nat)} (hS : Rws q n S) {i : Nat} {r L0 : List Nat} {j : Nat} {L : List Nat} {V : Nat → Bool} (k : MidS q n ad mu S i r L0 q j L V) (hr : S[i]? = some r) (hv : Vc q n r) : OutS q n ad mu S (i + 1) L V :=
  ⟨k.k, fun c hc hs => by
    rw [take_snoc hr] at hs
    exact full_next h (rws_take hS i) hv k.full k.don hc hs⟩
theorem MidS.at {S : List (List Nat)} {i : Nat} {r L0 : List Nat} {x j : Nat} {L : List Nat} {V : Nat → Bool} (k : MidS q n ad mu S i r L0 x j L V) {h : Nat} (hh : h < L0.length) : L.getD h 0 = L0.getD h 0 ∧ L0.getD h 0 < q ^ n ∧ h < L.length := by
  obtain ⟨M, e⟩ := k.pre
  refine ⟨by rw [e]; simp [List.getD_eq_getElem?_getD, List.getElem?_append_left hh], ?_, by rw [e, List.length_append]; omega⟩
  rw [List.getD_eq_getElem?_getD, List.getElem?_eq_getElem hh, Option.getD_some]
  exact (k.old _ (List.getElem_mem hh)).1
theorem MidS.no (h : FqR q ad mu ng) {S : List (List Nat)} (hS : Rws q n S) {i : Nat} {r L0 : List Nat} {x j : Nat} {L : List Nat} {V : Nat → Bool} (k : MidS q n ad mu S i r L0 x j L V) (hr : S[i]? = some r) (hv : Vc q n r) (hx : x < q) (hj : j < L0.length) {z : Nat} (hz : nxC q n ad mu r x (L0.getD j 0) = z) (hV : V z = false) :
    MidS q n ad mu S i r L0 x (j + 1) (L ++ [z]) (fun i => if i = z then true else V i) where
  k := by
    refine k.k.add (by rw [← hz]; exact nxC_lt h hv hx _) ?_ hV
    rw [take_snoc hr, ← hz]
    refine nxC_in h (rws_take hS i) hv hx ?_
    rw [List.getD_eq_getElem?_getD, List.getElem?_eq_getElem hj, Option.getD_some]
    exact (k.old _ (List.getElem_mem hj)).2
  pre := by
    obtain ⟨M, e⟩ := k.pre
    exact ⟨M ++ [z], by rw [e, List.append_assoc]⟩
  old := k.old
  full := k.full
  don := fun y hy a ha => List.mem_append.2 (.inl (k.don y hy a ha))
  cur := fun h hh => by
    by_cases e : h = j
    · subst e; rw [hz]; simp
    · exact List.mem_append.2 (.inl (k.cur h (by omega)))
end
theorem addr_add0 (g j : Nat) : (⟨g, 0, none⟩ : Addr).add j = ⟨g, j, none⟩ := by unfold Addr.add; split <;> simp_all
/-- Span's memory: the marks and the list. -/
structure SpW (w0 wr : World) (G A lg lm lc : Nat) (L : List Nat) (V : Nat → Bool) : Prop where
  own : OwnB wr G A V
  row : wr.ownsRow (G + 1) 3 1 (.slice (some ⟨lg, 0, none⟩) lm lc) lm ((L.map Int.ofNat).map (Value.int .i64))
  b : Below w0.heap.size w0 wr
  g0 : w0.heap.size ≤ G
theorem SpW.lt {w0 wr : World} {G A lg lm lc : Nat} {L : List Nat} {V : Nat → Bool} (h : SpW w0 wr G A lg lm lc L V) : G + 1 ≤ lg ∧ lg < wr.heap.size := h.row.lt lg rfl
theorem SpW.len {w0 wr : World} {G A lg lm lc : Nat} {L : List Nat} {V : Nat → Bool} (h : SpW w0 wr G A lg lm lc L V) : L.length = lm := by have := h.row.1; simpa using this
theorem SpW.cell {w0 wr : World} {G A lg lm lc : Nat} {L : List Nat} {V : Nat → Bool} (h : SpW w0 wr G A lg lm lc L V) {j : Nat} (hj : j < lm) : wr.cell? ⟨lg, j, none⟩ = some (.int .i64 (L.getD j 0 : Int)) := by
  have hl := h.len
  have := h.row.cells (g := lg) rfl j (.int .i64 (L.getD j 0 : Int)) (by simp [List.getD_eq_getElem?_getD, show j < L.length by omega])
  rw [addr_add0] at this
  exact this
theorem SpW.below {w0 wr W : World} {G A lg lm lc : Nat} {L : List Nat} {V : Nat → Bool} (h : SpW w0 wr G A lg lm lc L V) (b : Below wr.heap.size wr W) : SpW w0 W G A lg lm lc L V :=
  ⟨h.own.below b, own_keep h.row fun k _ hk => b.block k hk, Below.next h.b b, h.g0⟩
theorem SpW.grow {w0 wr w4 : World} {G A lg lm lc lg' lm' lc' : Nat} {L : List Nat} {V : Nat → Bool} {z : Nat} (h : SpW w0 wr G A lg lm lc L V) (hg : (wr.alloc (.cells #[.int .i64 (z : Int)] 3)).grownBy w4 (some lg))
    (ho : w4.ownsRow (G + 1) 3 1 (.slice (some ⟨lg', 0, none⟩) lm' lc') lm' (((L.map Int.ofNat).map (Value.int .i64)) ++ [.int .i64 (z : Int)])) : SpW w0 w4 G A lg' lm' lc' (L ++ [z]) V := by
  have hl := h.lt
  have hG := h.own.lt
  have hb0 := h.b.size
  refine ⟨?_, by simpa using ho, (h.b.alloc hb0 _).grown hg (by simp; omega) (fun k e => by cases e; have := h.g0; omega), h.g0⟩
  refine (h.own.below (balloc wr _)).keep (hg.block G (by simp; omega) ?_)
  intro e
  have : G = lg := by simpa using e
  omega
/-- A row that is read while others grow. -/
def VR (w : World) (vg n : Nat) (f : Nat → Nat) : Prop := vg < w.heap.size ∧ ∀ k, k < n → w.cell? ⟨vg, k, none⟩ = some (.int .i64 (f k : Int))
theorem VR.keep {w w' : World} {vg n : Nat} {f : Nat → Nat} (h : VR w vg n f) (hs : w.heap.size ≤ w'.heap.size) (k : w'.heap[vg]? = w.heap[vg]?) : VR w' vg n f := ⟨Nat.lt_of_lt_of_le h.1 hs, fun j hj => (World.cell?_of_block (a := ⟨vg, j, none⟩) k).trans (h.2 j hj)⟩
theorem VR.below {w w' : World} {vg n : Nat} {f : Nat → Nat} (h : VR w vg n f) (b : Below w.heap.size w w') : VR w' vg n f := h.keep b.size (b.block vg h.1)
theorem VR.sl {w : World} {vg n : Nat} {f : Nat → Nat} (h : VR w vg n f) (cap : Nat) : Sl w (.slice (some ⟨vg, 0, none⟩) n cap) ((ofF n f).map Int.ofNat) := by
  refine ⟨some ⟨vg, 0, none⟩, cap, by simp [ofF], fun j hj => ⟨vg, 0, rfl, ?_⟩⟩
  have hj' : j < n := by simpa [ofF] using hj
  rw [Nat.zero_add, h.2 j hj']
  simp [ofF, hj']
theorem VR.of {w : World} {base n vg cap : Nat} {f : Nat → Nat} (h : w.ownsRow base 3 1 (.slice (some ⟨vg, 0, none⟩) n cap) n (((ofF n f).map Int.ofNat).map (Value.int .i64))) : VR w vg n f := by
  refine ⟨(h.lt vg rfl).2, fun k hk => ?_⟩
  have := h.cells (g := vg) rfl k (.int .i64 (f k : Int)) (by simp [ofF, hk])
  rw [addr_add0] at this
  exact this
end Go.Proofs.YtjfjdidibglhaabDoor

namespace Go.Proofs.YtjfjdidibglhaabDoor
open Go.RowKit

end Go.Proofs.YtjfjdidibglhaabDoor

/- array.added, walked. -/
namespace Go.Proofs.YtjfjdidibglhaabDoor
open Go.RowKit

end Go.Proofs.YtjfjdidibglhaabDoor

namespace Go.Proofs.YtjfjdidibglhaabDoor
open Go.RowKit

section
variable {q n : Nat} {ad mu : Nat → Nat → Nat} {ng : Nat → Nat}
end
end Go.Proofs.YtjfjdidibglhaabDoor

/- array.Linear, walked. -/
namespace Go.Proofs.YtjfjdidibglhaabDoor
open Go.RowKit

end Go.Proofs.YtjfjdidibglhaabDoor

namespace Go.Proofs.YtjfjdidibglhaabDoor
open Go.RowKit

theorem fnA_nat (l : List Nat) (c : Nat) : fnA (l.map Int.ofNat) c = l.getD c 0 := by
  unfold fnA
  rw [List.getD_eq_getElem?_getD, List.getD_eq_getElem?_getD, List.getElem?_map]
  cases l[c]? <;> rfl
theorem rnA_toZ (L : List (List Nat)) : rnA (toZ L) = L.map fun l c => l.getD c 0 := by
  unfold rnA toZ
  rw [List.map_map]
  refine List.map_congr_left fun l _ => ?_
  funext c
  exact fnA_nat l c
/-- The least weight of those marked below c; n + 1 where there are none. -/
def LeW (q n : Nat) (V : Nat → Bool) (c m : Nat) : Prop := (∀ d, 1 ≤ d → d < c → V d = true → m ≤ wtV n (opn q n d)) ∧ (m = n + 1 ∨ ∃ d, 1 ≤ d ∧ d < c ∧ V d = true ∧ wtV n (opn q n d) = m)
theorem LeW.skip {q n : Nat} {V : Nat → Bool} {c m : Nat} (h : LeW q n V c m) (hc : V c = false) : LeW q n V (c + 1) m := by
  refine ⟨fun d h1 h2 h3 => ?_, h.2.imp id fun ⟨d, h1, h2, h3⟩ => ⟨d, h1, by omega, h3⟩⟩
  by_cases e : d = c
  · rw [e, hc] at h3; cases h3
  · exact h.1 d h1 (by omega) h3
theorem LeW.less {q n : Nat} {V : Nat → Bool} {c m : Nat} (h : LeW q n V c m) (h0 : 1 ≤ c) (hc : V c = true) (hw : wtV n (opn q n c) < m) : LeW q n V (c + 1) (wtV n (opn q n c)) := by
  refine ⟨fun d h1 h2 h3 => ?_, .inr ⟨c, h0, by omega, hc, rfl⟩⟩
  by_cases e : d = c
  · rw [e]; exact Nat.le_refl _
  · have := h.1 d h1 (by omega) h3
    omega
theorem LeW.more {q n : Nat} {V : Nat → Bool} {c m : Nat} (h : LeW q n V c m) (hw : ¬ wtV n (opn q n c) < m) : LeW q n V (c + 1) m := by
  refine ⟨fun d h1 h2 h3 => ?_, h.2.imp id fun ⟨d, h1, h2, h3⟩ => ⟨d, h1, by omega, h3⟩⟩
  by_cases e : d = c
  · rw [e]; omega
  · exact h.1 d h1 (by omega) h3
theorem LeW.dual {q n : Nat} {ad mu : Nat → Nat → Nat} {ng : Nat → Nat} (h : FqR q ad mu ng) {S M : List (List Nat)} (hS : Rws q n S) (hM : BasIs q ad mu n (Nrm q ad mu n S) M) {V : Nat → Bool} (hV : ∀ c, c < q ^ n → (V c = true ↔ Spn q ad mu n M (opn q n c))) {t m : Nat}
    (hs : StrIs q n (rnL q ad mu n S) t) (hw : LeW q n V (q ^ n) m) : t = m - 1 ∧ 1 ≤ m ∧ m ≤ n + 1 := by
  have hne : ∀ d, 1 ≤ d → d < q ^ n → opn q n d ≠ zV n := fun d h1 h2 e => by
    have k := shu_opn (q := q) n d h2
    have k0 := shu_opn (q := q) n 0 (by omega)
    rw [e] at k
    rw [opn_null] at k0
    omega
  have hpos : ∀ v, Vc q n v → v ≠ zV n → 1 ≤ wtV n v := fun v hv hz => by
    refine Classical.byContradiction fun h0 => hz (zV_of hv.len fun j hj => Classical.byContradiction fun e => ?_)
    have hm : j ∈ (List.range n).filter fun j => v.getD j 0 != 0 := List.mem_filter.2 ⟨List.mem_range.2 hj, by simpa using e⟩
    have := List.length_pos_of_mem hm
    unfold wtV at h0
    omega
  have h1 : 1 ≤ m := by
    rcases hw.2 with e | ⟨d, k1, k2, _, e⟩
    · omega
    · rw [← e]; exact hpos _ (opn_vc h.pos n d) (hne d k1 k2)
  have hle : m ≤ n + 1 := by
    rcases hw.2 with e | ⟨d, k1, k2, _, e⟩
    · omega
    · have := wt_le n (opn q n d); omega
  refine ⟨dual_least h hS hs (fun v hv hz => ?_) (hw.2.imp id fun ⟨d, k1, k2, k3, e⟩ => ⟨opn q n d, (hM.same _).1 ((hV d k2).1 k3), hne d k1 k2, e⟩) h1, h1, hle⟩
  have hlt := shu_lt h.pos n v hv.1
  have ho := opn_shu h.pos n v hv.1
  have h0 : shu q v ≠ 0 := fun e => hz (by rw [← ho, e, opn_null])
  have k := hw.1 (shu q v) (by omega) hlt ((hV _ hlt).2 (by rw [ho]; exact (hM.same v).2 hv))
  rwa [ho] at k
end Go.Proofs.YtjfjdidibglhaabDoor

namespace Go.Proofs.YtjfjdidibglhaabDoor
open Go.RowKit

def Q35 (q : Nat) : Prop := q = 3 ∨ q = 4 ∨ q = 5
theorem made_T {P K : Nat} {l : List Int} (hG : Fd.GoodF P K l) (h3 : 3 ≤ P ^ K) (h5 : P ^ K ≤ 5) : Q35 (P ^ K) ∧ ∀ i, i < P ^ K - 1 → madeL P K l (i + 1) = (rqT (P ^ K)).map fun r => r.getD (i + 2) 0 := by
  have k := List.all_eq_true.1 f5_allT _ (good_fiveT hG h3 h5)
  unfold f5C at k
  simp only [Bool.and_eq_true, decide_eq_true_eq] at k
  refine ⟨k.1, fun i hi => ?_⟩
  have := List.all_eq_true.1 k.2 i (List.mem_range.2 hi)
  exact eq_of_beq this
/-- The squares, as lists that the kernel knows. -/
def sqT (q : Nat) : List (Int × List Int) := (List.range (q - 1)).map fun i => ((q : Int), ((rqT q).map fun r => r.getD (i + 2) 0).map Int.ofNat)
theorem qs_T {P K : Nat} {l : List Int} (hG : Fd.GoodF P K l) (h3 : 3 ≤ P ^ K) (h5 : P ^ K ≤ 5) : qsT P K l (P ^ K - 1) = sqT (P ^ K) := by
  unfold qsT sqT
  refine List.map_congr_left fun i hi => ?_
  rw [(made_T hG h3 h5).2 i (List.mem_range.1 hi)]
theorem rw_T {q : Nat} (h : Q35 q) : Ar.rwQ q (sqT q) = toZ (rqT q) := by
  rcases h with rfl | rfl | rfl <;> decide +kernel
theorem good_qs {P K : Nat} {l : List Int} (hG : Fd.GoodF P K l) (h2 : 2 ≤ P ^ K) (h7 : P ^ K ≤ 7) : Ar.GoodQ (P ^ K) (qsT P K l (P ^ K - 1)) where
  l1 := by unfold qsT; rw [List.length_map, List.length_range]; omega
  l6 := by unfold qsT; rw [List.length_map, List.length_range]; omega
  sq := fun s hs => by
    unfold qsT at hs
    obtain ⟨i, hi, rfl⟩ := List.mem_map.1 hs
    have hi := List.mem_range.1 hi
    exact ⟨rfl, fl_good (by omega) (by omega) (lat_F hG (by omega) (by omega))⟩
/-- What the kernel is asked of the runs. -/
def stT (q : Nat) : Bool := (rqT q).length == q * q && ((rqT q).all fun r => r.length == q + 1 && r.all fun x => decide (x < q)) && ((List.range (q + 1)).all fun d => (List.range d).all fun c => (rqT q).all fun x => (rqT q).countP (fun y => y.getD c 0 == x.getD c 0 && y.getD d 0 == x.getD d 0) * (q * q) == q * q)
theorem st_T {q : Nat} (h : Q35 q) : stT q = true := by
  rcases h with rfl | rfl | rfl <;> decide +kernel
theorem st_len {q : Nat} (h : Q35 q) : (rqT q).length = q * q := by
  have k := st_T h
  unfold stT at k
  simp only [Bool.and_eq_true] at k
  exact eq_of_beq k.1.1
theorem st_row {q : Nat} (h : Q35 q) {r : List Nat} (hr : r ∈ rqT q) : r.length = q + 1 ∧ ∀ x ∈ r, x < q := by
  have k := st_T h
  unfold stT at k
  simp only [Bool.and_eq_true] at k
  have k2 := List.all_eq_true.1 k.1.2 r hr
  simp only [Bool.and_eq_true] at k2
  exact ⟨eq_of_beq k2.1, fun x hx => by simpa using List.all_eq_true.1 k2.2 x hx⟩
theorem st_two {q : Nat} (h : Q35 q) {c d : Nat} (hcd : c < d) (hd : d < q + 1) {x : List Nat} (hx : x ∈ rqT q) : (rqT q).countP (fun y => y.getD c 0 == x.getD c 0 && y.getD d 0 == x.getD d 0) * (q * q) = q * q := by
  have k := st_T h
  unfold stT at k
  simp only [Bool.and_eq_true] at k
  exact eq_of_beq (List.all_eq_true.1 (List.all_eq_true.1 (List.all_eq_true.1 k.2 d (List.mem_range.2 hd)) c (List.mem_range.2 hcd)) x hx)
theorem good_T {q : Nat} (h : Q35 q) : GoodA q (q + 1) (toZ (rqT q)) where
  s2 := by rcases h with rfl | rfl | rfl <;> decide
  s64 := by rcases h with rfl | rfl | rfl <;> decide
  n1 := by rw [toZ_lenY, st_len h]; rcases h with rfl | rfl | rfl <;> decide
  n128 := by rw [toZ_lenY, st_len h]; rcases h with rfl | rfl | rfl <;> decide
  k1 := by omega
  k8 := by rcases h with rfl | rfl | rfl <;> decide
  len := fun l hl => by
    obtain ⟨r, hr, rfl⟩ := List.mem_map.1 hl
    rw [List.length_map]
    exact (st_row h hr).1
  bel := fun l hl j hj => by
    obtain ⟨r, hr, rfl⟩ := List.mem_map.1 hl
    have e : (r.map Int.ofNat).getD j 0 = ((r.getD j 0 : Nat) : Int) := by
      rw [List.getD_eq_getElem?_getD, List.getD_eq_getElem?_getD, List.getElem?_map]
      cases r[j]? <;> rfl
    have hj2 : j < r.length := by rw [(st_row h hr).1]; exact hj
    have := (st_row h hr).2 _ (List.getElem_mem hj2)
    rw [e, List.getD_eq_getElem?_getD, List.getElem?_eq_getElem hj2]
    simp only [Option.getD_some]
    omega
theorem str_T {q : Nat} (h : Q35 q) : StrIs q (q + 1) (rnA (toZ (rqT q))) 2 := by
  have hlen : (rnA (toZ (rqT q))).length = q * q := by rw [rnA_toZ, List.length_map, st_len h]
  have hl : Lvl q (q + 1) (rnA (toZ (rqT q))) := by
    intro x hx c hc
    rw [rnA_toZ] at hx
    obtain ⟨r, hr, rfl⟩ := List.mem_map.1 hx
    have hj2 : c < r.length := by rw [(st_row h hr).1]; exact hc
    have := (st_row h hr).2 _ (List.getElem_mem hj2)
    show r.getD c 0 < q
    rw [List.getD_eq_getElem?_getD, List.getElem?_eq_getElem hj2]
    exact this
  have h0 : 0 < q := by rcases h with rfl | rfl | rfl <;> decide
  have h2 : Str q (q + 1) (rnA (toZ (rqT q))) 2 := by
    refine str_rise fun cs inc hc hcl => ?_
    match cs, hcl with
    | [c, d], _ =>
      have hcd : c < d := by simpa using inc
      have hd := hc d (by simp)
      intro x hx
      rw [hlen]
      rw [rnA_toZ] at hx ⊢
      obtain ⟨r, hr, rfl⟩ := List.mem_map.1 hx
      have k := st_two h hcd hd hr
      unfold hit
      rw [List.countP_map]
      refine Eq.trans ?_ k
      congr 1
      · refine List.countP_congr fun y _ => ?_
        simp [mtc]
      · show q ^ 2 = q * q
        rw [Nat.pow_two]
  refine ⟨by omega, fun u hu => Str.low h0 hl (by omega) h2 u hu, fun _ h3 => ?_⟩
  have hp : 0 < (rnA (toZ (rqT q))).length := by rw [hlen]; exact Nat.mul_pos h0 h0
  obtain ⟨x, hx⟩ : ∃ x, x ∈ rnA (toZ (rqT q)) := ⟨_, List.getElem_mem hp⟩
  have k := h3 [0, 1, 2] ⟨by decide, fun c hc => by
    have : c ≤ 2 := by simp at hc; omega
    have : 3 ≤ q := by rcases h with rfl | rfl | rfl <;> decide
    omega⟩ rfl x hx
  rw [hlen] at k
  generalize hit (rnA (toZ (rqT q))) [0, 1, 2] x = t at k
  rcases h with rfl | rfl | rfl <;> simp at k <;> omega
/-- The block of a number in a column; the first blocks, column by column. -/
def bkT (q c x : Nat) : List Nat := (List.range (q * q)).filter fun i => ((rqT q).getD i []).getD c 0 == x
def bkI (q c x i : Nat) : List Nat := (List.range i).filter fun i => ((rqT q).getD i []).getD c 0 == x
def BLp (q m : Nat) : List (List Nat) := (List.range m).map fun m => bkT q (m / q) (m % q)
theorem BLp_len (q m : Nat) : (BLp q m).length = m := by simp [BLp]
theorem BLp_more {q c x : Nat} (hx : x < q) : BLp q (c * q + x + 1) = BLp q (c * q + x) ++ [bkT q c x] := by
  unfold BLp
  rw [List.range_succ, List.map_append, List.map_singleton]
  have e1 : (c * q + x) / q = c := by rw [Nat.mul_comm, Nat.mul_add_div (by omega), Nat.div_eq_of_lt hx]; omega
  have e2 : (c * q + x) % q = x := by rw [Nat.mul_comm, Nat.mul_add_mod, Nat.mod_eq_of_lt hx]
  rw [e1, e2]
theorem bkI_more (q c x i : Nat) : bkI q c x (i + 1) = bkI q c x i ++ if ((rqT q).getD i []).getD c 0 == x then [i] else [] := by
  unfold bkI
  rw [List.range_succ, List.filter_append]
  cases h : ((rqT q).getD i []).getD c 0 == x <;> simp [h, -List.getD_eq_getElem?_getD]
theorem bkI_len (q c x i : Nat) : (bkI q c x i).length ≤ i := by
  have := List.length_filter_le (fun i => ((rqT q).getD i []).getD c 0 == x) (List.range i)
  rwa [List.length_range] at this
theorem good_D {q : Nat} (h : Q35 q) : GoodD (q * q) (BLp q ((q + 1) * q)) where
  pos := by rcases h with rfl | rfl | rfl <;> decide
  le := by rcases h with rfl | rfl | rfl <;> decide
  few := by rw [BLp_len]; rcases h with rfl | rfl | rfl <;> decide
  rs := fun b hb => by
    obtain ⟨m, _, rfl⟩ := List.mem_map.1 hb
    exact rs_iff.2 ⟨List.Pairwise.filter _ List.pairwise_lt_range, fun x hx => ⟨Nat.zero_le _, List.mem_range.1 (List.mem_filter.1 hx).1⟩⟩
def lvT (q : Nat) : Bool := ((BLp q ((q + 1) * q)).all fun b => b.length == q) && (List.range (q * q)).all fun d => (List.range d).all fun c => (BLp q ((q + 1) * q)).countP (fun b => b.contains c && b.contains d) == 1
theorem lv_all {q : Nat} (h : Q35 q) : lvT q = true := by
  rcases h with rfl | rfl | rfl <;> decide +kernel
theorem lev_T {q : Nat} (h : Q35 q) : LvOk (q * q) (BLp q ((q + 1) * q)) 2 q 1 := by
  have k := lv_all h
  unfold lvT at k
  simp only [Bool.and_eq_true] at k
  refine ⟨fun e => ?_, fun b hb => eq_of_beq (List.all_eq_true.1 k.1 b hb), lev_of_rise fun s inc hs hl => ?_⟩
  · have := BLp_len q ((q + 1) * q)
    rw [e] at this
    rcases h with rfl | rfl | rfl <;> simp at this
  · match s, hl with
    | [c, d], _ =>
      have hcd : c < d := by simpa using inc
      have hd := hs d (by simp)
      have := eq_of_beq (List.all_eq_true.1 (List.all_eq_true.1 k.2 d (List.mem_range.2 hd)) c (List.mem_range.2 hcd))
      refine Eq.trans ?_ this
      unfold nb
      refine List.countP_congr fun b _ => ?_
      simp
end Go.Proofs.YtjfjdidibglhaabDoor
