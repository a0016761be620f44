/- The walks of Basis, Normal, Join, Meet and Has. -/
import Derived.Test.YtjfjdidibglhaabDoorW24
import Derived.Test.YtjfjdidibglhaabDoorSpI
import Derived.Test.YtjfjdidibglhaabDoorSpQ
import Derived.Test.YtjfjdidibglhaabDoorDOw
import Derived.Test.YtjfjdidibglhaabDoorYC1
import Derived.Deep.RegionHeld3
import Derived.WalkMore
import Derived.Shelf.Spec.SlicesGrow
import Derived.Maps.AppendAt
import Derived.Deep.AppendLies
import Derived.Deep.MidRow
import Derived.Test.YtjfjdidibglhaabDoorSpX
/- The walk of the room's normal. -/
/- The walk of the room's normalRow. -/
/- The walk of open: a room and lists of its rows. -/
/- The walk of the field's Check. -/
/- A room: a field that is one and a number of places; the walks of its order, times, plus and less. -/
namespace Go.Proofs.YtjfjdidibglhaabDoor.Fd
variable {P K : Nat} {m : Nat → Int}
end Go.Proofs.YtjfjdidibglhaabDoor.Fd
namespace Go.Proofs.YtjfjdidibglhaabDoor
open Go.RowKit

/-- A field that is one, in memory. -/
structure Fld (P K : Nat) (l : List Int) (v : Value) (w : World) : Prop where
  tab : Fd.Tab w
  sl : Fd.Sl w v l
  len : l.length ≤ maxLen
  good : Fd.GoodF P K l
theorem Fld.below {P K : Nat} {l : List Int} {v : Value} {w w' : World} (h : Fld P K l v w) (hb : Below w.heap.size w w') : Fld P K l v w' := ⟨h.tab.below hb, h.sl.below hb, h.len, h.good⟩
/-- A room by value. -/
abbrev rmV (P K : Nat) (v : Value) (n : Nat) : Value := .agg #[.int .i64 (P : Int), .int .i64 (K : Int), v, .int .i64 (n : Int)]
/-- A room in a box, as it is read later. -/
theorem rm_box (P K n : Nat) (v : Value) (w : World) : ∀ W, Below (w.alloc (.cells #[.int .i64 (P : Int), .int .i64 (K : Int), v, .int .i64 (n : Int)] 53)).heap.size (w.alloc (.cells #[.int .i64 (P : Int), .int .i64 (K : Int), v, .int .i64 (n : Int)] 53)) W →
    W.cell? ⟨w.heap.size, 0, none⟩ = some (.int .i64 (P : Int)) ∧ W.cell? ⟨w.heap.size, 1, none⟩ = some (.int .i64 (K : Int)) ∧ W.cell? ⟨w.heap.size, 2, none⟩ = some v ∧ W.cell? ⟨w.heap.size, 3, none⟩ = some (.int .i64 (n : Int)) := fun W b => by
  have k1 := (b.block w.heap.size (by simp)).trans (heap_alloc_new w (.cells #[.int .i64 (P : Int), .int .i64 (K : Int), v, .int .i64 (n : Int)] 53))
  exact ⟨by rw [cell_of_row _ _ _ _ _ _ k1]; rfl, by rw [cell_of_row _ _ _ _ _ _ k1]; rfl, by rw [cell_of_row _ _ _ _ _ _ k1]; rfl, by rw [cell_of_row _ _ _ _ _ _ k1]; rfl⟩
end Go.Proofs.YtjfjdidibglhaabDoor

/- The walks of the room's checkRows and of open. -/
/- The walks of the room's order, checkRow and checkRows. -/
namespace Go.Proofs.YtjfjdidibglhaabDoor
open Go.RowKit

set_option maxRecDepth 100000 in
set_option maxHeartbeats 2000000 in
theorem order_anyY (P K n : Nat) (l : List Int) (v : Value) (w : World) (hF : Fld P K l v w) (q : Nat) (hq : Hid (P ^ K = q)) :
    Calls Tryd.prog 49 #[rmV P K v n] w fun e w' => e = .returned (.int .i64 (q : Int)) ∧ Below w.heap.size w w' := by
  have hbx := balloc w (.cells #[.int .i64 (P : Int), .int .i64 (K : Int), v, .int .i64 (n : Int)] 53)
  obtain ⟨x0, x1, x2, x3⟩ := rm_box P K n v w _ (Below.refl _ _)
  have h61 := hF.good.le61
  have h6 := hF.good.le6
  have h64 := hF.good.le64
  have C := fun W => power_any P K W (by omega) (by omega) q (by
    show _ = _
    rw [cO_small (by omega)]; exact hq.out)
  obtain ⟨A, ca, rfl, _⟩ := id hF.sl
  clear h64 hq
  go_enter Tryd.func49, Tryd.ntmps49
  go_wp2_with (go_at_call 48; refine (C _).mono ?_; rintro e w1 ⟨rfl, h1⟩; replace h1 := h1.symm; subst h1)
  go_ret
  exact ⟨rfl, hbx⟩
end Go.Proofs.YtjfjdidibglhaabDoor

namespace Go.Proofs.YtjfjdidibglhaabDoor
open Go.RowKit

end Go.Proofs.YtjfjdidibglhaabDoor

namespace Go.Proofs.YtjfjdidibglhaabDoor.Fd
open Go.RowKit

theorem open_nilY {p k : Int} {l : List Int} {z : Int} (h : OpenIs p k l [] z) : FaultIs p k l z := by
  rcases h with ⟨_, h⟩ | ⟨_, h, _⟩ | ⟨h, _, rfl⟩
  · exact h
  · exact absurd (fun j hj => by simp at hj) h
  · exact h
set_option maxRecDepth 100000 in
set_option maxHeartbeats 1000000 in
theorem FCheck_any (p k : Int) (l : List Int) (v : Value) (w : World) (hT : Tab w) (hl : Sl w v l) (hll : l.length ≤ maxLen) :
    Calls Tryd.prog 47 #[.agg #[.int .i64 p, .int .i64 k, v]] w fun e w' => ∃ z : Int, e = .returned (.int .i64 z) ∧ FaultIs p k l z ∧ Below w.heap.size w w' := by
  obtain ⟨A, ca, rfl, _⟩ := id hl
  have hbx : Below w.heap.size w (w.alloc (.cells #[.int .i64 p, .int .i64 k, .slice A l.length ca] 24)) := (Below.refl _ _).alloc (Nat.le_refl _) _
  go_enter Tryd.func47, Tryd.ntmps47
  go_wp2_with fail
  refine (open_any p k l [] _ _ _ (hT.below hbx) (hl.below hbx) (Sl.nil _) hll (by simp)).mono ?_
  rintro e w1 ⟨z, x, y, c, f, rfl, hO, HZ, hb1⟩
  have hB1 : Below w.heap.size w w1 := hbx.trans (hb1.mono hbx.size)
  have HO : Hid (FaultIs p k l z) := open_nilY hO
  have hnew : RB (w1.alloc (.cells #[.int .i64 0, .int .i64 0, .int .i64 0, .int .i64 0, .int .i64 0, .int .i64 0, .int .i64 0, .int .i64 0, .int .i64 0, .int .i64 0, .int .i64 0, .int .i64 0, .int .i64 0, .int .i64 0] 105)) w1.heap.size 0 0 0 (fun _ => 0) := RB.made w1 0 0 0 (fun _ => 0)
  have hBA : Below w.heap.size w ((w1.alloc (.cells #[.int .i64 0, .int .i64 0, .int .i64 0, .int .i64 0, .int .i64 0, .int .i64 0, .int .i64 0, .int .i64 0, .int .i64 0, .int .i64 0, .int .i64 0, .int .i64 0, .int .i64 0, .int .i64 0] 105)).setRow w1.heap.size (ringRow x y c f)) := bsetRow (hB1.alloc hB1.size _) hB1.size _
  clear hO HZ
  go_wp2_with (first
    | (refine wpList_store_row rfl 105 _ _ rfl w1.heap.size _ rfl rfl 105 _ hnew (inf53 _ _ _ _) rfl (ringRow_one _ _ _ _) ?_))
  go_ret
  exact ⟨z, rfl, HO.out, hBA⟩
end Go.Proofs.YtjfjdidibglhaabDoor.Fd

namespace Go.Proofs.YtjfjdidibglhaabDoor
open Go.RowKit

/-- Some lists of rows. -/
def LsR (w : World) (u : Value) (vs : List Value) (rss : List (List (List Int))) : Prop :=
  ∃ b c, u = .slice (some ⟨b, 0, none⟩) rss.length c ∧ vs.length = rss.length ∧ ∀ (i : Nat) x rs, vs[i]? = some x → rss[i]? = some rs → w.cell? ⟨b, i, none⟩ = some x ∧ Rw w x rs ∧ rs.length ≤ maxLen ∧ ∀ r ∈ rs, r.length ≤ maxLen
theorem LsR.below {w w' : World} {u : Value} {vs : List Value} {rss : List (List (List Int))} (h : LsR w u vs rss) (hb : Below w.heap.size w w') : LsR w' u vs rss := by
  obtain ⟨b, c, e, h1, h2⟩ := h
  refine ⟨b, c, e, h1, fun i x rs hx hr => ?_⟩
  obtain ⟨h3, h4, h5⟩ := h2 i x rs hx hr
  exact ⟨(hb.cell (p := ⟨b, i, none⟩) (block_lt_of_cell h3)).trans h3, h4.below hb, h5⟩
/-- What open answers: what is wrong, and the room. -/
def OpA (z : Int) (rv : Value) (e : Ending) : Prop := ∃ (p k n : Int) (a : Option Addr) (m c : Nat), e = .returned (.tuple #[.agg #[.int .i64 p, .int .i64 k, .slice a m c, .int .i64 n], .int .i64 z]) ∧ (z = 0 → Value.agg #[.int .i64 p, .int .i64 k, .slice a m c, .int .i64 n] = rv)
theorem fl_box (p k : Int) (v : Value) (w : World) : ∀ W, Below (w.alloc (.cells #[.int .i64 p, .int .i64 k, v] 24)).heap.size (w.alloc (.cells #[.int .i64 p, .int .i64 k, v] 24)) W →
    W.cell? ⟨w.heap.size, 0, none⟩ = some (.int .i64 p) ∧ W.cell? ⟨w.heap.size, 1, none⟩ = some (.int .i64 k) ∧ W.cell? ⟨w.heap.size, 2, none⟩ = some v := fun W b => by
  have k1 := (b.block w.heap.size (by simp)).trans (heap_alloc_new w (.cells #[.int .i64 p, .int .i64 k, v] 24))
  exact ⟨by rw [cell_of_row _ _ _ _ _ _ k1]; rfl, by rw [cell_of_row _ _ _ _ _ _ k1]; rfl, by rw [cell_of_row _ _ _ _ _ _ k1]; rfl⟩
/-- The four cells of a room. -/
def rmC (p k : Int) (v : Value) (n : Int) : Array Value := #[.int .i64 p, .int .i64 k, v, .int .i64 n]
def RmB (w : World) (g : Nat) (p k : Int) (v : Value) (n : Int) : Prop := w.heap[g]? = some (.cells (rmC p k v n) 53 (0, 0))
theorem RmB.lt {w : World} {g : Nat} {p k n : Int} {v : Value} (h : RmB w g p k v n) : g < w.heap.size := (Array.getElem?_eq_some_iff.1 h).1
theorem RmB.below {w w' : World} {g : Nat} {p k n : Int} {v : Value} (h : RmB w g p k v n) (hb : Below w.heap.size w w') : RmB w' g p k v n := (hb.block g h.lt).trans h
theorem RmB.whole {w : World} {g : Nat} {p k n : Int} {v : Value} (h : RmB w g p k v n) (p' k' n' : Int) (v' : Value) : RmB (w.setRow g (rmC p' k' v' n')) g p' k' v' n' := setRow_heap w g _ _ _ _ h
theorem RmB.other {w : World} {g : Nat} {p k n : Int} {v : Value} (h : RmB w g p k v n) (j : Nat) (cs : Array Value) (hne : g ≠ j) : RmB (w.setRow j cs) g p k v n := (setRow_other w j g cs hne).trans h
set_option maxRecDepth 100000 in
theorem inf50 (p k n : Int) (v : Value) : (Tryd.prog.info? 53).map (·.size) = some (rmC p k v n).size := by kernel_rfl
theorem rmC_one (p k n : Int) (a : Option Addr) (m c : Nat) : (rmC p k (.slice a m c) n).all (·.oneCell') = true := by
  have h1 : ∀ z : Int, (Value.int .i64 z).oneCell' = true := fun _ => rfl
  have h2 : (Value.slice a m c).oneCell' = true := rfl
  simp [rmC, h1, h2]
set_option maxRecDepth 100000 in
theorem und50 : ∃ fs, Tryd.prog.underlying 53 = some (.struct fs) := by
  have h : (match Tryd.prog.underlying 53 with | some (.struct _) => true | _ => false) = true := by kernel_rfl
  split at h
  · exact ⟨_, by assumption⟩
  · cases h
set_option maxRecDepth 100000 in
theorem post_room {fn : Func} {R : Ending → World → Prop} {a : Act} {w : World} {g : Nat} {p k n z : Int} {v : Value} (hres : fn.results = #[.cell 6 53, .tmp 7])
    (hp : a.tmps.getD 6 undef = .pointer (some ⟨g, 0, none⟩)) (hz : a.tmps.getD 7 undef = .int .i64 z) (hr : RmB w g p k v n) (hd : a.defers = []) (hR : R (.returned (.tuple #[.agg (rmC p k v n), .int .i64 z])) w) : bodyPost Tryd.prog fn R .ret a w := by
  obtain ⟨fs, hu⟩ := und50
  refine bodyPost_ret ?_ hd hR
  have hp' : a.tmps[6]?.getD undef = .pointer (some ⟨g, 0, none⟩) := by simpa using hp
  have hz' : a.tmps[7]?.getD undef = .int .i64 z := by simpa using hz
  simp [results, hres, hp', hz', asAddr, run_loadVar_row w g 53 53 (rmC p k v n) (0, 0) _ hr hu rfl (inf50 p k n v)]
/-- The two boxes that open begins with. -/
theorem open_boxes (p k : Int) (v : Value) (w : World) : Below w.heap.size w ((w.alloc (.cells #[.int .i64 p, .int .i64 k, v] 24)).alloc (.cells #[.int .i64 0, .int .i64 0, .slice none 0 0, .int .i64 0] 53)) ∧
    RmB ((w.alloc (.cells #[.int .i64 p, .int .i64 k, v] 24)).alloc (.cells #[.int .i64 0, .int .i64 0, .slice none 0 0, .int .i64 0] 53)) (w.heap.size + 1) 0 0 (.slice none 0 0) 0 :=
  ⟨Below.next (balloc w _) (balloc _ _), heap_alloc2_new w _ _⟩
set_option maxRecDepth 100000 in
set_option maxHeartbeats 4000000 in
theorem open_fault (p k n z : Int) (l : List Int) (v u rv : Value) (w : World) (hT : Fd.Tab w) (hl : Fd.Sl w v l) (hll : l.length ≤ maxLen) (hz : Fd.FaultIs p k l z) (h0 : z ≠ 0) :
    Calls Tryd.prog 23 #[.agg #[.int .i64 p, .int .i64 k, v], .int .i64 n, u] w fun e w' => OpA z rv e ∧ Below w.heap.size w w' := by
  have b2 := balloc (w.alloc (.cells #[.int .i64 p, .int .i64 k, v] 24)) (.cells #[.int .i64 0, .int .i64 0, .slice none 0 0, .int .i64 0] 53)
  obtain ⟨b3, hr⟩ := open_boxes p k v w
  obtain ⟨x0, x1, x2⟩ := fl_box p k v w _ b2
  have C := Fd.FCheck_any p k l v _ (hT.below b3) (hl.below b3) hll
  have HZ : Hid (∀ y, Fd.FaultIs p k l y → y = z) := fun y hy => hy.one hz
  have hne : (z != 0) = true := by simpa using h0
  obtain ⟨A, ca, rfl, _⟩ := id hl
  obtain ⟨W, HW⟩ : ∃ W, Hid ((w.alloc (.cells #[.int .i64 p, .int .i64 k, .slice A l.length ca] 24)).alloc (.cells #[.int .i64 0, .int .i64 0, .slice none 0 0, .int .i64 0] 53) = W) := ⟨_, rfl⟩
  have HRM : Hid (∀ w1, Below W.heap.size W w1 → RmB w1 (w.heap.size + 1) 0 0 (.slice none 0 0) 0) := fun w1 b => by rw [HW.out] at hr; exact hr.below b
  have HB3 : Hid (Below w.heap.size w W) := by rw [← HW.out]; exact b3
  clear hr b3
  go_enter Tryd.func23, Tryd.ntmps23
  go_wp2_with (first
    | (go_at_call 47; refine C.mono ?_; rintro e w1 ⟨y, rfl, hy, b4⟩; obtain rfl := HZ.out y hy; rw [HW.out] at b4; clear C)
    | (refine wpList_store_row rfl 53 _ _ rfl (w.heap.size + 1) (rmC 0 0 (.slice none 0 0) 0) rfl rfl 53 _ (HRM.out w1 b4) (inf50 _ _ _ _) rfl (rmC_one _ _ _ _ _ _) ?_))
  refine post_room rfl rfl rfl ((HRM.out w1 b4).whole 0 0 0 (.slice none 0 0)) rfl ⟨⟨0, 0, 0, none, 0, 0, rfl, fun h => absurd h h0⟩, Fd.bsetRow (Below.next HB3.out b4) (by omega) _⟩
set_option maxRecDepth 100000 in
set_option maxHeartbeats 4000000 in
theorem open_farY (P K : Nat) (n : Int) (l : List Int) (v u rv : Value) (w : World) (hF : Fld P K l v w) (hn : ¬ (1 ≤ n ∧ n ≤ 6)) :
    Calls Tryd.prog 23 #[.agg #[.int .i64 (P : Int), .int .i64 (K : Int), v], .int .i64 n, u] w fun e w' => OpA 1 rv e ∧ Below w.heap.size w w' := by
  have b2 := balloc (w.alloc (.cells #[.int .i64 (P : Int), .int .i64 (K : Int), v] 24)) (.cells #[.int .i64 0, .int .i64 0, .slice none 0 0, .int .i64 0] 53)
  obtain ⟨b3, hr⟩ := open_boxes (P : Int) (K : Int) v w
  obtain ⟨x0, x1, x2⟩ := fl_box (P : Int) (K : Int) v w _ b2
  have C := Fd.FCheck_any (P : Int) (K : Int) l v _ (hF.tab.below b3) (hF.sl.below b3) hF.len
  have HZ : Hid (∀ y, Fd.FaultIs (P : Int) (K : Int) l y → y = 0) := fun y hy => hy.one hF.good.fault
  have HFl : Hid (∀ W, Below w.heap.size w W → Fld P K l v W) := fun W b => hF.below b
  have hbox := fl_box (P : Int) (K : Int) v w
  obtain ⟨A, ca, rfl, _⟩ := id hF.sl
  obtain ⟨W, HW⟩ : ∃ W, Hid ((w.alloc (.cells #[.int .i64 (P : Int), .int .i64 (K : Int), .slice A l.length ca] 24)).alloc (.cells #[.int .i64 0, .int .i64 0, .slice none 0 0, .int .i64 0] 53) = W) := ⟨_, rfl⟩
  have HRM : Hid (∀ w1, Below W.heap.size W w1 → RmB w1 (w.heap.size + 1) 0 0 (.slice none 0 0) 0) := fun w1 b => by rw [HW.out] at hr; exact hr.below b
  have HB3 : Hid (Below w.heap.size w W) := by rw [← HW.out]; exact b3
  have HBX : Hid (∀ w1, Below W.heap.size W w1 → w1.cell? ⟨w.heap.size, 0, none⟩ = some (.int .i64 (P : Int)) ∧ w1.cell? ⟨w.heap.size, 1, none⟩ = some (.int .i64 (K : Int)) ∧ w1.cell? ⟨w.heap.size, 2, none⟩ = some (.slice A l.length ca)) := fun w1 b => by
    rw [HW.out] at b2
    exact hbox w1 (Below.next b2 b)
  clear hr b3 hbox
  by_cases h1 : n < 1
  · have d1 : decide (n < 1) = true := by simpa using h1
    go_enter Tryd.func23, Tryd.ntmps23
    go_wp2_with (first
      | (go_at_call 47; refine C.mono ?_; rintro e w1 ⟨y, rfl, hy, b4⟩; obtain rfl := HZ.out y hy; rw [HW.out] at b4; obtain ⟨z0, z1, z2⟩ := HBX.out w1 b4; clear C)
      | (refine wpList_store_row rfl 53 _ _ rfl (w.heap.size + 1) (rmC 0 0 (.slice none 0 0) 0) rfl rfl 53 _ (HRM.out w1 b4) (inf50 _ _ _ _) rfl (rmC_one _ _ _ _ _ _) ?_))
    refine post_room rfl rfl rfl ((HRM.out w1 b4).whole 0 0 0 (.slice none 0 0)) rfl ⟨⟨0, 0, 0, none, 0, 0, rfl, fun h => absurd h (by decide)⟩, Fd.bsetRow (Below.next HB3.out b4) (by omega) _⟩
  · have d1 : decide (n < 1) = false := by simpa using h1
    have d2 : decide (6 < n) = true := by simp; omega
    go_enter Tryd.func23, Tryd.ntmps23
    go_wp2_with (first
      | (go_at_call 47; refine C.mono ?_; rintro e w1 ⟨y, rfl, hy, b4⟩; obtain rfl := HZ.out y hy; rw [HW.out] at b4; obtain ⟨z0, z1, z2⟩ := HBX.out w1 b4; clear C)
      | (refine wpList_store_row rfl 53 _ _ rfl (w.heap.size + 1) (rmC 0 0 (.slice none 0 0) 0) rfl rfl 53 _ (HRM.out w1 b4) (inf50 _ _ _ _) rfl (rmC_one _ _ _ _ _ _) ?_))
    refine post_room rfl rfl rfl ((HRM.out w1 b4).whole 0 0 0 (.slice none 0 0)) rfl ⟨⟨0, 0, 0, none, 0, 0, rfl, fun h => absurd h (by decide)⟩, Fd.bsetRow (Below.next HB3.out b4) (by omega) _⟩
theorem RmB.cells {w : World} {g : Nat} {p k n : Int} {v : Value} (h : RmB w g p k v n) : w.cell? ⟨g, 0, none⟩ = some (.int .i64 p) ∧ w.cell? ⟨g, 1, none⟩ = some (.int .i64 k) ∧ w.cell? ⟨g, 2, none⟩ = some v ∧ w.cell? ⟨g, 3, none⟩ = some (.int .i64 n) :=
  ⟨by rw [cell_of_row _ _ _ _ _ _ h]; rfl, by rw [cell_of_row _ _ _ _ _ _ h]; rfl, by rw [cell_of_row _ _ _ _ _ _ h]; rfl, by rw [cell_of_row _ _ _ _ _ _ h]; rfl⟩
theorem rm_made (w : World) : RmB (w.alloc (.cells #[.int .i64 0, .int .i64 0, .slice none 0 0, .int .i64 0] 53)) w.heap.size 0 0 (.slice none 0 0) 0 := heap_alloc_new w _
set_option maxRecDepth 100000 in
set_option maxHeartbeats 8000000 in
theorem open_full (P K n : Nat) (l : List Int) (v u rv : Value) (w : World) (hF : Fld P K l v w) (h1 : 1 ≤ n) (h6 : n ≤ 6) (hf : 4096 < (P ^ K) ^ n) :
    Calls Tryd.prog 23 #[.agg #[.int .i64 (P : Int), .int .i64 (K : Int), v], .int .i64 (n : Int), u] w fun e w' => OpA 3 rv e ∧ Below w.heap.size w w' := by
  have b2 := balloc (w.alloc (.cells #[.int .i64 (P : Int), .int .i64 (K : Int), v] 24)) (.cells #[.int .i64 0, .int .i64 0, .slice none 0 0, .int .i64 0] 53)
  obtain ⟨b3, hr⟩ := open_boxes (P : Int) (K : Int) v w
  obtain ⟨x0, x1, x2⟩ := fl_box (P : Int) (K : Int) v w _ b2
  have C := Fd.FCheck_any (P : Int) (K : Int) l v _ (hF.tab.below b3) (hF.sl.below b3) hF.len
  have HZ : Hid (∀ y, Fd.FaultIs (P : Int) (K : Int) l y → y = 0) := fun y hy => hy.one hF.good.fault
  have HFl : Hid (∀ W, Below w.heap.size w W → Fld P K l v W) := fun W b => hF.below b
  have hbox := fl_box (P : Int) (K : Int) v w
  obtain ⟨A, ca, rfl, _⟩ := id hF.sl
  obtain ⟨W, HW⟩ : ∃ W, Hid ((w.alloc (.cells #[.int .i64 (P : Int), .int .i64 (K : Int), .slice A l.length ca] 24)).alloc (.cells #[.int .i64 0, .int .i64 0, .slice none 0 0, .int .i64 0] 53) = W) := ⟨_, rfl⟩
  have HRM : Hid (∀ w1, Below W.heap.size W w1 → RmB w1 (w.heap.size + 1) 0 0 (.slice none 0 0) 0) := fun w1 b => by rw [HW.out] at hr; exact hr.below b
  have HB3 : Hid (Below w.heap.size w W) := by rw [← HW.out]; exact b3
  have HBX : Hid (∀ w1, Below W.heap.size W w1 → w1.cell? ⟨w.heap.size, 0, none⟩ = some (.int .i64 (P : Int)) ∧ w1.cell? ⟨w.heap.size, 1, none⟩ = some (.int .i64 (K : Int)) ∧ w1.cell? ⟨w.heap.size, 2, none⟩ = some (.slice A l.length ca)) := fun w1 b => by
    rw [HW.out] at b2
    exact hbox w1 (Below.next b2 b)
  clear hr b3 hbox
  have d1 : decide ((n : Int) < 1) = false := by simp; omega
  have d1n : decide (n < 1) = false := by simp; omega
  have d2 : decide ((6 : Int) < (n : Int)) = false := by simp; omega
  have d2n : decide (6 < n) = false := by simp; omega
  obtain ⟨q, Hq⟩ : ∃ q, Hid (P ^ K = q) := ⟨_, rfl⟩
  have HO : Hid (∀ W, Below w.heap.size w W → Calls Tryd.prog 49 #[rmV P K (.slice A l.length ca) n] W fun e w' => e = .returned (.int .i64 (q : Int)) ∧ Below W.heap.size W w') := fun W b => order_anyY P K n l _ W (HFl.out W b) q Hq
  obtain ⟨s, Hs⟩ : ∃ s, Hid (cO (q ^ n) = s) := ⟨_, rfl⟩
  have hq64 : q ≤ 64 := by rw [← Hq.out]; exact hF.good.le64
  have CP := fun W => power_any q n W hq64 (by omega) s Hs
  have hs4 : 4096 < s := by
    rw [Hq.out] at hf
    rw [← Hs.out]; unfold cO; omega
  have d3 : decide ((4096 : Int) < (s : Int)) = true := by simp; omega
  clear hF hf
  go_enter Tryd.func23, Tryd.ntmps23
  go_wp2_with (first
    | (go_at_call 47; refine C.mono ?_; rintro e w1 ⟨y, rfl, hy, b4⟩; obtain rfl := HZ.out y hy; rw [HW.out] at b4; obtain ⟨z0, z1, z2⟩ := HBX.out w1 b4; clear C)
    | (refine wpList_store_row rfl 53 _ _ rfl w1.heap.size (rmC P K (.slice A l.length ca) n) rfl rfl 53 _ (rm_made w1) (inf50 _ _ _ _) rfl (rmC_one _ _ _ _ _ _) ?_; have r2 := (rm_made w1).whole P K n (.slice A l.length ca); have b5 : Below W.heap.size W ((w1.alloc (.cells #[.int .i64 0, .int .i64 0, .slice none 0 0, .int .i64 0] 53)).setRow w1.heap.size (rmC P K (.slice A l.length ca) n)) := Fd.bsetRow (b4.alloc b4.size _) b4.size _; revert r2 b5; generalize ((w1.alloc (.cells #[.int .i64 0, .int .i64 0, .slice none 0 0, .int .i64 0] 53)).setRow w1.heap.size (rmC P K (.slice A l.length ca) n)) = W2; intro r2 b5; obtain ⟨c0, c1, c2, c3⟩ := r2.cells)
    | (go_at_call 49; refine (HO.out W2 (Below.next HB3.out b5)).mono ?_; rintro e w3 ⟨rfl, b6⟩)
    | (go_at_call 48; refine (CP _).mono ?_; rintro e w4 ⟨rfl, h4⟩; replace h4 := h4.symm; subst h4)
    | (refine wpList_store_row rfl 53 _ _ rfl (w.heap.size + 1) (rmC 0 0 (.slice none 0 0) 0) rfl rfl 53 _ (HRM.out w3 (Below.next b5 b6)) (inf50 _ _ _ _) rfl (rmC_one _ _ _ _ _ _) ?_))
  refine post_room rfl rfl rfl ((HRM.out w3 (Below.next b5 b6)).whole 0 0 0 (.slice none 0 0)) rfl ⟨⟨0, 0, 0, none, 0, 0, rfl, fun h => absurd h (by decide)⟩, Fd.bsetRow (Below.next HB3.out (Below.next b5 b6)) (by omega) _⟩
end Go.Proofs.YtjfjdidibglhaabDoor

/- Rows of one's own in blocks of their own; the walks of the library's Clone and IndexFunc at rows, and of lead. -/
namespace Go.Proofs.YtjfjdidibglhaabDoor
open Go.RowKit

def swpI (A : Nat → Nat → Int) (a k : Nat) : Nat → Nat → Int := fun i => if i = a then A k else if i = k then A a else A i
/-! ### Rows in memory -/
/-- Block g holds R slices, each of a row of its own of n numbers. -/
structure Mat (w : World) (base g R n : Nat) (B cp : Nat → Nat) (A : Nat → Nat → Int) : Prop where
  out : ∃ cur, w.heap[g]? = some (.cells cur 22 (0, 0)) ∧ ∀ i, i < R → cur[i]? = some (.slice (some ⟨B i, 0, none⟩) n (cp i))
  row : ∀ i, i < R → Own w (B i) n (A i)
  sep : ∀ i j, i < R → j < R → B i = B j → i = j
  lo : ∀ i, i < R → base ≤ B i ∧ B i ≠ g
theorem Mat.hd {w : World} {base g R n : Nat} {B cp : Nat → Nat} {A : Nat → Nat → Int} (h : Mat w base g R n B cp A) {i : Nat} (hi : i < R) : w.cell? ⟨g, i, none⟩ = some (.slice (some ⟨B i, 0, none⟩) n (cp i)) := by
  obtain ⟨cur, h1, h2⟩ := h.out
  rw [cell_of_row w g i _ _ _ h1, h2 i hi]
theorem Mat.cell {w : World} {base g R n : Nat} {B cp : Nat → Nat} {A : Nat → Nat → Int} (h : Mat w base g R n B cp A) {i j : Nat} (hi : i < R) (hj : j < n) : w.cell? ⟨B i, j, none⟩ = some (.int .i64 (A i j)) := (h.row i hi).cell j hj
theorem Mat.frozen {w : World} {base g R n : Nat} {B cp : Nat → Nat} {A : Nat → Nat → Int} (h : Mat w base g R n B cp A) {i : Nat} (hi : i < R) (j : Nat) : w.frozen? ⟨B i, j, none⟩ = false := (h.row i hi).frozen j
theorem Mat.congr {w : World} {base g R n : Nat} {B cp : Nat → Nat} {A A' : Nat → Nat → Int} (h : Mat w base g R n B cp A) (e : ∀ i j, i < R → j < n → A i j = A' i j) : Mat w base g R n B cp A' :=
  ⟨h.out, fun i hi => (h.row i hi).congr (fun j hj => e i j hi hj), h.sep, h.lo⟩
theorem Mat.drew {w : World} {base g R n : Nat} {B cp : Nat → Nat} {A : Nat → Nat → Int} (h : Mat w base g R n B cp A) : Mat w.drew base g R n B cp A := ⟨h.out, h.row, h.sep, h.lo⟩
theorem Mat.glt {w : World} {base g R n : Nat} {B cp : Nat → Nat} {A : Nat → Nat → Int} (h : Mat w base g R n B cp A) : g < w.heap.size := by
  obtain ⟨cur, h1, _⟩ := h.out
  exact (Array.getElem?_eq_some_iff.1 h1).1
theorem Mat.set {w : World} {base g R n : Nat} {B cp : Nat → Nat} {A : Nat → Nat → Int} (h : Mat w base g R n B cp A) {i : Nat} (hi : i < R) (j : Nat) (v : Int) :
    Mat (w.setCell ⟨B i, j, none⟩ (.int .i64 v)) base g R n B cp (fun r => if r = i then upd (A r) j v else A r) := by
  obtain ⟨cur, h1, h2⟩ := h.out
  refine ⟨⟨cur, (heap_setCell_other w _ g _ (fun e => (h.lo i hi).2 e.symm)).trans h1, h2⟩, fun r hr => ?_, h.sep, h.lo⟩
  by_cases e : r = i
  · subst e
    rw [if_pos rfl]
    exact (h.row r hr).set j v
  · rw [if_neg e]
    exact (h.row r hr).other _ _ (fun e' => e (h.sep r i hr hi e'))
/-- Blocks that stay as they were. -/
theorem Mat.kept {w w' : World} {base g R n : Nat} {B cp : Nat → Nat} {A : Nat → Nat → Int} (h : Mat w base g R n B cp A) (hk : ∀ k, (k = g ∨ ∃ i, i < R ∧ k = B i) → w'.heap[k]? = w.heap[k]?) : Mat w' base g R n B cp A := by
  obtain ⟨cur, h1, h2⟩ := h.out
  refine ⟨⟨cur, (hk g (.inl rfl)).trans h1, h2⟩, fun i hi => ?_, h.sep, h.lo⟩
  obtain ⟨c, h3, h4⟩ := h.row i hi
  exact ⟨c, (hk _ (.inr ⟨i, hi, rfl⟩)).trans h3, h4⟩
theorem Mat.swap {w : World} {base g R n : Nat} {B cp : Nat → Nat} {A : Nat → Nat → Int} (h : Mat w base g R n B cp A) {a k : Nat} (ha : a < R) (hk : k < R) :
    Mat ((w.setCell ⟨g, a, none⟩ (.slice (some ⟨B k, 0, none⟩) n (cp k))).setCell ⟨g, k, none⟩ (.slice (some ⟨B a, 0, none⟩) n (cp a))) base g R n
      (fun i => if i = a then B k else if i = k then B a else B i) (fun i => if i = a then cp k else if i = k then cp a else cp i) (swpI A a k) := by
  obtain ⟨cur, h1, h2⟩ := h.out
  have hB : ∀ i, i < R → ∃ i', i' < R ∧ (if i = a then B k else if i = k then B a else B i) = B i' ∧ swpI A a k i = A i' ∧ (i = a ∧ i' = k ∨ i ≠ a ∧ i = k ∧ i' = a ∨ i ≠ a ∧ i ≠ k ∧ i' = i) := by
    intro i hi
    unfold swpI
    by_cases e1 : i = a
    · exact ⟨k, hk, by rw [if_pos e1], by rw [if_pos e1], .inl ⟨e1, rfl⟩⟩
    · by_cases e2 : i = k
      · exact ⟨a, ha, by rw [if_neg e1, if_pos e2], by rw [if_neg e1, if_pos e2], .inr (.inl ⟨e1, e2, rfl⟩)⟩
      · exact ⟨i, hi, by rw [if_neg e1, if_neg e2], by rw [if_neg e1, if_neg e2], .inr (.inr ⟨e1, e2, rfl⟩)⟩
  refine ⟨⟨_, heap_setCell_same _ _ _ _ _ _ (heap_setCell_same _ _ _ _ _ _ h1), fun i hi => ?_⟩, fun i hi => ?_, fun i j hi hj e => ?_, fun i hi => ?_⟩
  · have hs : i < cur.size := (Array.getElem?_eq_some_iff.1 (h2 i hi)).1
    rw [Array.getElem?_setIfInBounds, Array.getElem?_setIfInBounds]
    by_cases e2 : k = i
    · subst e2
      rw [if_pos rfl, if_pos (by simp [hs])]
      by_cases e1 : k = a
      · subst e1; simp
      · simp [e1]
    · rw [if_neg e2]
      by_cases e1 : a = i
      · subst e1; rw [if_pos rfl, if_pos hs]; simp
      · rw [if_neg e1, h2 i hi]; simp [Ne.symm e1, Ne.symm e2]
  · obtain ⟨i', hi', e1, e2, _⟩ := hB i hi
    rw [e1, e2]
    exact ((h.row i' hi').other _ _ (h.lo i' hi').2).other _ _ (h.lo i' hi').2
  · obtain ⟨i', hi', e1, _, c1⟩ := hB i hi
    obtain ⟨j', hj', e2, _, c2⟩ := hB j hj
    have e' : (if i = a then B k else if i = k then B a else B i) = (if j = a then B k else if j = k then B a else B j) := e
    rw [e1, e2] at e'
    have := h.sep i' j' hi' hj' e'
    omega
  · obtain ⟨i', hi', e1, _, _⟩ := hB i hi
    show base ≤ (if i = a then B k else if i = k then B a else B i) ∧ (if i = a then B k else if i = k then B a else B i) ≠ g
    rw [e1]
    exact h.lo i' hi'
end Go.Proofs.YtjfjdidibglhaabDoor

/- The walk of the room's clear. -/
namespace Go.Proofs.YtjfjdidibglhaabDoor
open Go.RowKit

/-- All blocks stay but some. -/
structure KpX (X : Nat → Prop) (w w' : World) : Prop where
  os : w'.os = w.os
  tape : w'.tape = w.tape
  output : w'.output = w.output
  size : w.heap.size ≤ w'.heap.size
  block : ∀ k, k < w.heap.size → ¬ X k → w'.heap[k]? = w.heap[k]?
theorem KpX.refl (X : Nat → Prop) (w : World) : KpX X w w := ⟨rfl, rfl, rfl, Nat.le_refl _, fun _ _ _ => rfl⟩
theorem KpX.trans {X : Nat → Prop} {a b c : World} (h : KpX X a b) (k : KpX X b c) : KpX X a c :=
  ⟨k.os.trans h.os, k.tape.trans h.tape, k.output.trans h.output, Nat.le_trans h.size k.size, fun i hi hx => (k.block i (Nat.lt_of_lt_of_le hi h.size) hx).trans (h.block i hi hx)⟩
theorem KpX.of {X : Nat → Prop} {w w' : World} (h : Below w.heap.size w w') : KpX X w w' := ⟨h.os, h.tape, h.output, h.size, fun k hk _ => h.block k hk⟩
theorem KpX.set {X : Nat → Prop} {a w : World} (h : KpX X a w) {p : Addr} (hp : X p.block) (u : Value) : KpX X a (w.setCell p u) :=
  h.trans ⟨rfl, rfl, rfl, by simp [World.setCell], fun k _ hx => Below.heap_setCell _ _ _ _ (fun e => hx (by rw [e]; exact hp))⟩
theorem KpX.drew {X : Nat → Prop} {a w : World} (h : KpX X a w) : KpX X a w.drew := ⟨h.os, h.tape, h.output, h.size, h.block⟩
theorem KpX.below {X : Nat → Prop} {base : Nat} {a b c : World} (h : Below base a b) (k : KpX X b c) (hX : ∀ i, X i → base ≤ i) (hb : base ≤ b.heap.size) : Below base a c :=
  ⟨k.os.trans h.os, k.tape.trans h.tape, k.output.trans h.output, Nat.le_trans h.size k.size, fun i hi => (k.block i (by omega) (fun hx => by have := hX i hx; omega)).trans (h.block i hi)⟩
theorem KpX.mono {X Y : Nat → Prop} {w w' : World} (h : KpX X w w') (k : ∀ i, X i → Y i) : KpX Y w w' := ⟨h.os, h.tape, h.output, h.size, fun i hi hy => h.block i hi fun hx => hy (k i hx)⟩
/-- The rows' own blocks. -/
def RwX (R : Nat) (B : Nat → Nat) (k : Nat) : Prop := ∃ i, i < R ∧ k = B i
theorem Mat.below {w w' : World} {base g R n : Nat} {B cp : Nat → Nat} {A : Nat → Nat → Int} (h : Mat w base g R n B cp A) (hb : Below w.heap.size w w') : Mat w' base g R n B cp A :=
  h.kept fun k hk => hb.block k (by
    rcases hk with rfl | ⟨i, hi, rfl⟩
    · exact h.glt
    · exact (h.row i hi).lt)
section
variable {ad mu : Nat → Nat → Nat} {ng : Nat → Nat} {M : Nat → Nat → Nat} {t c : Nat}
end
end Go.Proofs.YtjfjdidibglhaabDoor

/- The walk of the room's basis. -/
namespace Go.Proofs.YtjfjdidibglhaabDoor
open Go.RowKit

theorem run_makeR (n : Nat) (hn : n ≤ 100000) (w : World) : (Instr.makeSlice 25 (.int .i64 (n : Int)) (.int .i64 (n : Int))).run Tryd.prog w = .ok (.slice (some ⟨w.heap.size, 0, none⟩) n n) (w.alloc (.cells (madeCells #[.slice none 0 0] n) 22)) := by
  obtain ⟨i4, hi, hz0, hz1, hz2⟩ := info36
  have h := run_make (P := Tryd.prog) w 25 22 i4 (.slice none 0 0) undR hi hz0 .i64 .i64 n n (by omega) (by omega) (by rw [hz2]; omega) (by omega)
  simpa [hz1, Value.cells] using h
/-- A block of R slices, of which some are rows of one's own. -/
def Rm (w : World) (g R : Nat) : Prop := ∃ cur, w.heap[g]? = some (.cells cur 22 (0, 0)) ∧ cur.size = R
theorem Rm.lt {w : World} {g R : Nat} (h : Rm w g R) : g < w.heap.size := by obtain ⟨c, h, _⟩ := h; exact (Array.getElem?_eq_some_iff.1 h).1
theorem Rm.below {w w' : World} {g R : Nat} (h : Rm w g R) (b : Below w.heap.size w w') : Rm w' g R := by
  have := h.lt
  obtain ⟨c, h, e⟩ := h
  exact ⟨c, (b.block g this).trans h, e⟩
theorem Rm.set {w : World} {g R : Nat} (h : Rm w g R) (i : Nat) (u : Value) : Rm (w.setCell ⟨g, i, none⟩ u) g R := by
  obtain ⟨c, h, e⟩ := h
  exact ⟨_, heap_setCell_same w g i _ _ _ h, by simpa using e⟩
theorem Rm.cell {w : World} {g R : Nat} (h : Rm w g R) {i : Nat} (hi : i < R) : ∃ u, w.cell? ⟨g, i, none⟩ = some u := by
  obtain ⟨c, h, e⟩ := h
  refine ⟨c[i]'(by omega), ?_⟩
  rw [cell_of_row w g i _ _ _ h]
  simp [show i < c.size by omega]
theorem Rm.frozen {w : World} {g R : Nat} (h : Rm w g R) (i : Nat) : w.frozen? ⟨g, i, none⟩ = false := by
  obtain ⟨c, h, e⟩ := h
  exact frozen_of_row w g i _ _ h
/-- One row more. -/
theorem Mat.more {w : World} {base g R n i b cap : Nat} {B cp : Nat → Nat} {A : Nat → Nat → Int} (h : Mat w base g i n B cp A) (hr : Rm w g R) (hi : i < R) (ho : Own w b n (A i)) (hb : base ≤ b) (hg : b ≠ g) (hn : ∀ j, j < i → B j ≠ b) :
    Mat (w.setCell ⟨g, i, none⟩ (.slice (some ⟨b, 0, none⟩) n cap)) base g (i + 1) n (fun k => if k = i then b else B k) (fun k => if k = i then cap else cp k) A := by
  obtain ⟨cur, h1, h2⟩ := h.out
  obtain ⟨cur', h1', hs⟩ := hr
  rw [h1] at h1'
  obtain rfl : cur = cur' := by simpa using h1'
  refine ⟨⟨_, heap_setCell_same _ _ _ _ _ _ h1, fun k hk => ?_⟩, fun k hk => ?_, fun k m hk hm e => ?_, fun k hk => ?_⟩
  · rw [Array.getElem?_setIfInBounds]
    by_cases e : i = k
    · subst e
      rw [if_pos rfl, if_pos (by omega)]
      simp
    · rw [if_neg e, h2 k (by omega)]
      simp [Ne.symm e]
  · show Own _ (if k = i then b else B k) n (A k)
    by_cases e : k = i
    · rw [if_pos e, e]
      exact ho.other _ _ hg
    · rw [if_neg e]
      exact (h.row k (by omega)).other _ _ (h.lo k (by omega)).2
  · have e' : (if k = i then b else B k) = (if m = i then b else B m) := e
    by_cases e1 : k = i
    · by_cases e2 : m = i
      · omega
      · rw [if_pos e1, if_neg e2] at e'
        exact absurd e'.symm (hn m (by omega))
    · by_cases e2 : m = i
      · rw [if_neg e1, if_pos e2] at e'
        exact absurd e' (hn k (by omega))
      · rw [if_neg e1, if_neg e2] at e'
        exact h.sep k m (by omega) (by omega) e'
  · show base ≤ (if k = i then b else B k) ∧ (if k = i then b else B k) ≠ g
    by_cases e : k = i
    · rw [if_pos e]; exact ⟨hb, hg⟩
    · rw [if_neg e]; exact h.lo k (by omega)
/-- The row's block is none of a room's. -/
theorem Mat.apart {w : World} {base g R n b : Nat} {B cp : Nat → Nat} {A : Nat → Nat → Int} {p k m : Int} {v : Value} (h : Mat w base g R n B cp A) (hr : RmB w b p k v m) : ¬ RwX R B b := fun ⟨i, hi, e⟩ => by
  obtain ⟨cur, h1, _⟩ := h.row i hi
  rw [← e, hr] at h1
  simp at h1
end Go.Proofs.YtjfjdidibglhaabDoor

namespace Go.Proofs.YtjfjdidibglhaabDoor
open Go.RowKit

/-- A row of one's own, whole. -/
def OwnN (w : World) (g n : Nat) (f : Nat → Nat) : Prop := ∃ cur, w.heap[g]? = some (.cells cur 3 (0, 0)) ∧ cur.size = n ∧ ∀ j, j < n → cur[j]? = some (.int .i64 (f j : Int))
theorem OwnN.lt {w : World} {g n : Nat} {f : Nat → Nat} (h : OwnN w g n f) : g < w.heap.size := by obtain ⟨c, h, _⟩ := h; exact (Array.getElem?_eq_some_iff.1 h).1
theorem OwnN.below {w w' : World} {g n : Nat} {f : Nat → Nat} (h : OwnN w g n f) (b : Below w.heap.size w w') : OwnN w' g n f := by
  have := h.lt
  obtain ⟨c, h, e⟩ := h
  exact ⟨c, (b.block g this).trans h, e⟩
theorem OwnN.cell {w : World} {g n : Nat} {f : Nat → Nat} (h : OwnN w g n f) {j : Nat} (hj : j < n) : w.cell? ⟨g, j, none⟩ = some (.int .i64 (f j : Int)) := by
  obtain ⟨c, h, _, e⟩ := h
  rw [cell_of_row w g j _ _ _ h, e j hj]
theorem OwnN.frozen {w : World} {g n : Nat} {f : Nat → Nat} (h : OwnN w g n f) (j : Nat) : w.frozen? ⟨g, j, none⟩ = false := by
  obtain ⟨c, h, _⟩ := h
  exact frozen_of_row w g j _ _ h
theorem OwnN.set {w : World} {g n : Nat} {f f' : Nat → Nat} (h : OwnN w g n f) (i v : Nat) (e : ∀ j, j < n → (if j = i then v else f j) = f' j) : OwnN (w.setCell ⟨g, i, none⟩ (.int .i64 (v : Int))) g n f' := by
  obtain ⟨c, h, hs, hc⟩ := h
  refine ⟨_, heap_setCell_same w g i _ _ _ h, by simpa using hs, fun j hj => ?_⟩
  rw [Array.getElem?_setIfInBounds, ← e j hj]
  by_cases e1 : i = j
  · subst e1; rw [if_pos rfl, if_pos (by omega), if_pos rfl]
  · rw [if_neg e1, if_neg (fun h => e1 h.symm), hc j hj]
theorem OwnN.drew {w : World} {g n : Nat} {f : Nat → Nat} (h : OwnN w g n f) : OwnN w.drew g n f := h
end Go.Proofs.YtjfjdidibglhaabDoor

namespace Go.Proofs.YtjfjdidibglhaabDoor
open Go.RowKit

end Go.Proofs.YtjfjdidibglhaabDoor

/- The walks of has, Basis, Normal, Join, Meet and Has. -/
/- The library's Grow by its contract, and the walk of its Concat, at rows. -/
namespace Go.Proofs.YtjfjdidibglhaabDoor
open Go.Shelf Go.RowKit Go.Maps

/-- Headers of rows. -/
def HdR (w : World) (us : List Value) (ls : List (List Int)) : Prop := us.length = ls.length ∧ ∀ (i : Nat) l, ls[i]? = some l → ∃ u, us[i]? = some u ∧ Sl w u l
theorem HdR.append {w : World} {us vs : List Value} {ls ms : List (List Int)} (h : HdR w us ls) (k : HdR w vs ms) : HdR w (us ++ vs) (ls ++ ms) := by
  refine ⟨by rw [List.length_append, List.length_append, h.1, k.1], fun i l hl => ?_⟩
  by_cases hi : i < ls.length
  · rw [List.getElem?_append_left hi] at hl
    rw [List.getElem?_append_left (by rw [h.1]; exact hi)]
    exact h.2 i l hl
  · rw [List.getElem?_append_right (by omega)] at hl
    rw [List.getElem?_append_right (by rw [h.1]; omega), h.1]
    exact k.2 _ l hl
theorem HdR.one {w : World} {us : List Value} {ls : List (List Int)} (h : HdR w us ls) : ∀ u ∈ us, u.oneCell' = true := fun u hu => by
  obtain ⟨i, hi, rfl⟩ := List.getElem_of_mem hu
  have hi' : i < ls.length := by rw [← h.1]; exact hi
  obtain ⟨u', h1, a, c, e, _⟩ := h.2 i ls[i] (List.getElem?_eq_getElem hi')
  rw [List.getElem?_eq_getElem hi] at h1
  rw [Option.some.inj h1, e]
  rfl
end Go.Proofs.YtjfjdidibglhaabDoor

namespace Go.Proofs.YtjfjdidibglhaabDoor
open Go.RowKit

theorem toZ_lenY (A : List (List Nat)) : (toZ A).length = A.length := by simp [toZ]
end Go.Proofs.YtjfjdidibglhaabDoor

namespace Go.Proofs.YtjfjdidibglhaabDoor
open Go.RowKit

/-- What open answers in each later world. -/
def OpC (p k n : Int) (v : Value) (vs : List Value) (rss : List (List (List Int))) (w : World) (z : Int) (rv : Value) : Prop := ∀ W u, Below w.heap.size w W → LsR W u vs rss → Calls Tryd.prog 23 #[.agg #[.int .i64 p, .int .i64 k, v], .int .i64 n, u] W fun e w' => OpA z rv e ∧ Below W.heap.size W w'
theorem opc_fault {p k n z : Int} {l : List Int} {v : Value} {w : World} (hT : Fd.Tab w) (hl : Fd.Sl w v l) (hll : l.length ≤ maxLen) (hz : Fd.FaultIs p k l z) (h0 : z ≠ 0) (vs : List Value) (rss : List (List (List Int))) (rv : Value) : OpC p k n v vs rss w z rv :=
  fun W u b _ => open_fault p k n z l v u rv W (hT.below b) (hl.below b) hll hz h0
theorem opc_far {P K : Nat} {n : Int} {l : List Int} {v : Value} {w : World} (hF : Fld P K l v w) (hn : ¬ (1 ≤ n ∧ n ≤ 6)) (vs : List Value) (rss : List (List (List Int))) (rv : Value) : OpC P K n v vs rss w 1 rv :=
  fun W u b _ => open_farY P K n l v u rv W (hF.below b) hn
theorem opc_full {P K n : Nat} {l : List Int} {v : Value} {w : World} (hF : Fld P K l v w) (h1 : 1 ≤ n) (h6 : n ≤ 6) (hf : 4096 < (P ^ K) ^ n) (vs : List Value) (rss : List (List (List Int))) (rv : Value) : OpC P K n v vs rss w 3 rv :=
  fun W u b _ => open_full P K n l v u rv W (hF.below b) h1 h6 hf
/-- Rows as they come. -/
structure RwC (w : World) (u : Value) (rs : List (List Int)) : Prop where
  rw : Rw w u rs
  len : rs.length ≤ maxLen
  all : ∀ r ∈ rs, r.length ≤ maxLen
theorem RwC.below {w w' : World} {u : Value} {rs : List (List Int)} (h : RwC w u rs) (b : Below w.heap.size w w') : RwC w' u rs := ⟨h.rw.below b, h.len, h.all⟩
theorem RwC.form {w : World} {u : Value} {rs : List (List Int)} (h : RwC w u rs) : ∃ a m c, u = .slice a m c ∧ Hid (rs.length = m) := by
  obtain ⟨a, c, e, _⟩ := h.rw
  exact ⟨a, _, c, e, rfl⟩
end Go.Proofs.YtjfjdidibglhaabDoor
