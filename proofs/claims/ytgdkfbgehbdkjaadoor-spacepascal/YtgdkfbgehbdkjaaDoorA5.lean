/- The walk of open: a room and lists of its rows. -/
import Derived.Test.YtgdkfbgehbdkjaaDoorA4
namespace Go.Proofs.YtgdkfbgehbdkjaaDoor
open Go.RowKit

/-- Some lists of rows. -/
def LsR (w : World) (u : Value) (vs : List Value) (rss : List (List (List Int))) : Prop :=
  ∃ b c, u = .slice (some ⟨b, 0, none⟩) rss.length c ∧ vs.length = rss.length ∧ ∀ (i : Nat) x rs, vs[i]? = some x → rss[i]? = some rs → w.cell? ⟨b, i, none⟩ = some x ∧ Rw w x rs ∧ rs.length ≤ maxLen ∧ ∀ r ∈ rs, r.length ≤ maxLen
theorem LsR.below {w w' : World} {u : Value} {vs : List Value} {rss : List (List (List Int))} (h : LsR w u vs rss) (hb : Below w.heap.size w w') : LsR w' u vs rss := by
  obtain ⟨b, c, e, h1, h2⟩ := h
  refine ⟨b, c, e, h1, fun i x rs hx hr => ?_⟩
  obtain ⟨h3, h4, h5⟩ := h2 i x rs hx hr
  exact ⟨(hb.cell (p := ⟨b, i, none⟩) (block_lt_of_cell h3)).trans h3, h4.below hb, h5⟩
/-- What is wrong with lists of rows. -/
def lsE (q n : Nat) : List (List (List Int)) → Nat
  | [] => 0
  | rs :: rss => if rsE q n rs ≠ 0 then rsE q n rs else lsE q n rss
theorem lsE_at {q n : Nat} : ∀ {rss : List (List (List Int))} {i : Nat} {rs : List (List Int)}, rss[i]? = some rs → (∀ j s, j < i → rss[j]? = some s → rsE q n s = 0) → rsE q n rs ≠ 0 → lsE q n rss = rsE q n rs
  | [], i, r, h, _, _ => by simp at h
  | s :: rs, 0, r, h, _, h2 => by
    simp only [List.getElem?_cons_zero, Option.some.injEq] at h
    subst h
    rw [lsE, if_pos h2]
  | s :: rs, i + 1, r, h, h1, h2 => by
    have h0 := h1 0 s (by omega) rfl
    rw [lsE, if_neg (by rw [h0]; exact fun k => k rfl)]
    exact lsE_at (by simpa using h) (fun j t hj ht => h1 (j + 1) t (by omega) (by simpa using ht)) h2
theorem lsE_all {q n : Nat} : ∀ {rss : List (List (List Int))}, (∀ (j : Nat) s, rss[j]? = some s → rsE q n s = 0) → lsE q n rss = 0
  | [], _ => rfl
  | s :: rs, h => by
    rw [lsE, if_neg (by rw [h 0 s rfl]; exact fun k => k rfl)]
    exact lsE_all fun j t ht => h (j + 1) t (by simpa using ht)
/-- What open answers: what is wrong, and the room. -/
def OpA (z : Int) (rv : Value) (e : Ending) : Prop := ∃ (p k n : Int) (a : Option Addr) (m c : Nat), e = .returned (.tuple #[.agg #[.int .i64 p, .int .i64 k, .slice a m c, .int .i64 n], .int .i64 z]) ∧ (z = 0 → Value.agg #[.int .i64 p, .int .i64 k, .slice a m c, .int .i64 n] = rv)
theorem fl_box (p k : Int) (v : Value) (w : World) : ∀ W, Below (w.alloc (.cells #[.int .i64 p, .int .i64 k, v] 24)).heap.size (w.alloc (.cells #[.int .i64 p, .int .i64 k, v] 24)) W →
    W.cell? ⟨w.heap.size, 0, none⟩ = some (.int .i64 p) ∧ W.cell? ⟨w.heap.size, 1, none⟩ = some (.int .i64 k) ∧ W.cell? ⟨w.heap.size, 2, none⟩ = some v := fun W b => by
  have k1 := (b.block w.heap.size (by simp)).trans (heap_alloc_new w (.cells #[.int .i64 p, .int .i64 k, v] 24))
  exact ⟨by rw [cell_of_row _ _ _ _ _ _ k1]; rfl, by rw [cell_of_row _ _ _ _ _ _ k1]; rfl, by rw [cell_of_row _ _ _ _ _ _ k1]; rfl⟩
/-- The four cells of a room. -/
def rmC (p k : Int) (v : Value) (n : Int) : Array Value := #[.int .i64 p, .int .i64 k, v, .int .i64 n]
def RmB (w : World) (g : Nat) (p k : Int) (v : Value) (n : Int) : Prop := w.heap[g]? = some (.cells (rmC p k v n) 50 (0, 0))
theorem RmB.lt {w : World} {g : Nat} {p k n : Int} {v : Value} (h : RmB w g p k v n) : g < w.heap.size := (Array.getElem?_eq_some_iff.1 h).1
theorem RmB.below {w w' : World} {g : Nat} {p k n : Int} {v : Value} (h : RmB w g p k v n) (hb : Below w.heap.size w w') : RmB w' g p k v n := (hb.block g h.lt).trans h
theorem RmB.whole {w : World} {g : Nat} {p k n : Int} {v : Value} (h : RmB w g p k v n) (p' k' n' : Int) (v' : Value) : RmB (w.setRow g (rmC p' k' v' n')) g p' k' v' n' := setRow_heap w g _ _ _ _ h
theorem RmB.other {w : World} {g : Nat} {p k n : Int} {v : Value} (h : RmB w g p k v n) (j : Nat) (cs : Array Value) (hne : g ≠ j) : RmB (w.setRow j cs) g p k v n := (setRow_other w j g cs hne).trans h
set_option maxRecDepth 100000 in
theorem inf50 (p k n : Int) (v : Value) : (Tryd.prog.info? 50).map (·.size) = some (rmC p k v n).size := by kernel_rfl
theorem rmC_one (p k n : Int) (a : Option Addr) (m c : Nat) : (rmC p k (.slice a m c) n).all (·.oneCell') = true := by
  have h1 : ∀ z : Int, (Value.int .i64 z).oneCell' = true := fun _ => rfl
  have h2 : (Value.slice a m c).oneCell' = true := rfl
  simp [rmC, h1, h2]
set_option maxRecDepth 100000 in
theorem und50 : ∃ fs, Tryd.prog.underlying 50 = some (.struct fs) := by
  have h : (match Tryd.prog.underlying 50 with | some (.struct _) => true | _ => false) = true := by kernel_rfl
  split at h
  · exact ⟨_, by assumption⟩
  · cases h
set_option maxRecDepth 100000 in
theorem post_room {fn : Func} {R : Ending → World → Prop} {a : Act} {w : World} {g : Nat} {p k n z : Int} {v : Value} (hres : fn.results = #[.cell 6 50, .tmp 7])
    (hp : a.tmps.getD 6 undef = .pointer (some ⟨g, 0, none⟩)) (hz : a.tmps.getD 7 undef = .int .i64 z) (hr : RmB w g p k v n) (hd : a.defers = []) (hR : R (.returned (.tuple #[.agg (rmC p k v n), .int .i64 z])) w) : bodyPost Tryd.prog fn R .ret a w := by
  obtain ⟨fs, hu⟩ := und50
  refine bodyPost_ret ?_ hd hR
  have hp' : a.tmps[6]?.getD undef = .pointer (some ⟨g, 0, none⟩) := by simpa using hp
  have hz' : a.tmps[7]?.getD undef = .int .i64 z := by simpa using hz
  simp [results, hres, hp', hz', asAddr, run_loadVar_row w g 50 50 (rmC p k v n) (0, 0) _ hr hu rfl (inf50 p k n v)]
/-- The two boxes that open begins with. -/
theorem open_boxes (p k : Int) (v : Value) (w : World) : Below w.heap.size w ((w.alloc (.cells #[.int .i64 p, .int .i64 k, v] 24)).alloc (.cells #[.int .i64 0, .int .i64 0, .slice none 0 0, .int .i64 0] 50)) ∧
    RmB ((w.alloc (.cells #[.int .i64 p, .int .i64 k, v] 24)).alloc (.cells #[.int .i64 0, .int .i64 0, .slice none 0 0, .int .i64 0] 50)) (w.heap.size + 1) 0 0 (.slice none 0 0) 0 :=
  ⟨Below.next (balloc w _) (balloc _ _), heap_alloc2_new w _ _⟩
set_option maxRecDepth 100000 in
set_option maxHeartbeats 4000000 in
theorem open_fault (p k n z : Int) (l : List Int) (v u rv : Value) (w : World) (hT : Fd.Tab w) (hl : Fd.Sl w v l) (hll : l.length ≤ maxLen) (hz : Fd.FaultIs p k l z) (h0 : z ≠ 0) :
    Calls Tryd.prog 26 #[.agg #[.int .i64 p, .int .i64 k, v], .int .i64 n, u] w fun e w' => OpA z rv e ∧ Below w.heap.size w w' := by
  have b2 := balloc (w.alloc (.cells #[.int .i64 p, .int .i64 k, v] 24)) (.cells #[.int .i64 0, .int .i64 0, .slice none 0 0, .int .i64 0] 50)
  obtain ⟨b3, hr⟩ := open_boxes p k v w
  obtain ⟨x0, x1, x2⟩ := fl_box p k v w _ b2
  have C := Fd.FCheck_any p k l v _ (hT.below b3) (hl.below b3) hll
  have HZ : Hid (∀ y, Fd.FaultIs p k l y → y = z) := fun y hy => hy.one hz
  have hne : (z != 0) = true := by simpa using h0
  obtain ⟨A, ca, rfl, _⟩ := id hl
  obtain ⟨W, HW⟩ : ∃ W, Hid ((w.alloc (.cells #[.int .i64 p, .int .i64 k, .slice A l.length ca] 24)).alloc (.cells #[.int .i64 0, .int .i64 0, .slice none 0 0, .int .i64 0] 50) = W) := ⟨_, rfl⟩
  have HRM : Hid (∀ w1, Below W.heap.size W w1 → RmB w1 (w.heap.size + 1) 0 0 (.slice none 0 0) 0) := fun w1 b => by rw [HW.out] at hr; exact hr.below b
  have HB3 : Hid (Below w.heap.size w W) := by rw [← HW.out]; exact b3
  clear hr b3
  go_enter Tryd.func26, Tryd.ntmps26
  go_wp2_with (first
    | (go_at_call 44; refine C.mono ?_; rintro e w1 ⟨y, rfl, hy, b4⟩; obtain rfl := HZ.out y hy; rw [HW.out] at b4; clear C)
    | (refine wpList_store_row rfl 50 _ _ rfl (w.heap.size + 1) (rmC 0 0 (.slice none 0 0) 0) rfl rfl 50 _ (HRM.out w1 b4) (inf50 _ _ _ _) rfl (rmC_one _ _ _ _ _ _) ?_))
  refine post_room rfl rfl rfl ((HRM.out w1 b4).whole 0 0 0 (.slice none 0 0)) rfl ⟨⟨0, 0, 0, none, 0, 0, rfl, fun h => absurd h h0⟩, Fd.bsetRow (Below.next HB3.out b4) (by omega) _⟩
set_option maxRecDepth 100000 in
set_option maxHeartbeats 4000000 in
theorem open_far (P K : Nat) (n : Int) (l : List Int) (v u rv : Value) (w : World) (hF : Fld P K l v w) (hn : ¬ (1 ≤ n ∧ n ≤ 6)) :
    Calls Tryd.prog 26 #[.agg #[.int .i64 (P : Int), .int .i64 (K : Int), v], .int .i64 n, u] w fun e w' => OpA 1 rv e ∧ Below w.heap.size w w' := by
  have b2 := balloc (w.alloc (.cells #[.int .i64 (P : Int), .int .i64 (K : Int), v] 24)) (.cells #[.int .i64 0, .int .i64 0, .slice none 0 0, .int .i64 0] 50)
  obtain ⟨b3, hr⟩ := open_boxes (P : Int) (K : Int) v w
  obtain ⟨x0, x1, x2⟩ := fl_box (P : Int) (K : Int) v w _ b2
  have C := Fd.FCheck_any (P : Int) (K : Int) l v _ (hF.tab.below b3) (hF.sl.below b3) hF.len
  have HZ : Hid (∀ y, Fd.FaultIs (P : Int) (K : Int) l y → y = 0) := fun y hy => hy.one hF.good.fault
  have HFl : Hid (∀ W, Below w.heap.size w W → Fld P K l v W) := fun W b => hF.below b
  have hbox := fl_box (P : Int) (K : Int) v w
  obtain ⟨A, ca, rfl, _⟩ := id hF.sl
  obtain ⟨W, HW⟩ : ∃ W, Hid ((w.alloc (.cells #[.int .i64 (P : Int), .int .i64 (K : Int), .slice A l.length ca] 24)).alloc (.cells #[.int .i64 0, .int .i64 0, .slice none 0 0, .int .i64 0] 50) = W) := ⟨_, rfl⟩
  have HRM : Hid (∀ w1, Below W.heap.size W w1 → RmB w1 (w.heap.size + 1) 0 0 (.slice none 0 0) 0) := fun w1 b => by rw [HW.out] at hr; exact hr.below b
  have HB3 : Hid (Below w.heap.size w W) := by rw [← HW.out]; exact b3
  have HBX : Hid (∀ w1, Below W.heap.size W w1 → w1.cell? ⟨w.heap.size, 0, none⟩ = some (.int .i64 (P : Int)) ∧ w1.cell? ⟨w.heap.size, 1, none⟩ = some (.int .i64 (K : Int)) ∧ w1.cell? ⟨w.heap.size, 2, none⟩ = some (.slice A l.length ca)) := fun w1 b => by
    rw [HW.out] at b2
    exact hbox w1 (Below.next b2 b)
  clear hr b3 hbox
  by_cases h1 : n < 1
  · have d1 : decide (n < 1) = true := by simpa using h1
    go_enter Tryd.func26, Tryd.ntmps26
    go_wp2_with (first
      | (go_at_call 44; refine C.mono ?_; rintro e w1 ⟨y, rfl, hy, b4⟩; obtain rfl := HZ.out y hy; rw [HW.out] at b4; obtain ⟨z0, z1, z2⟩ := HBX.out w1 b4; clear C)
      | (refine wpList_store_row rfl 50 _ _ rfl (w.heap.size + 1) (rmC 0 0 (.slice none 0 0) 0) rfl rfl 50 _ (HRM.out w1 b4) (inf50 _ _ _ _) rfl (rmC_one _ _ _ _ _ _) ?_))
    refine post_room rfl rfl rfl ((HRM.out w1 b4).whole 0 0 0 (.slice none 0 0)) rfl ⟨⟨0, 0, 0, none, 0, 0, rfl, fun h => absurd h (by decide)⟩, Fd.bsetRow (Below.next HB3.out b4) (by omega) _⟩
  · have d1 : decide (n < 1) = false := by simpa using h1
    have d2 : decide (6 < n) = true := by simp; omega
    go_enter Tryd.func26, Tryd.ntmps26
    go_wp2_with (first
      | (go_at_call 44; refine C.mono ?_; rintro e w1 ⟨y, rfl, hy, b4⟩; obtain rfl := HZ.out y hy; rw [HW.out] at b4; obtain ⟨z0, z1, z2⟩ := HBX.out w1 b4; clear C)
      | (refine wpList_store_row rfl 50 _ _ rfl (w.heap.size + 1) (rmC 0 0 (.slice none 0 0) 0) rfl rfl 50 _ (HRM.out w1 b4) (inf50 _ _ _ _) rfl (rmC_one _ _ _ _ _ _) ?_))
    refine post_room rfl rfl rfl ((HRM.out w1 b4).whole 0 0 0 (.slice none 0 0)) rfl ⟨⟨0, 0, 0, none, 0, 0, rfl, fun h => absurd h (by decide)⟩, Fd.bsetRow (Below.next HB3.out b4) (by omega) _⟩
theorem RmB.cells {w : World} {g : Nat} {p k n : Int} {v : Value} (h : RmB w g p k v n) : w.cell? ⟨g, 0, none⟩ = some (.int .i64 p) ∧ w.cell? ⟨g, 1, none⟩ = some (.int .i64 k) ∧ w.cell? ⟨g, 2, none⟩ = some v ∧ w.cell? ⟨g, 3, none⟩ = some (.int .i64 n) :=
  ⟨by rw [cell_of_row _ _ _ _ _ _ h]; rfl, by rw [cell_of_row _ _ _ _ _ _ h]; rfl, by rw [cell_of_row _ _ _ _ _ _ h]; rfl, by rw [cell_of_row _ _ _ _ _ _ h]; rfl⟩
theorem rm_made (w : World) : RmB (w.alloc (.cells #[.int .i64 0, .int .i64 0, .slice none 0 0, .int .i64 0] 50)) w.heap.size 0 0 (.slice none 0 0) 0 := heap_alloc_new w _
set_option maxRecDepth 100000 in
set_option maxHeartbeats 8000000 in
theorem open_full (P K n : Nat) (l : List Int) (v u rv : Value) (w : World) (hF : Fld P K l v w) (h1 : 1 ≤ n) (h6 : n ≤ 6) (hf : 4096 < (P ^ K) ^ n) :
    Calls Tryd.prog 26 #[.agg #[.int .i64 (P : Int), .int .i64 (K : Int), v], .int .i64 (n : Int), u] w fun e w' => OpA 3 rv e ∧ Below w.heap.size w w' := by
  have b2 := balloc (w.alloc (.cells #[.int .i64 (P : Int), .int .i64 (K : Int), v] 24)) (.cells #[.int .i64 0, .int .i64 0, .slice none 0 0, .int .i64 0] 50)
  obtain ⟨b3, hr⟩ := open_boxes (P : Int) (K : Int) v w
  obtain ⟨x0, x1, x2⟩ := fl_box (P : Int) (K : Int) v w _ b2
  have C := Fd.FCheck_any (P : Int) (K : Int) l v _ (hF.tab.below b3) (hF.sl.below b3) hF.len
  have HZ : Hid (∀ y, Fd.FaultIs (P : Int) (K : Int) l y → y = 0) := fun y hy => hy.one hF.good.fault
  have HFl : Hid (∀ W, Below w.heap.size w W → Fld P K l v W) := fun W b => hF.below b
  have hbox := fl_box (P : Int) (K : Int) v w
  obtain ⟨A, ca, rfl, _⟩ := id hF.sl
  obtain ⟨W, HW⟩ : ∃ W, Hid ((w.alloc (.cells #[.int .i64 (P : Int), .int .i64 (K : Int), .slice A l.length ca] 24)).alloc (.cells #[.int .i64 0, .int .i64 0, .slice none 0 0, .int .i64 0] 50) = W) := ⟨_, rfl⟩
  have HRM : Hid (∀ w1, Below W.heap.size W w1 → RmB w1 (w.heap.size + 1) 0 0 (.slice none 0 0) 0) := fun w1 b => by rw [HW.out] at hr; exact hr.below b
  have HB3 : Hid (Below w.heap.size w W) := by rw [← HW.out]; exact b3
  have HBX : Hid (∀ w1, Below W.heap.size W w1 → w1.cell? ⟨w.heap.size, 0, none⟩ = some (.int .i64 (P : Int)) ∧ w1.cell? ⟨w.heap.size, 1, none⟩ = some (.int .i64 (K : Int)) ∧ w1.cell? ⟨w.heap.size, 2, none⟩ = some (.slice A l.length ca)) := fun w1 b => by
    rw [HW.out] at b2
    exact hbox w1 (Below.next b2 b)
  clear hr b3 hbox
  have d1 : decide ((n : Int) < 1) = false := by simp; omega
  have d1n : decide (n < 1) = false := by simp; omega
  have d2 : decide ((6 : Int) < (n : Int)) = false := by simp; omega
  have d2n : decide (6 < n) = false := by simp; omega
  obtain ⟨q, Hq⟩ : ∃ q, Hid (P ^ K = q) := ⟨_, rfl⟩
  have HO : Hid (∀ W, Below w.heap.size w W → Calls Tryd.prog 46 #[rmV P K (.slice A l.length ca) n] W fun e w' => e = .returned (.int .i64 (q : Int)) ∧ Below W.heap.size W w') := fun W b => order_any P K n l _ W (HFl.out W b) q Hq
  obtain ⟨s, Hs⟩ : ∃ s, Hid (cO (q ^ n) = s) := ⟨_, rfl⟩
  have hq64 : q ≤ 64 := by rw [← Hq.out]; exact hF.good.le64
  have CP := fun W => power_any q n W hq64 (by omega) s Hs
  have hs4 : 4096 < s := by
    rw [Hq.out] at hf
    rw [← Hs.out]; unfold cO; omega
  have d3 : decide ((4096 : Int) < (s : Int)) = true := by simp; omega
  clear hF hf
  go_enter Tryd.func26, Tryd.ntmps26
  go_wp2_with (first
    | (go_at_call 44; refine C.mono ?_; rintro e w1 ⟨y, rfl, hy, b4⟩; obtain rfl := HZ.out y hy; rw [HW.out] at b4; obtain ⟨z0, z1, z2⟩ := HBX.out w1 b4; clear C)
    | (refine wpList_store_row rfl 50 _ _ rfl w1.heap.size (rmC P K (.slice A l.length ca) n) rfl rfl 50 _ (rm_made w1) (inf50 _ _ _ _) rfl (rmC_one _ _ _ _ _ _) ?_; have r2 := (rm_made w1).whole P K n (.slice A l.length ca); have b5 : Below W.heap.size W ((w1.alloc (.cells #[.int .i64 0, .int .i64 0, .slice none 0 0, .int .i64 0] 50)).setRow w1.heap.size (rmC P K (.slice A l.length ca) n)) := Fd.bsetRow (b4.alloc b4.size _) b4.size _; revert r2 b5; generalize ((w1.alloc (.cells #[.int .i64 0, .int .i64 0, .slice none 0 0, .int .i64 0] 50)).setRow w1.heap.size (rmC P K (.slice A l.length ca) n)) = W2; intro r2 b5; obtain ⟨c0, c1, c2, c3⟩ := r2.cells)
    | (go_at_call 46; refine (HO.out W2 (Below.next HB3.out b5)).mono ?_; rintro e w3 ⟨rfl, b6⟩)
    | (go_at_call 45; refine (CP _).mono ?_; rintro e w4 ⟨rfl, h4⟩; replace h4 := h4.symm; subst h4)
    | (refine wpList_store_row rfl 50 _ _ rfl (w.heap.size + 1) (rmC 0 0 (.slice none 0 0) 0) rfl rfl 50 _ (HRM.out w3 (Below.next b5 b6)) (inf50 _ _ _ _) rfl (rmC_one _ _ _ _ _ _) ?_))
  refine post_room rfl rfl rfl ((HRM.out w3 (Below.next b5 b6)).whole 0 0 0 (.slice none 0 0)) rfl ⟨⟨0, 0, 0, none, 0, 0, rfl, fun h => absurd h (by decide)⟩, Fd.bsetRow (Below.next HB3.out (Below.next b5 b6)) (by omega) _⟩
set_option maxRecDepth 100000 in
set_option maxHeartbeats 8000000 in
theorem open_rows (P K n : Nat) (l : List Int) (v u : Value) (vs : List Value) (rss : List (List (List Int))) (w : World) (hF : Fld P K l v w) (h1 : 1 ≤ n) (h6 : n ≤ 6) (hf : (P ^ K) ^ n ≤ 4096) (hu : LsR w u vs rss) (hm2 : rss.length ≤ 2) (z : Nat) (hz : Hid (lsE (P ^ K) n rss = z)) :
    Calls Tryd.prog 26 #[.agg #[.int .i64 (P : Int), .int .i64 (K : Int), v], .int .i64 (n : Int), u] w fun e w' => OpA (z : Int) (rmV P K v n) e ∧ Below w.heap.size w w' := by
  have b2 := balloc (w.alloc (.cells #[.int .i64 (P : Int), .int .i64 (K : Int), v] 24)) (.cells #[.int .i64 0, .int .i64 0, .slice none 0 0, .int .i64 0] 50)
  obtain ⟨b3, hr⟩ := open_boxes (P : Int) (K : Int) v w
  obtain ⟨x0, x1, x2⟩ := fl_box (P : Int) (K : Int) v w _ b2
  have C := Fd.FCheck_any (P : Int) (K : Int) l v _ (hF.tab.below b3) (hF.sl.below b3) hF.len
  have HZ : Hid (∀ y, Fd.FaultIs (P : Int) (K : Int) l y → y = 0) := fun y hy => hy.one hF.good.fault
  have HFl : Hid (∀ W, Below w.heap.size w W → Fld P K l v W) := fun W b => hF.below b
  have hbox := fl_box (P : Int) (K : Int) v w
  obtain ⟨A, ca, rfl, _⟩ := id hF.sl
  obtain ⟨W, HW⟩ : ∃ W, Hid ((w.alloc (.cells #[.int .i64 (P : Int), .int .i64 (K : Int), .slice A l.length ca] 24)).alloc (.cells #[.int .i64 0, .int .i64 0, .slice none 0 0, .int .i64 0] 50) = W) := ⟨_, rfl⟩
  have HRM : Hid (∀ w1, Below W.heap.size W w1 → RmB w1 (w.heap.size + 1) 0 0 (.slice none 0 0) 0) := fun w1 b => by rw [HW.out] at hr; exact hr.below b
  have HB3 : Hid (Below w.heap.size w W) := by rw [← HW.out]; exact b3
  have HBX : Hid (∀ w1, Below W.heap.size W w1 → w1.cell? ⟨w.heap.size, 0, none⟩ = some (.int .i64 (P : Int)) ∧ w1.cell? ⟨w.heap.size, 1, none⟩ = some (.int .i64 (K : Int)) ∧ w1.cell? ⟨w.heap.size, 2, none⟩ = some (.slice A l.length ca)) := fun w1 b => by
    rw [HW.out] at b2
    exact hbox w1 (Below.next b2 b)
  clear hr b3 hbox
  have d1 : decide ((n : Int) < 1) = false := by simp; omega
  have d1n : decide (n < 1) = false := by simp; omega
  have d2 : decide ((6 : Int) < (n : Int)) = false := by simp; omega
  have d2n : decide (6 < n) = false := by simp; omega
  obtain ⟨q, Hq⟩ : ∃ q, Hid (P ^ K = q) := ⟨_, rfl⟩
  have HO : Hid (∀ W, Below w.heap.size w W → Calls Tryd.prog 46 #[rmV P K (.slice A l.length ca) n] W fun e w' => e = .returned (.int .i64 (q : Int)) ∧ Below W.heap.size W w') := fun W b => order_any P K n l _ W (HFl.out W b) q Hq
  obtain ⟨s, Hs⟩ : ∃ s, Hid (cO (q ^ n) = s) := ⟨_, rfl⟩
  have hq64 : q ≤ 64 := by rw [← Hq.out]; exact hF.good.le64
  have CP := fun W => power_any q n W hq64 (by omega) s Hs
  have hs4 : ¬ 4096 < s := by
    rw [Hq.out] at hf
    rw [← Hs.out]; unfold cO; omega
  have d3 : decide ((4096 : Int) < (s : Int)) = false := by simp; omega
  have d3n : decide (4096 < s) = false := by simpa using hs4
  have HCR : Hid (∀ W, Below w.heap.size w W → ∀ (x : Value) (rs : List (List Int)), Rw W x rs → rs.length ≤ maxLen → (∀ r ∈ rs, r.length ≤ maxLen) → ∀ y, Hid (rsE q n rs = y) → Calls Tryd.prog 47 #[rmV P K (.slice A l.length ca) n, x] W fun e w' => e = .returned (.int .i64 (y : Int)) ∧ Below W.heap.size W w') := fun W b x rs hx h1 h2 y hy =>
    checkRows_any P K n l rs _ x W (HFl.out W b) hx h1 h2 h6 y (by rw [Hq.out]; exact hy)
  have HLS : Hid (∀ W, Below w.heap.size w W → LsR W u vs rss) := fun W b => hu.below b
  rw [Hq.out] at hz
  obtain ⟨m, Hm⟩ : ∃ m, Hid (rss.length = m) := ⟨_, rfl⟩
  rw [Hm.out] at hm2
  have HAt : Hid (∀ i, i < m → ∃ x rs, vs[i]? = some x ∧ rss[i]? = some rs) := fun i hi => by
    obtain ⟨b, c, e, h3, h4⟩ := hu
    exact ⟨vs[i]'(by rw [h3, Hm.out]; exact hi), rss[i]'(by rw [Hm.out]; exact hi), by simp, by simp⟩
  obtain ⟨ub, uc, rfl, _⟩ := id hu
  rw [Hm.out] at HLS ⊢
  clear hF hf hu
  go_enter Tryd.func26, Tryd.ntmps26
  go_wp2_with (first
    | (go_at_call 44; refine C.mono ?_; rintro e w1 ⟨y, rfl, hy, b4⟩; obtain rfl := HZ.out y hy; rw [HW.out] at b4; obtain ⟨z0, z1, z2⟩ := HBX.out w1 b4; clear C)
    | (refine wpList_store_row rfl 50 _ _ rfl w1.heap.size (rmC P K (.slice A l.length ca) n) rfl rfl 50 _ (rm_made w1) (inf50 _ _ _ _) rfl (rmC_one _ _ _ _ _ _) ?_; have r2 := (rm_made w1).whole P K n (.slice A l.length ca); have b5 : Below W.heap.size W ((w1.alloc (.cells #[.int .i64 0, .int .i64 0, .slice none 0 0, .int .i64 0] 50)).setRow w1.heap.size (rmC P K (.slice A l.length ca) n)) := Fd.bsetRow (b4.alloc b4.size _) b4.size _; revert r2 b5; generalize ((w1.alloc (.cells #[.int .i64 0, .int .i64 0, .slice none 0 0, .int .i64 0] 50)).setRow w1.heap.size (rmC P K (.slice A l.length ca) n)) = W2; intro r2 b5; obtain ⟨c0, c1, c2, c3⟩ := r2.cells)
    | (go_at_call 46; refine (HO.out W2 (Below.next HB3.out b5)).mono ?_; rintro e w3 ⟨rfl, b6⟩)
    | (go_at_call 45; refine (CP _).mono ?_; rintro e w4 ⟨rfl, h4⟩; replace h4 := h4.symm; subst h4))
  have BW : Hid (∀ W', Below w3.heap.size w3 W' → Below W.heap.size W W') := fun W' b => Below.next (Below.next b5 b6) b
  have HR2 : Hid (∀ W', Below w3.heap.size w3 W' → RmB W' w1.heap.size (P : Int) (K : Int) (.slice A l.length ca) (n : Int)) := fun W' b => r2.below (Below.next b6 b)
  clear c0 c1 c2 c3 r2 x0 x1 x2 b2
  go_loopw [11, 12, 37] (fun _ _ jv wr => ∃ j : Nat, jv = .int .i64 (j : Int) ∧ j ≤ m ∧ Hid (∀ i rs, i < j → rss[i]? = some rs → rsE q n rs = 0) ∧ Below w3.heap.size w3 wr) (fun _ _ jv _ => (m - intOf jv).toNat)
  case atStart => exact ⟨0, rfl, by omega, (fun i r h => by omega : ∀ i r, i < 0 → _), Below.refl _ _⟩
  case round =>
    obtain ⟨j, rfl, hj, HJ, hB⟩ := hrel
    have hBW := BW.out wr hB
    have hBB : Below w.heap.size w wr := Below.next HB3.out hBW
    have r2 := HR2.out wr hB
    obtain ⟨c0, c1, c2, c3⟩ := r2.cells
    by_cases hlt : j < m
    · have hji : (j : Int) < m := by omega
      have hdj : decide ((j : Int) < (m : Int)) = true := by simp; omega
      obtain ⟨x, rs, hx, hrs⟩ := HAt.out j hlt
      obtain ⟨b', c', e', _, h9⟩ := HLS.out wr hBB
      obtain ⟨rfl, rfl⟩ : ub = b' ∧ uc = c' := by
        simp only [Value.slice.injEq, Option.some.injEq, Addr.mk.injEq] at e'
        exact ⟨e'.1.1, e'.2.2⟩
      obtain ⟨hcj, hw, hl1, hl2⟩ := h9 j x rs hx hrs
      obtain ⟨y, Hy⟩ : ∃ y, Hid (rsE q n rs = y) := ⟨_, rfl⟩
      have CC := HCR.out wr hBB x rs hw hl1 hl2 y Hy
      obtain ⟨xa, xc, rfl, _⟩ := id hw
      have HRJ : Hid (rss[j]? = some rs) := hrs
      obtain ⟨rl, Hrl⟩ : ∃ rl, Hid (rs.length = rl) := ⟨_, rfl⟩
      rw [Hrl.out] at CC hcj
      clear h9 hw hrs hx hl1 hl2 e'
      by_cases hy0 : y = 0
      · have HJ2 : Hid (∀ i rs, i < j + 1 → rss[i]? = some rs → rsE q n rs = 0) := fun i s hi hs => by
          by_cases e : i = j
          · subst e
            have := HRJ.out.symm.trans hs
            cases this
            rw [Hy.out, hy0]
          · exact HJ.out i s (by omega) hs
        have hd0 : ((y : Int) != 0) = false := by simp; omega
        clear HJ
        go_wp2_with (go_at_call 47; refine CC.mono ?_; rintro e w5 ⟨rfl, b7⟩)
        go_roundw
        case rel => exact ⟨j + 1, by go_num, by omega, HJ2, Below.next hB b7⟩
        case measure => simp [intOf]; omega
      · have hd0 : ((y : Int) != 0) = true := by simp; omega
        have hyz : y = z := by
          rw [← hz.out, ← Hy.out]
          exact (lsE_at HRJ.out (fun i s hi hs => HJ.out i s hi hs) (by rw [Hy.out]; exact hy0)).symm
        subst hyz
        clear HJ hz
        go_wp2_with (first
          | (go_at_call 47; refine CC.mono ?_; rintro e w5 ⟨rfl, b7⟩; clear CC)
          | (refine wpList_store_row rfl 50 _ _ rfl (w.heap.size + 1) (rmC 0 0 (.slice none 0 0) 0) rfl rfl 50 _ (HRM.out w5 (Below.next hBW b7)) (inf50 _ _ _ _) rfl (rmC_one _ _ _ _ _ _) ?_))
        refine post_room rfl rfl rfl ((HRM.out w5 (Below.next hBW b7)).whole 0 0 0 (.slice none 0 0)) rfl ⟨⟨0, 0, 0, none, 0, 0, rfl, fun h => absurd h (by omega)⟩, Fd.bsetRow (Below.next hBB b7) (by omega) _⟩
    · have hdj : decide ((j : Int) < (m : Int)) = false := by simp; omega
      obtain rfl : j = m := by omega
      obtain rfl : z = 0 := by
        rw [← hz.out]
        exact lsE_all fun i s hs => HJ.out i s (by rw [← Hm.out]; exact (List.getElem?_eq_some_iff.1 hs).1) hs
      go_wp2_with (first
        | (refine wpList_store_row rfl 50 _ _ rfl (w.heap.size + 1) (rmC P K (.slice A l.length ca) n) rfl rfl 50 _ (HRM.out wr hBW) (inf50 _ _ _ _) rfl (rmC_one _ _ _ _ _ _) ?_))
      refine post_room rfl rfl rfl ((HRM.out wr hBW).whole P K n (.slice A l.length ca)) rfl ⟨⟨P, K, n, A, l.length, ca, rfl, fun _ => rfl⟩, Fd.bsetRow hBB (by omega) _⟩
end Go.Proofs.YtgdkfbgehbdkjaaDoor
