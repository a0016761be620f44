/- The walks of moveOf, movesOf. -/
import Derived.Test.YtgpkhfpejopacabGreatDoorZG59
import Derived.Laws.CopyOwn
namespace Go.Proofs.YtgpkhfpejopacabGreatDoor.Gc
open Go.RowKit

set_option maxRecDepth 100000 in
theorem hsz3 : (Tryz.prog.info? 3).map (·.size) = some 1 := by kernel_rfl
set_option maxRecDepth 100000 in
theorem still_fn (w : World) : Calls Tryz.prog 98 #[] w fun e w' => (∃ I : Nat → Int, e = .returned (.agg (mrow I)) ∧ Hid (∀ j, j < 7 → I j = (j : Int))) ∧ Below w.heap.size w w' :=
  (still_any w).mono fun e w' ⟨h, hb⟩ => ⟨⟨_, h, fun j hj => by rw [idL_at hj]⟩, hb⟩
theorem splice_mrow {n : Nat} {l : List Nat} {I : Nat → Int} (hl : l.length = n) (hn : n ≤ 7) (hI : ∀ j, j < 7 → I j = (j : Int)) :
    (splice ((List.range 7).map fun j => Value.int .i64 (I j)) 0 (l.map fun k : Nat => Value.int .i64 (k : Int))).toArray = mrow fun j => ((ext n l).getD j 0 : Int) := by
  apply Array.ext_getElem?
  intro j
  by_cases hj : j < 7
  · rw [mrow_at _ _ hj, ext_at l hj]
    simp only [splice, List.take_zero, List.nil_append, List.getElem?_toArray, List.length_map, Nat.zero_add, hl]
    by_cases hjk : j < n
    · rw [List.getElem?_append_left (by simp [hl]; exact hjk), if_pos hjk]
      have : j < l.length := by omega
      simp [this]
    · rw [List.getElem?_append_right (by simp [hl]; omega), if_neg hjk]
      simp [hl, show n + (j - n) = j by omega, hj, hI j hj]
  · rw [Array.getElem?_eq_none (by simp [splice, hl]; omega), Array.getElem?_eq_none (by simp; omega)]

set_option maxRecDepth 100000 in
set_option maxHeartbeats 1000000 in
theorem moveOf_any (n : Nat) (l : List Nat) (v : Value) (w : World) (hn : n ≤ 7) (h1 : 1 ≤ n) (hv : Sl w v (l.map Int.ofNat)) (hl : l.length = n) :
    Calls Tryz.prog 57 #[v] w fun e w' => e = .returned (mv (ext n l)) ∧ Below w.heap.size w w' := by
  obtain ⟨b, off, cap, rfl, hbw, hc⟩ := hv.form (n := n) (by rw [List.length_map]; exact hl) (by omega)
  have HC : Hid (∀ j, j < n → w.cell? ⟨b, off + j, none⟩ = some (.int .i64 (l.getD j 0 : Int))) := fun j hj => by
    rw [hc j hj]
    have : j < l.length := by omega
    simp [this]
  have HL : Hid (l.length = n) := hl
  clear hc hv hl
  have C := fun W => still_fn W
  have hk0 : MRow 95 (w.alloc (.cells (mrow fun _ => 0) 95)) w.heap.size (fun _ => 0) := MRow.made 95 w _
  have hB0 := balloc w (.cells (mrow fun _ => 0) 95)
  rw [← mrow_zero] at hk0 hB0
  go_enter Tryz.func57, Tryz.ntmps57
  go_wp2_with (first
    | (go_at_call 98; refine (C _).mono ?_; rintro e w1 ⟨⟨I, rfl, HI⟩, b1⟩; have hk1 := hk0.below b1; have hB1 := Below.next hB0 b1; have hz := MRow.made0 95 w1)
    | (refine wpList_store_row rfl 95 _ _ rfl w1.heap.size _ rfl rfl 95 _ hz (inf62 _) (by simp) (mrow_one _) ?_; have hz2 := hz.whole I; have hB2 : Below w.heap.size w ((w1.alloc (.cells #[.int .i64 0, .int .i64 0, .int .i64 0, .int .i64 0, .int .i64 0, .int .i64 0, .int .i64 0] 95)).setRow w1.heap.size (mrow I)) := bsetRow (hB1.alloc hB1.size _) hB1.size _; have hk2 := (hk1.alloc (.cells #[.int .i64 0, .int .i64 0, .int .i64 0, .int .i64 0, .int .i64 0, .int .i64 0, .int .i64 0] 95)).wother (g' := w1.heap.size) (Nat.ne_of_lt hk1.lt) (mrow I); clear hz hk1 hk0 C)
    | (refine wpList_copy_splice rfl _ _ 29 29 rfl 3 und22 hsz3 (some ⟨w1.heap.size, 0, none⟩) (some ⟨b, off, none⟩) 7 7 n cap rfl rfl w1.heap.size 0 ((List.range 7).map fun j => Value.int .i64 (I j)) 95 hz2 (l.map fun k : Nat => Value.int .i64 (k : Int)) ?c1 ?c2 ?c3 ?c4 w1.heap.size _ (Below.refl _ _) (Nat.le_refl _) ?_))
  case c1 => show _ = min n 7; simp [HL.out]; omega
  case c2 =>
    intro _ j z hz
    have hjl : j < n := by rw [← HL.out]; exact (List.getElem?_eq_some_iff.1 hz).1
    have hx := HC.out j hjl
    have e : l.getD j 0 = z := by simp [hz]
    rw [e] at hx
    exact (hB2.cell (p := ⟨b, off + j, none⟩) hbw).trans hx
  case c3 => simp [HL.out]; omega
  case c4 => intro v hv; simp at hv; obtain ⟨z, _, rfl⟩ := hv; rfl
  intro w2 HG hb2
  have hR : MRow 95 w2 w1.heap.size (fun j => ((ext n l).getD j 0 : Int)) := by
    unfold MRow
    rw [HG.out]
    congr 2
    exact splice_mrow HL.out hn HI.out
  have hsz1 := hB1.size
  have hlt := hk2.lt
  have hne : w.heap.size < w1.heap.size := by have := b1.size; rw [World.size_alloc] at this; omega
  have hz3 : MRow 95 w2 w.heap.size (fun _ => 0) := (hb2.block w.heap.size hne).trans hk2
  have hB3 : Below w.heap.size w w2 := hB2.trans (hb2.mono (by omega))
  clear HG hb2 hz2 hk2 hB2 hB1 hB0 HC b1
  obtain ⟨E, HE⟩ : ∃ E : Nat → Int, Hid ((fun j => ((ext n l).getD j 0 : Int)) = E) := ⟨_, rfl⟩
  rw [HE.out] at hR
  go_wp2_with (first
    | (refine wpList_load_row rfl 95 _ rfl w1.heap.size rfl 95 _ (0, 0) _ hR und62 rfl (inf62 _) ?_)
    | (refine wpList_store_row rfl 95 _ _ rfl w.heap.size _ rfl rfl 95 _ hz3 (inf62 _) (by simp) (mrow_one _) ?_))
  exact post_mrow und62 inf62 2 rfl rfl (hz3.whole _) rfl ⟨by unfold mv; rw [HE.out], bsetRow hB3 (Nat.le_refl _) _⟩

end Go.Proofs.YtgpkhfpejopacabGreatDoor.Gc
