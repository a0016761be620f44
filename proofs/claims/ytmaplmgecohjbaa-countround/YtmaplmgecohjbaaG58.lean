/- The walks of still, then, undone. -/
import Derived.Test.YtmaplmgecohjbaaGB
namespace Go.Proofs.Ytmaplmgecohjbaa
open Go.RowKit

set_option maxRecDepth 100000 in
set_option maxHeartbeats 1000000 in
theorem still_any (w : World) : Calls Try.prog 72 #[] w fun e w' => e = .returned (mv (idL 7)) ∧ Below w.heap.size w w' := by
  have hk1 : MRow 90 ((w.alloc (.cells (mrow fun _ => 0) 90)).alloc (.cells (mrow fun _ => 0) 90)) w.heap.size (fun _ => 0) := (MRow.made 90 w _).alloc _
  have hk2 : MRow 90 ((w.alloc (.cells (mrow fun _ => 0) 90)).alloc (.cells (mrow fun _ => 0) 90)) (w.heap.size + 1) (fun _ => 0) := by
    have h := MRow.made 90 (w.alloc (.cells (mrow fun _ => 0) 90)) (fun _ => 0)
    rw [World.size_alloc] at h; exact h
  have hB0 : Below w.heap.size w ((w.alloc (.cells (mrow fun _ => 0) 90)).alloc (.cells (mrow fun _ => 0) 90)) := (balloc w _).alloc (by simp) _
  rw [← mrow_zero] at hk1 hk2 hB0
  go_enter Try.func72, Try.ntmps72
  go_wp2
  go_loopw [3] (fun i wr => ∃ (k : Nat) (q : Nat → Int), i = .int .i64 k ∧ k ≤ 7 ∧ MRow 90 wr w.heap.size (fun _ => 0) ∧ MRow 90 wr (w.heap.size + 1) q ∧ Hid (∀ j, j < k → q j = (j : Int)) ∧ Below w.heap.size w wr) (fun i _ => (7 - intOf i).toNat)
  case atStart => exact ⟨0, _, rfl, by omega, hk1, hk2, (fun j h => by omega : ∀ j, j < 0 → _), hB0⟩
  case round =>
    clear hk1 hk2 hB0
    obtain ⟨k, q, rfl, hk, hK1, hK2, HQ, hB⟩ := hrel
    by_cases hlt : k < 7
    · have hki : (k : Int) < 7 := by omega
      have hdec : decide ((k : Int) < 7) = true := by simp; omega
      have hcp := hK2.cell k hlt
      have hfp := hK2.frozen k
      go_wp2
      go_roundw
      case rel =>
        refine ⟨k + 1, upd q k k, by go_num, by omega, hK1.other _ _ (by simp), hK2.set k k, (fun j hj => ?_ : ∀ j, j < k + 1 → _), hB.setCell (p := ⟨w.heap.size + 1, k, none⟩) (by simp) _⟩
        unfold upd
        by_cases e : j = k
        · subst e; rw [if_pos rfl]
        · rw [if_neg e]; exact HQ.out j (by omega)
      case measure => simp [intOf]; omega
    · obtain rfl : k = 7 := by omega
      have hK3 : MRow 90 wr (w.heap.size + 1) (fun j => ((idL 7).getD j 0 : Int)) := hK2.congr fun j hj => by
        rw [HQ.out j hj, idL_at hj]
      clear hK2
      go_wp2_with (first
        | (refine wpList_load_row rfl 90 _ rfl (w.heap.size + 1) rfl 90 _ (0, 0) _ hK3 und62 rfl (inf62 _) ?_)
        | (refine wpList_store_row rfl 90 _ _ rfl w.heap.size _ rfl rfl 90 _ hK1 (inf62 _) (by simp) (mrow_one _) ?_))
      exact post_mrow und62 inf62 0 rfl rfl (hK1.whole _) rfl ⟨rfl, bsetRow hB (Nat.le_refl _) _⟩

end Go.Proofs.Ytmaplmgecohjbaa
