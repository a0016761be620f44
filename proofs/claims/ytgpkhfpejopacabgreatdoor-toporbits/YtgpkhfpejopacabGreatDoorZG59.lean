/- The walks of then, undone. -/
import Derived.Test.YtgpkhfpejopacabGreatDoorZGB
/- The walks of still, then, undone. -/
namespace Go.Proofs.YtgpkhfpejopacabGreatDoor.Gc
open Go.RowKit

set_option maxRecDepth 100000 in
set_option maxHeartbeats 1000000 in
theorem still_any (w : World) : Calls Tryz.prog 98 #[] w fun e w' => e = .returned (mv (idL 7)) ∧ Below w.heap.size w w' := by
  have hk1 : MRow 95 ((w.alloc (.cells (mrow fun _ => 0) 95)).alloc (.cells (mrow fun _ => 0) 95)) w.heap.size (fun _ => 0) := (MRow.made 95 w _).alloc _
  have hk2 : MRow 95 ((w.alloc (.cells (mrow fun _ => 0) 95)).alloc (.cells (mrow fun _ => 0) 95)) (w.heap.size + 1) (fun _ => 0) := by
    have h := MRow.made 95 (w.alloc (.cells (mrow fun _ => 0) 95)) (fun _ => 0)
    rw [World.size_alloc] at h; exact h
  have hB0 : Below w.heap.size w ((w.alloc (.cells (mrow fun _ => 0) 95)).alloc (.cells (mrow fun _ => 0) 95)) := (balloc w _).alloc (by simp) _
  rw [← mrow_zero] at hk1 hk2 hB0
  go_enter Tryz.func98, Tryz.ntmps98
  go_wp2
  go_loopw [3] (fun i wr => ∃ (k : Nat) (q : Nat → Int), i = .int .i64 k ∧ k ≤ 7 ∧ MRow 95 wr w.heap.size (fun _ => 0) ∧ MRow 95 wr (w.heap.size + 1) q ∧ Hid (∀ j, j < k → q j = (j : Int)) ∧ Below w.heap.size w wr) (fun i _ => (7 - intOf i).toNat)
  case atStart => exact ⟨0, _, rfl, by omega, hk1, hk2, (fun j h => by omega : ∀ j, j < 0 → _), hB0⟩
  case round =>
    clear hk1 hk2 hB0
    obtain ⟨k, q, rfl, hk, hK1, hK2, HQ, hB⟩ := hrel
    by_cases hlt : k < 7
    · have hki : (k : Int) < 7 := by omega
      have hdec : decide ((k : Int) < 7) = true := by simp; omega
      have hcp := hK2.cell k hlt
      have hfp := hK2.frozen k
      go_wp2
      go_roundw
      case rel =>
        refine ⟨k + 1, upd q k k, by go_num, by omega, hK1.other _ _ (by simp), hK2.set k k, (fun j hj => ?_ : ∀ j, j < k + 1 → _), hB.setCell (p := ⟨w.heap.size + 1, k, none⟩) (by simp) _⟩
        unfold upd
        by_cases e : j = k
        · subst e; rw [if_pos rfl]
        · rw [if_neg e]; exact HQ.out j (by omega)
      case measure => simp [intOf]; omega
    · obtain rfl : k = 7 := by omega
      have hK3 : MRow 95 wr (w.heap.size + 1) (fun j => ((idL 7).getD j 0 : Int)) := hK2.congr fun j hj => by
        rw [HQ.out j hj, idL_at hj]
      clear hK2
      go_wp2_with (first
        | (refine wpList_load_row rfl 95 _ rfl (w.heap.size + 1) rfl 95 _ (0, 0) _ hK3 und62 rfl (inf62 _) ?_)
        | (refine wpList_store_row rfl 95 _ _ rfl w.heap.size _ rfl rfl 95 _ hK1 (inf62 _) (by simp) (mrow_one _) ?_))
      exact post_mrow und62 inf62 0 rfl rfl (hK1.whole _) rfl ⟨rfl, bsetRow hB (Nat.le_refl _) _⟩

end Go.Proofs.YtgpkhfpejopacabGreatDoor.Gc

namespace Go.Proofs.YtgpkhfpejopacabGreatDoor.Gc
open Go.RowKit

set_option maxRecDepth 100000 in
set_option maxHeartbeats 1000000 in
theorem then_core (F G : Nat → Int) (w : World) (h7 : ∀ i, i < 7 → 0 ≤ F i ∧ F i < 7) :
    Calls Tryz.prog 99 #[.agg (mrow F), .agg (mrow G)] w fun e w' => e = .returned (.agg (mrow fun j => G (F j).toNat)) ∧ Below w.heap.size w w' := by
  have hkx : MRow 95 (((w.alloc (.cells (mrow F) 95)).alloc (.cells (mrow G) 95)).alloc (.cells (mrow fun _ => 0) 95)) w.heap.size F := ((MRow.made 95 w _).alloc _).alloc _
  have hk0 : MRow 95 ((((w.alloc (.cells (mrow F) 95)).alloc (.cells (mrow G) 95)).alloc (.cells (mrow fun _ => 0) 95)).alloc (.cells (mrow fun _ => 0) 95)) w.heap.size F := hkx.alloc _
  have hk1 : MRow 95 ((((w.alloc (.cells (mrow F) 95)).alloc (.cells (mrow G) 95)).alloc (.cells (mrow fun _ => 0) 95)).alloc (.cells (mrow fun _ => 0) 95)) (w.heap.size + 1) G := by
    have h := ((MRow.made 95 (w.alloc (.cells (mrow F) 95)) G).alloc (.cells (mrow fun _ => 0) 95)).alloc (.cells (mrow fun _ => 0) 95)
    rw [World.size_alloc] at h; exact h
  have hk2 : MRow 95 ((((w.alloc (.cells (mrow F) 95)).alloc (.cells (mrow G) 95)).alloc (.cells (mrow fun _ => 0) 95)).alloc (.cells (mrow fun _ => 0) 95)) (w.heap.size + 1 + 1) (fun _ => 0) := by
    have h := (MRow.made 95 ((w.alloc (.cells (mrow F) 95)).alloc (.cells (mrow G) 95)) (fun _ => 0)).alloc (.cells (mrow fun _ => 0) 95)
    simp only [World.size_alloc] at h; exact h
  have hk3 : MRow 95 ((((w.alloc (.cells (mrow F) 95)).alloc (.cells (mrow G) 95)).alloc (.cells (mrow fun _ => 0) 95)).alloc (.cells (mrow fun _ => 0) 95)) (w.heap.size + 1 + 1 + 1) (fun _ => 0) := by
    have h := MRow.made 95 (((w.alloc (.cells (mrow F) 95)).alloc (.cells (mrow G) 95)).alloc (.cells (mrow fun _ => 0) 95)) (fun _ => 0)
    simp only [World.size_alloc] at h; exact h
  have hB0 : Below w.heap.size w ((((w.alloc (.cells (mrow F) 95)).alloc (.cells (mrow G) 95)).alloc (.cells (mrow fun _ => 0) 95)).alloc (.cells (mrow fun _ => 0) 95)) := (((balloc w _).alloc (by simp) _).alloc (by simp; omega) _).alloc (by simp; omega) _
  rw [← mrow_zero] at hk0 hk1 hk2 hk3 hB0
  have H7 : Hid (∀ i, i < 7 → 0 ≤ F i ∧ F i < 7) := h7
  clear h7 hkx
  go_enter Tryz.func99, Tryz.ntmps99
  go_wp2_with (first
    | (refine wpList_load_row rfl 95 _ rfl w.heap.size rfl 95 _ (0, 0) _ hk0 und62 rfl (inf62 _) ?_))
  go_loopw [9] (fun i wr => ∃ (k : Nat) (q : Nat → Int), i = .int .i64 k ∧ k ≤ 7 ∧ MRow 95 wr (w.heap.size + 1) G ∧ MRow 95 wr (w.heap.size + 1 + 1) (fun _ => 0) ∧ MRow 95 wr (w.heap.size + 1 + 1 + 1) q ∧ Hid (∀ j, j < k → q j = G (F j).toNat) ∧ Below w.heap.size w wr) (fun i _ => (7 - intOf i).toNat)
  case atStart => exact ⟨0, _, rfl, by omega, hk1, hk2, hk3, (fun j h => by omega : ∀ j, j < 0 → _), hB0⟩
  case round =>
    clear hk0 hk1 hk2 hk3 hB0
    obtain ⟨k, q, rfl, hk, hK1, hK2, hK3, HQ, hB⟩ := hrel
    by_cases hlt : k < 7
    · have hki : (k : Int) < 7 := by omega
      have hdec : decide ((k : Int) < 7) = true := by simp; omega
      have hix := idx62 F k hlt
      obtain ⟨t, Ht⟩ : ∃ t : Nat, Hid ((F k).toNat = t) := ⟨_, rfl⟩
      have h7k := H7.out k hlt
      have hFk : F k = (t : Int) := by have := Ht.out; omega
      have ht : t < 7 := by have := Ht.out; omega
      rw [hFk] at hix
      have HF : Hid (F k = (t : Int)) := hFk
      have hti : (t : Int) < 7 := by omega
      clear hFk h7k
      obtain ⟨z, Hz⟩ : ∃ z, Hid (G t = z) := ⟨_, rfl⟩
      have hcg := hK1.cell t ht
      rw [Hz.out] at hcg
      have hcp := hK3.cell k hlt
      have hfp := hK3.frozen k
      go_wp2
      go_roundw
      case rel =>
        refine ⟨k + 1, upd q k z, by go_num, by omega, hK1.other _ _ (by simp), hK2.other _ _ (by simp), hK3.set k z, (fun j hj => ?_ : ∀ j, j < k + 1 → _), hB.setCell (p := ⟨w.heap.size + 1 + 1 + 1, k, none⟩) (by simp; omega) _⟩
        unfold upd
        by_cases e : j = k
        · subst e; rw [if_pos rfl, Ht.out, Hz.out]
        · rw [if_neg e]; exact HQ.out j (by omega)
      case measure => simp [intOf]; omega
    · obtain rfl : k = 7 := by omega
      have hK4 := hK3.congr HQ.out
      clear hK3
      go_wp2_with (first
        | (refine wpList_load_row rfl 95 _ rfl (w.heap.size + 1 + 1 + 1) rfl 95 _ (0, 0) _ hK4 und62 rfl (inf62 _) ?_)
        | (refine wpList_store_row rfl 95 _ _ rfl (w.heap.size + 1 + 1) _ rfl rfl 95 _ hK2 (inf62 _) (by simp) (mrow_one _) ?_))
      exact post_mrow und62 inf62 4 rfl rfl (hK2.whole _) rfl ⟨rfl, bsetRow hB (by omega) _⟩

theorem then_any (x y : List Nat) (w : World) (hx : x.length = 7) (h7 : ∀ i, i < 7 → x.getD i 0 < 7) :
    Calls Tryz.prog 99 #[mv x, mv y] w fun e w' => e = .returned (mv (thenL x y)) ∧ Below w.heap.size w w' := by
  refine (then_core (fun j => (x.getD j 0 : Int)) (fun j => (y.getD j 0 : Int)) w fun i hi => ⟨by omega, by have := h7 i hi; omega⟩).mono ?_
  rintro e w' ⟨rfl, hb⟩
  refine ⟨?_, hb⟩
  unfold mv
  rw [mrow_congr fun j hj => ?_]
  rw [thenL_at hx hj]; simp

end Go.Proofs.YtgpkhfpejopacabGreatDoor.Gc
