/- The walk of polyOf: the digits of a number, as a row of eleven. -/
import Derived.Test.YtlmjlffipinjiaaDoorBase
namespace Go.Proofs.YtlmjlffipinjiaaDoor.Fd
open Go.RowKit

set_option maxRecDepth 100000 in
set_option maxHeartbeats 400000 in
theorem polyOf_any (n p : Nat) (w : World) (hn : n < 2048) (hp : 2 ≤ p) (hp' : p ≤ 64) :
    Calls Tryd.prog 54 #[.int .i64 n, .int .i64 p] w fun e w' => e = .returned (.agg (prow (digF n p))) ∧ Below w.heap.size w w' := by
  go_enter Tryd.func54, Tryd.ntmps54
  go_wp2
  go_loopw [0, 6] (fun m i wr => ∃ k c : Nat, i = .int .i64 k ∧ k ≤ 11 ∧ m = .int .i64 c ∧ Hid (c = n / p ^ k) ∧ Row wr (w.heap.size + 1) (digTo n p k) ∧ Row wr w.heap.size (fun _ => 0) ∧ Below w.heap.size w wr) (fun m _ _ => (intOf m).toNat)
  case atStart =>
    refine ⟨0, n, rfl, by omega, by simp, (show n = n / p ^ 0 by simp), ?_, (Row.made0 w).alloc _, ((Below.refl _ _).alloc (Nat.le_refl _) _).alloc (by simp) _⟩
    have h := Row.made0 (w.alloc (.cells #[.int .i64 0, .int .i64 0, .int .i64 0, .int .i64 0, .int .i64 0, .int .i64 0, .int .i64 0, .int .i64 0, .int .i64 0, .int .i64 0, .int .i64 0] 65))
    simp only [World.size_alloc] at h
    exact h.congr (fun j _ => by simp [digTo])
  case round =>
    obtain ⟨k, c, rfl, hk, rfl, HC, hr, hz, hb⟩ := hrel
    have hnn : c ≤ n := by rw [HC.out]; exact Nat.div_le_self _ _
    by_cases hlt : 0 < c
    · have hk10 := div_small n p k hn hp (by rw [← HC.out]; exact hlt)
      have hc := hr.cell k (by omega)
      have hf := hr.frozen k
      have hcp : c / p < c := Nat.div_lt_self hlt hp
      have HE : Hid (((c / p : Nat) : Int) = (c : Int) / (p : Int)) := Int.natCast_ediv c p
      have hq0 : 0 ≤ (c : Int) / (p : Int) := by rw [← HE.out]; exact Int.natCast_nonneg _
      have hq1 : (c : Int) / (p : Int) ≤ 2048 := by rw [← HE.out]; omega
      go_wp2
      go_roundw
      case rel =>
        refine ⟨k + 1, c / p, by go_num, by omega, by go_num, ?_, ?_, hz.other _ _ (by simp), hb.setCell (by simp) _⟩
        · show c / p = n / p ^ (k + 1)
          rw [div_succ, ← HC.out]
        · refine (hr.set k _).congr (fun j _ => ?_)
          have e : ((c : Int) % (p : Int)) = digF n p k := by rw [HC.out]; simp [digF]
          rw [e]; exact digTo_succ n p k j
      case measure => simp [intOf]; rw [← HE.out]; omega
    · go_wp2_with (first | (refine wpList_load_row rfl 65 _ rfl (w.heap.size + 1) rfl 65 _ (0, 0) _ hr und51 rfl (inf51 _) ?_) | (refine wpList_store_row rfl 65 _ _ rfl w.heap.size _ rfl rfl 65 _ hz (inf51 _) (by simp) (prow_one _) ?_))
      refine post_row 4 rfl rfl (hz.whole _) rfl ⟨?_, bsetRow hb (Nat.le_refl _) _⟩
      rw [prow_congr (fun j _ => digTo_full n p k (by rw [← HC.out]; omega) j)]

end Go.Proofs.YtlmjlffipinjiaaDoor.Fd
