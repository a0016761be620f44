/- The law DifferOther. -/
import Derived.Test.YtogdcjlgddleaaaL5
namespace Go.Proofs.Ytogdcjlgddleaaa
open Go.RowKit Go.Maps

theorem good_rest {v : Nat} {D : List Nat} (hG : GoodS v D) : GoodS v (oth v D) :=
  ⟨hG.pos, hG.le, List.pairwise_lt_range.sublist List.filter_sublist, fun _ hx => (oth_mem.1 hx).1⟩
theorem rest_lv {v : Nat} {D : List Nat} (hG : GoodS v D) (h : lvB v D = true) : lvE v (oth v D) = 0 ∧ (2 ≤ v → lvL v (oth v D) + 2 * D.length = v + dfN v D 1) := by
  obtain ⟨m, hm, h2⟩ := lev_rest hG.pos hG.pts (lvB_lev hG.pos hG.pts h)
  obtain ⟨h3, h4⟩ := lev_lvB hG.pos (good_rest hG).pts hm
  exact ⟨if_pos h3, fun hv => by rw [show lvL v (oth v D) = dfN v (oth v D) 1 from if_pos h3, h4 hv]; exact h2 hv⟩
theorem good_moved {v t s : Nat} {D : List Nat} (hG : GoodS v D) (hc : Nat.gcd t v = 1) : GoodS v (s3 (D.map (mvN v t s))) := by
  have hp : Pts v (D.map (mvN v t s)) := mv_pts hG.pos hG.pts hc
  have hn : (s3 (D.map (mvN v t s))).Nodup := (s3_perm _).nodup_iff.2 hp.nd
  refine ⟨hG.pos, hG.le, ?_, fun x hx => hp.lt x (s3_mem.1 hx)⟩
  exact List.Pairwise.imp (fun h => by obtain ⟨h1, h2⟩ := h; omega) ((s3_le _).and hn)
theorem moved_lv {v t s : Nat} {D : List Nat} (hG : GoodS v D) (hc : Nat.gcd t v = 1) (h : lvB v D = true) : lvE v (s3 (D.map (mvN v t s))) = 0 ∧ lvL v (s3 (D.map (mvN v t s))) = dfN v D 1 := by
  have hL := lev_perm (s3_perm _).symm (lev_moved (t := t) (s := s) hG.pos hG.pts hc (lvB_lev hG.pos hG.pts h))
  obtain ⟨h3, h4⟩ := lev_lvB hG.pos (good_moved hG hc).pts hL
  refine ⟨if_pos h3, ?_⟩
  rw [show lvL v (s3 (D.map (mvN v t s))) = dfN v (s3 (D.map (mvN v t s))) 1 from if_pos h3]
  by_cases hv : 2 ≤ v
  · exact h4 hv
  · have h1 := hG.pos
    rw [df_over (by omega) (by omega), df_over (by omega) (by omega)]
theorem gcd_one {g v : Nat} (hv : 1 ≤ v) (h : ∀ x, 2 ≤ x → x ≤ v → ¬ (v % x = 0 ∧ g % x = 0)) : Nat.gcd g v = 1 := by
  apply Classical.byContradiction
  intro hn
  have h0 : 0 < Nat.gcd g v := Nat.gcd_pos_of_pos_right _ (by omega)
  exact h (Nat.gcd g v) (by omega) (Nat.gcd_le_right _ (by omega)) ⟨Nat.mod_eq_zero_of_dvd (Nat.gcd_dvd_right _ _), Nat.mod_eq_zero_of_dvd (Nat.gcd_dvd_left _ _)⟩
theorem rem_up {v : Nat} (hv : 1 ≤ v) (t : Int) : ∃ (r : Int) (g : Nat), t.tmod (v : Int) = r ∧ r + (v : Int) = (g : Int) ∧ 1 ≤ g ∧ g < 2 * v ∧ -((v : Int)) < r ∧ r < (v : Int) := by
  have h1 := Int.tmod_lt_of_pos t (show (0 : Int) < (v : Int) by omega)
  have h3 := Int.natAbs_tmod t (v : Int)
  have h4 := Nat.mod_lt t.natAbs (show 0 < (v : Int).natAbs by omega)
  have h2 : -(v : Int) < t.tmod (v : Int) := by omega
  exact ⟨_, (t.tmod (v : Int) + (v : Int)).toNat, rfl, by omega, by omega, by omega, h2, h1⟩
set_option maxRecDepth 100000 in
set_option maxHeartbeats 8000000 in
theorem Other_early (p t s : Int) (u : Value) (w : World) (n z : Nat) (hz : z ≠ 0) (hu : ∃ a c, u = .slice a n c)
    (H9 : Hid (∀ W, Below w.heap.size w W → Calls Try.prog 9 #[.int .i64 p, u] W fun e w' => (∃ l : Int, e = .returned (.tuple #[.int .i64 l, .int .i64 (z : Int)])) ∧ Below W.heap.size W w')) :
    Calls Try.prog 6 #[.int .i64 p, u, .int .i64 t, .int .i64 s] w fun e w' => e = .returned (.bool true) ∧ Below w.heap.size w w' := by
  have H14 : Hid (∀ W, Calls Try.prog 14 #[] W fun e w' => e = .returned (.bool true) ∧ Below W.heap.size W w') := fun W => FactD_any W
  obtain ⟨a, ca, rfl⟩ := hu
  have hz1 : ¬ (z : Int) = 0 := by omega
  have hz2 : ((z : Int) != 0) = true := by simpa using hz
  go_enter Try.func6, Try.ntmps6
  go_wp2_with (first
    | (go_at_call 14; refine (H14.out _).mono ?_; rintro e w1 ⟨rfl, hb⟩; clear H14; have HB1 : Hid (Below w.heap.size w w1) := hb; clear hb)
    | (go_at_call 9; refine (H9.out _ HB1.out).mono ?_; rintro e w2 ⟨⟨l, rfl⟩, hb⟩; clear H9; have HB2 : Hid (Below w.heap.size w w2) := Below.next HB1.out hb; clear hb)
    | go_in)
  go_ret
  exact ⟨rfl, HB2.out⟩

end Go.Proofs.Ytogdcjlgddleaaa
