/- The walk of Digits: the digits of a number, in new memory. -/
import Derived.Test.YtjfjdidibglhaabDoorBase
namespace Go.Proofs.YtjfjdidibglhaabDoor.Fd
open Go.RowKit

set_option maxRecDepth 100000 in
set_option maxHeartbeats 400000 in
theorem digits_any (n p m : Nat) (w : World) (hn : n < 4096) (hp : 2 ≤ p) (hp' : p ≤ 64) (hm : m ≤ 64) :
    Calls Tryd.prog 27 #[.int .i64 n, .int .i64 p, .int .i64 m] w fun e w' => ∃ v, e = .returned v ∧ w'.ownsRow w.heap.size 3 1 v m ((digL n p m).map (Value.int .i64)) ∧ Below w.heap.size w w' := by
  obtain ⟨i3, hi, hz0, hz1, hz2⟩ := info3
  go_enter Tryd.func27, Tryd.ntmps27
  go_wp2
  go_loopw [0, 7, 8] (fun x v i wr => ∃ k c : Nat, i = .int .i64 k ∧ k ≤ m ∧ x = .int .i64 c ∧ Hid (c = n / p ^ k) ∧ c ≤ n ∧ wr.ownsRow w.heap.size 3 1 v k ((digL n p k).map (Value.int .i64)) ∧ Below w.heap.size w wr) (fun _ _ i _ => (m - intOf i).toNat)
  case atStart => exact ⟨0, n, rfl, by omega, rfl, (show n = n / p ^ 0 by simp), Nat.le_refl _, World.ownsRow_nil _ _ _ _, Below.refl _ _⟩
  case round =>
    obtain ⟨k, c, rfl, hk, rfl, HC, hcn, hown, hb⟩ := hrel
    have hbz := hb.size
    by_cases hlt : k < m
    · have HE : Hid (((c / p : Nat) : Int) = (c : Int) / (p : Int)) := Int.natCast_ediv c p
      have HM : Hid (((c % p : Nat) : Int) = (c : Int) % (p : Int)) := Int.natCast_emod c p
      have hdv : c / p ≤ c := Nat.div_le_self _ _
      have hq0 : 0 ≤ (c : Int) / (p : Int) := by rw [← HE.out]; exact Int.natCast_nonneg _
      have hq1 : (c : Int) / (p : Int) ≤ 4096 := by rw [← HE.out]; omega
      go_wp2_with (first
        | (at_builtin; refine wpList_append_own _ rfl _ _ 22 rfl w.heap.size 3 i3 (.int .i64 0) 1 8 und22 hi hz0 hz1 hz2 rfl (by decide) _ _ _ rfl (hown.alloc _) ⟨wr.heap.size, 0, none⟩ 1 1 [.int .i64 ((c : Int) % (p : Int))] rfl rfl ?c1 ?c2 ?c3 ?c4 ?c5 ?_)
        | go_in)
      case c1 =>
        intro j u hj
        match j, hj with
        | 0, hj => simp at hj; subst hj; simp [Addr.add]
      case c2 => intro u hu; simp at hu; subst hu; rfl
      case c3 => unfold maxLen; omega
      case c4 => omega
      case c5 => simp; omega
      · intro v' w1 hown' hgrow _
        have hb1 : Below w.heap.size w w1 := (hb.alloc hbz _).grown hgrow (by simp; omega) (fun k hk => (hown.lt k hk).1)
        go_wp2
        go_roundw
        case rel =>
          have hfin : ∃ k' c' : Nat, Value.int .i64 ((k : Int) + 1) = .int .i64 k' ∧ k' ≤ m ∧ Value.int .i64 ((c : Int) / (p : Int)) = .int .i64 c' ∧ Hid (c' = n / p ^ k') ∧ c' ≤ n ∧ w1.ownsRow w.heap.size 3 1 v' k' ((digL n p k').map (Value.int .i64)) ∧ Below w.heap.size w w1 := by
            refine ⟨k + 1, c / p, by go_num, by omega, by rw [HE.out], ?_, by omega, ?_, hb1⟩
            · show c / p = n / p ^ (k + 1)
              rw [div_succ, ← HC.out]
            · rw [digL_succ, List.map_append]
              have e : digF n p k = (c : Int) % (p : Int) := by rw [← HM.out]; unfold digF; rw [← HC.out]
              rw [List.map_cons, List.map_nil, e]
              exact hown'
          first
            | exact hfin
            | ((repeat apply Exists.intro); exact ⟨hfin, rfl⟩)
        case measure => simp [intOf]; omega
    · go_wp2
      go_ret
      obtain rfl : k = m := by omega
      exact ⟨_, rfl, hown, hb⟩

end Go.Proofs.YtjfjdidibglhaabDoor.Fd
