/- The walks of byBoth and Costas. -/
import Derived.Test.YtmiinhbffiodmaaDoorG7
import Derived.Test.YtmiinhbffiodmaaDoorP28
namespace Go.Proofs.YtmiinhbffiodmaaDoor
open Go.RowKit Go.Maps

set_option maxHeartbeats 1000000 in
theorem byBoth_any (a b : Int) (w : World) : Calls Tryd.prog 22 #[.int .i64 a, .int .i64 b] w fun e w' => e = .returned (gV (a, b)) ∧ Below w.heap.size w w' := by
  go_enter Tryd.func22, Tryd.ntmps22
  go_wp2
  exact bodyPost_ret (v := gV (a, b)) (by simp [results, Tryd.results22, go_sem, gV]) rfl ⟨rfl, (Below.refl _ _).alloc (Nat.le_refl _) _⟩
theorem byBoth_ap : ApF 22 apB := ⟨fun _ _ => rfl, fun a b W => byBoth_any a b W, fun _ _ h1 h2 h3 h4 => ⟨wfI h1 h2, wfI h3 h4⟩⟩
theorem pl_of (n : Nat) (f : Nat → Nat) : pl n f = ((List.range n).map f).map Int.ofNat := by unfold pl; rw [List.map_map]; rfl
theorem range_getD (n : Nat) (f : Nat → Nat) {i : Nat} (h : i < n) : ((List.range n).map f).getD i 0 = f i := by simp [h]
theorem cos_pl (n : Nat) (f : Nat → Nat) : decide (gpL apB (pl n f)).Nodup = cosB n f := by
  rw [pl_of, gp_cos, List.length_map, List.length_range]
  exact cosB_congr fun i hi => range_getD n f hi
theorem pl_bd {n : Nat} {f : Nat → Nat} (P : Pm n f) (hn : n ≤ 12) : ∀ i, i < (pl n f).length → 0 ≤ (pl n f).getD i 0 ∧ (pl n f).getD i 0 ≤ 1000000000 := fun i hi => by
  rw [pl_len] at hi
  rw [pl_at f hi]
  have := P.lt i hi
  omega
set_option maxRecDepth 100000 in
set_option maxHeartbeats 4000000 in
theorem Costas_bad (b : List Int) (u : Value) (w : World) (hu : Sl w u b) (hbl : b.length ≤ maxLen) (z : Int) (hz : pF b = z) (h0 : z ≠ 0) :
    Calls Tryd.prog 8 #[u] w fun e w' => e = .returned (.tuple #[.bool false, .int .i64 z]) ∧ Below w.heap.size w w' := by
  have C := Check_any b u w hu hbl
  rw [hz] at C
  have hz1 : (z != 0) = true := by simpa using h0
  clear hu hbl hz
  go_enter Tryd.func8, Tryd.ntmps8
  go_wp2_with (go_at_call 20; refine C.mono ?_; rintro e w1 ⟨rfl, b1⟩; clear C)
  exact bodyPost_ret (v := .tuple #[.bool false, .int .i64 z]) (by simp [results, Tryd.results8, go_sem]) rfl ⟨rfl, b1⟩
set_option maxRecDepth 100000 in
set_option maxHeartbeats 4000000 in
theorem Costas_good (n : Nat) (f : Nat → Nat) (u : Value) (w : World) (hu : Sl w u (pl n f)) (hn : n ≤ 12) (P : Pm n f) :
    Calls Tryd.prog 8 #[u] w fun e w' => e = .returned (.tuple #[.bool (cosB n f), .int .i64 0]) ∧ Below w.heap.size w w' := by
  have C := Check_any _ u w hu (by rw [pl_len]; unfold maxLen; omega)
  rw [pF_pl P hn] at C
  have HC : Hid (∀ W, Below w.heap.size w W → Calls Tryd.prog 21 #[u, .func (.func 22) #[] #[]] W fun e w' => e = .returned (.bool (cosB n f)) ∧ Below W.heap.size W w') := fun W hW => by
    have h := allUnlike_any 22 apB _ u W byBoth_ap (hu.below hW) (by rw [pl_len]; omega) (pl_bd P hn)
    rw [cos_pl] at h
    exact h
  clear hu
  go_enter Tryd.func8, Tryd.ntmps8
  go_wp2_with (first
    | (go_at_call 20; refine C.mono ?_; rintro e w1 ⟨rfl, b1⟩; clear C)
    | (go_at_call 21; refine (HC.out _ b1).mono ?_; rintro e w2 ⟨rfl, b2⟩))
  exact bodyPost_ret (v := .tuple #[.bool (cosB n f), .int .i64 0]) (by simp [results, Tryd.results8, go_sem]) rfl ⟨rfl, Below.next b1 b2⟩

end Go.Proofs.YtmiinhbffiodmaaDoor
