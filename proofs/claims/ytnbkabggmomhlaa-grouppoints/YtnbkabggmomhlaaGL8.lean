/- The law GroupCloses, walked. -/
import Derived.Test.YtnbkabggmomhlaaG41
import Derived.Test.YtnbkabggmomhlaaGLM
import Derived.Test.YtnbkabggmomhlaaP27
namespace Go.Proofs.Ytnbkabggmomhlaa
open Go.RowKit

theorem ThenL_any (n : Nat) (a b : List Nat) (v u : Value) (w : World) (hn : n ≤ 7) (hv : Sl w v (a.map Int.ofNat)) (hu : Sl w u (b.map Int.ofNat)) (ha : IsP n a) (hb : b.length = n) :
    Calls Try.prog 34 #[v, u] w fun e w' => (∃ x, e = .returned x ∧ w'.ownsRow w.heap.size 3 1 x n (vl (thenL a b)) ∧ Sl w' x ((thenL a b).map Int.ofNat)) ∧ Below w.heap.size w w' := by
  rw [← pl_map ha.len] at hv
  rw [← pl_map hb] at hu
  refine (Then_any n _ _ v u w (by omega) hv hu (fun i hi => ha.at hi)).mono ?_
  rintro e w' ⟨x, rfl, h1, h2⟩
  have e1 : (pl n fun i => b.getD (a.getD i 0) 0) = (thenL a b).map Int.ofNat := by
    rw [← pl_map (l := thenL a b) (by rw [thenL_len, ha.len])]
    exact pl_congr fun i hi => by rw [thenL_at ha.len hi]
  rw [e1] at h1
  have hl : ((thenL a b).map Int.ofNat).length = n := by rw [List.length_map, thenL_len, ha.len]
  exact ⟨⟨x, rfl, h1, Sl.owned (by rw [hl]; exact h1)⟩, h2⟩
theorem UndoL_any (n : Nat) (a : List Nat) (v : Value) (w : World) (hn : n ≤ 7) (hv : Sl w v (a.map Int.ofNat)) (ha : IsP n a) :
    Calls Try.prog 35 #[v] w fun e w' => (∃ x, e = .returned x ∧ Sl w' x ((invL n a).map Int.ofNat)) ∧ Below w.heap.size w w' := by
  rw [← pl_map ha.len] at hv
  refine (Undo_any n _ v w (by omega) hv ha.pm).mono ?_
  rintro e w' ⟨x, rfl, h1, h2⟩
  refine ⟨⟨x, rfl, ?_⟩, h2⟩
  have ip := invL_isP ha
  have e1 : pl n (iv fun i => a.getD i 0) = (invL n a).map Int.ofNat := by
    rw [← pl_map (l := invL n a) ip.len]
    refine pl_congr fun y hy => ?_
    obtain ⟨i, hi, rfl⟩ := ha.pm.surj hy
    rw [ha.pm.iv_f hi]
    show i = (invL n a).getD (a.getD i 0) 0
    rw [← thenL_at ha.len hi, then_inv ha, idL_at hi]
  rw [← e1]; exact h1
theorem Has_yes (n : Nat) (ms : List (List Nat)) (v : Value) (a : List Nat) (u : Value) (w : World) (h : Mk n ms v w) (hu : Sl w u (a.map Int.ofNat)) (ha : Gen n ms a) :
    Calls Try.prog 13 #[.int .i64 (n : Int), v, u] w fun e w' => e = .returned (.tuple #[.bool true, .int .i64 0]) ∧ Below w.heap.size w w' := by
  refine (Has_ok n ms v a u w h hu (ha.isP h.isP)).mono ?_
  rintro e w' ⟨⟨b, rfl, hb⟩, h2⟩
  rw [hb.2 ha]
  exact ⟨rfl, h2⟩

set_option maxRecDepth 100000 in
set_option maxHeartbeats 4000000 in
theorem law8_any (n i j : Int) (ls : List (List Int)) (v : Value) (w : World) (hv : Came ls v w) :
    Calls Try.prog 8 #[.int .i64 n, v, .int .i64 i, .int .i64 j] w fun e w' => e = .returned (.bool true) ∧ Below w.heap.size w w' := by
  have C0 := lmade_any w
  by_cases h0 : gF n ls = 0
  · obtain ⟨k, ms, rfl, hM, hlen⟩ := hv.mk' h0
    obtain ⟨a, cap, rfl, _⟩ := id hM.sl
    obtain ⟨r, Hr⟩ : ∃ r, Hid (ms.length = r) := ⟨_, rfl⟩
    by_cases hi : i < 0 ∨ (ordG k ms : Int) ≤ i
    · have C1 := fun W (h : Below w.heap.size w W) => Element_far k i ms _ W (hM.below h) hi
      rw [Hr.out] at C1 ⊢
      clear hv h0 hlen hM hi
      go_enter Try.func8, Try.ntmps8
      go_wp2_with (first
        | (go_at_call 32; refine C0.mono ?_; rintro e w1 ⟨rfl, b1⟩)
        | (go_at_call 12; refine (C1 _ b1).mono ?_; rintro e w2 ⟨rfl, b2⟩; clear C1; replace b2 := Below.next b1 b2))
      go_ret
      exact ⟨rfl, b2⟩
    obtain ⟨p, rfl⟩ : ∃ p : Nat, i = p := ⟨i.toNat, by omega⟩
    obtain ⟨x, hx1, hx2, hx3⟩ := els_at (n := k) (ms := ms) (k := p) (by omega)
    have C1 := fun W (h : Below w.heap.size w W) => Element_ok k p ms x _ W (hM.below h) (by omega) hx1 hx2
    by_cases hj : j < 0 ∨ (ordG k ms : Int) ≤ j
    · have C2 := fun W (h : Below w.heap.size w W) => Element_far k j ms _ W (hM.below h) hj
      rw [Hr.out] at C1 C2 ⊢
      clear hv h0 hlen hM hi hj
      go_enter Try.func8, Try.ntmps8
      go_wp2_with (first
        | (go_at_call 32; refine C0.mono ?_; rintro e w1 ⟨rfl, b1⟩)
        | (go_at_call 12; refine (C1 _ b1).mono ?_; rintro e w2 ⟨⟨y, rfl, hy⟩, b2⟩; clear C1; replace b2 := Below.next b1 b2)
        | (go_at_call 12; refine (C2 _ b2).mono ?_; rintro e w3 ⟨rfl, b3⟩; clear C2; replace b3 := Below.next b2 b3))
      go_ret
      exact ⟨rfl, b3⟩
    obtain ⟨q, rfl⟩ : ∃ q : Nat, j = q := ⟨j.toNat, by omega⟩
    obtain ⟨z, hz1, hz2, hz3⟩ := els_at (n := k) (ms := ms) (k := q) (by omega)
    have C2 := fun W (h : Below w.heap.size w W) => Element_ok k q ms z _ W (hM.below h) (by omega) hz1 hz2
    have C3 := fun y u W (h1 : Sl W y (x.map Int.ofNat)) (h2 : Sl W u (z.map Int.ofNat)) => ThenL_any k x z y u W hM.n7 h1 h2 hx2 hz2.len
    have C4 := fun y W (h1 : Sl W y (x.map Int.ofNat)) => UndoL_any k x y W hM.n7 h1 hx2
    have C5 := fun y W (h : Below w.heap.size w W) (h1 : Sl W y ((thenL x z).map Int.ofNat)) => Has_yes k ms _ _ y W (hM.below h) h1 (hx3.then hM.isP hz3)
    have C6 := fun y W (h : Below w.heap.size w W) (h1 : Sl W y ((invL k x).map Int.ofNat)) => Has_yes k ms _ _ y W (hM.below h) h1 (hx3.inv hM.isP)
    have HMK : Hid (Mk k ms (.slice a ms.length cap) w) := hM
    rw [Hr.out] at C1 C2 C5 C6 HMK ⊢
    clear hv h0 hlen hi hj hx1 hx2 hx3 hz1 hz2 hz3
    have hr4 : r ≤ 4 := by rw [← Hr.out]; exact hM.len
    clear hM
    go_enter Try.func8, Try.ntmps8
    go_wp2_with (first
      | (go_at_call 32; refine C0.mono ?_; rintro e w1 ⟨rfl, b1⟩)
      | (go_at_call 12; refine (C1 _ b1).mono ?_; rintro e w2 ⟨⟨y, rfl, hy⟩, b2⟩; clear C1; replace b2 := Below.next b1 b2)
      | (go_at_call 12; refine (C2 _ b2).mono ?_; rintro e w3 ⟨⟨u, rfl, hu⟩, b3⟩; clear C2; replace hy := hy.below b3; replace b3 := Below.next b2 b3)
      | (go_at_call 34; refine (C3 _ _ _ hy hu).mono ?_; rintro e w4 ⟨⟨t, rfl, _, ht⟩, b4⟩; replace hy := hy.below b4; replace b4 := Below.next b3 b4)
      | (go_at_call 35; refine (C4 _ _ hy).mono ?_; rintro e w5 ⟨⟨s, rfl, hs⟩, b5⟩; replace ht := ht.below b5; replace b5 := Below.next b4 b5)
      | (go_at_call 13; refine (C5 _ _ b5 ht).mono ?_; rintro e w6 ⟨rfl, b6⟩; clear C5; replace hs := hs.below b6; replace b6 := Below.next b5 b6)
      | (go_at_call 13; refine (C6 _ _ b6 hs).mono ?_; rintro e w7 ⟨rfl, b7⟩; clear C6; replace b7 := Below.next b6 b7))
    clear C0 C3 C4 b1 b2 b3 b4 b5 b6 hy hu ht hs
    go_loopw [18] (fun i wr => ∃ t : Nat, i = .int .i64 t ∧ t ≤ r ∧ Below w.heap.size w wr) (fun i _ => (r - intOf i).toNat)
    case atStart => exact ⟨0, rfl, by omega, b7⟩
    case round =>
      clear b7
      obtain ⟨t, rfl, ht, hB⟩ := hrel
      by_cases hlt : t < r
      · have hti : (t : Int) < r := by omega
        have hdec : decide ((t : Int) < r) = true := by simp; omega
        obtain ⟨m, hm⟩ : ∃ m, ms[t]? = some m := ⟨ms[t]'(by have := Hr.out; omega), by simp⟩
        obtain ⟨b, off, u, rfl, hbw, hcu, hsu⟩ := HMK.out.sl.at hm
        have hcu3 : wr.cell? ⟨b, off + t, none⟩ = some u := (hB.cell (p := ⟨b, off + t, none⟩) hbw).trans hcu
        have D := Has_yes k ms _ m u wr (HMK.out.below hB) (hsu.below hB) (Gen.maker HMK.out.isP (List.mem_of_getElem? hm))
        have hml := (HMK.out.isP m (List.mem_of_getElem? hm)).len
        have hux : ∃ ua uc, u = .slice ua k uc := by
          obtain ⟨ua, uc, e, _⟩ := hsu
          exact ⟨ua, uc, by rw [e, List.length_map, hml]⟩
        obtain ⟨ua, uc, rfl⟩ := hux
        clear hcu hm hsu hml
        go_wp2_with (first
          | (go_at_call 13; refine D.mono ?_; rintro e w8 ⟨rfl, b8⟩; replace b8 := Below.next hB b8))
        go_roundw
        case rel => exact ⟨t + 1, by go_num, by omega, b8⟩
        case measure => simp [intOf]; omega
      · obtain rfl : t = r := by omega
        have hkd : decide ((t : Int) < (t : Int)) = false := by simp
        go_wp2
        go_ret
        exact ⟨rfl, hB⟩
  · obtain ⟨z, Hz⟩ : ∃ z, Hid (gF n ls = z) := ⟨_, rfl⟩
    have hz : z ≠ 0 := by rw [← Hz.out]; exact h0
    have C1 := fun W (h : Below w.heap.size w W) => Element_bad n ls v i W (hv.below h).sls hv.each hv.len z Hz.out hz
    have hzd : (z != 0) = true := by simpa using hz
    obtain ⟨a, cap, rfl, _⟩ := hv.sls
    clear hv h0 hz
    go_enter Try.func8, Try.ntmps8
    go_wp2_with (first
      | (go_at_call 32; refine C0.mono ?_; rintro e w1 ⟨rfl, b1⟩)
      | (go_at_call 12; refine (C1 _ b1).mono ?_; rintro e w2 ⟨rfl, b2⟩; clear C1; replace b2 := Below.next b1 b2))
    go_ret
    exact ⟨rfl, b2⟩

end Go.Proofs.Ytnbkabggmomhlaa
