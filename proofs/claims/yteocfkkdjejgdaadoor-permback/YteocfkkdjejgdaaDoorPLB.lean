/- The law PermBack, walked. -/
import Derived.Test.YteocfkkdjejgdaaDoorPRd
import Derived.Test.YteocfkkdjejgdaaDoorP25
import Derived.Test.YteocfkkdjejgdaaDoorP26
import Derived.Test.YteocfkkdjejgdaaDoorP17
namespace Go.Proofs.YteocfkkdjejgdaaDoor
open Go.RowKit

set_option maxRecDepth 100000 in
set_option maxHeartbeats 4000000 in
theorem lawB_any (l : List Int) (v : Value) (w : World) (hl : Sl w v l) (hll : l.length ≤ maxLen) (hcap : capOk v) (hL : LK w) :
    Calls Tryd.prog 4 #[v] w fun e w' => e = .returned (.bool true) ∧ Below w.heap.size w w' := by
  have C0 := turns_any w
  obtain ⟨z, Hz⟩ : ∃ z, Hid (pF l = z) := ⟨_, rfl⟩
  by_cases hz : z = 0
  · obtain ⟨n, f, hn, P, rfl⟩ := pF_ok (by rw [Hz.out]; exact hz : pF l = 0)
    subst hz
    have C1 := fun A (h : Below w.heap.size w A) => Cycles_ok n f v A hn (hl.below h) P
    have C2 := fun A (h : Below w.heap.size w A) => Parse_back n f P hn A (hL.below h)
    have C3 := fun A y (h : Below w.heap.size w A) (h1 : Sl A y (pl n f)) => ints_yes _ _ y v A h1 (hl.below h) (by rw [pl_len]; omega) rfl
    have C4 := fun A (h : Below w.heap.size w A) => Rank_ok n f v A hn (hl.below h) hcap P
    have C5 := fun A => Unrank_ok n (rkS n f n) A hn (rank_lt n f)
    have eU : (unrL n (List.range n) (rkS n f n)).map Int.ofNat = pl n f := by
      rw [unr_rank P, List.map_map]; rfl
    rw [eU] at C5
    obtain ⟨t, Ht⟩ : ∃ t, Hid (permT n f = t) := ⟨_, rfl⟩
    obtain ⟨k, Hk⟩ : ∃ k, Hid (rkS n f n = k) := ⟨_, rfl⟩
    rw [Ht.out] at C1 C2
    rw [Hk.out] at C4 C5
    have C6 := C3
    obtain ⟨va, vc, hve⟩ : ∃ a c, v = .slice a n c := hl.len (pl_len n f)
    subst hve
    clear P hl hcap hL eU
    go_enter Tryd.func4, Tryd.ntmps4
    go_wp2_with (first
      | (go_at_call 11; refine C0.mono ?_; rintro e w1 ⟨rfl, b1⟩)
      | (go_at_call 6; refine (C1 _ b1).mono ?_; rintro e w2 ⟨rfl, b2⟩; replace b2 := Below.next b1 b2)
      | (go_at_call 8; refine (C2 _ b2).mono ?_; rintro e w3 ⟨y3, rfl, hy3, b3⟩; replace b3 := Below.next b2 b3)
      | (go_at_call 10; refine (C3 _ _ b3 hy3).mono ?_; rintro e w4 ⟨rfl, b4⟩; clear C3; replace b4 := Below.next b3 b4)
      | (go_at_call 12; refine (C4 _ b4).mono ?_; rintro e w5 ⟨rfl, b5⟩; replace b5 := Below.next b4 b5)
      | (go_at_call 13; refine (C5 _).mono ?_; rintro e w6 ⟨y6, rfl, hy6, b6⟩; replace b6 := Below.next b5 b6)
      | (go_at_call 10; refine (C6 _ _ b6 hy6).mono ?_; rintro e w7 ⟨rfl, b7⟩; replace b7 := Below.next b6 b7))
    go_ret
    exact ⟨rfl, b7⟩
  · have hzd : (z != 0) = true := by simpa using hz
    have C1 := fun A (h : Below w.heap.size w A) => Cycles_bad l v A (hl.below h) hll z Hz.out hz
    obtain ⟨va, vc, hve⟩ : ∃ a c, v = .slice a l.length c := hl.len rfl
    subst hve
    clear hz hl hcap hL
    go_enter Tryd.func4, Tryd.ntmps4
    go_wp2_with (first
      | (go_at_call 11; refine C0.mono ?_; rintro e w1 ⟨rfl, b1⟩)
      | (go_at_call 6; refine (C1 _ b1).mono ?_; rintro e w2 ⟨rfl, b2⟩; replace b2 := Below.next b1 b2))
    go_ret
    exact ⟨rfl, b2⟩

end Go.Proofs.YteocfkkdjejgdaaDoor
