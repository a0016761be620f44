/- The law TopSinger. -/
import Derived.Test.YtgdkfbgehbdkjabDoorK3
import Derived.Test.YtgdkfbgehbdkjabDoorV6
import Derived.Test.YtgdkfbgehbdkjabDoorS12
import Derived.Test.YtgdkfbgehbdkjabDoorDPart
import Derived.Test.YtgdkfbgehbdkjabDoorVS3
import Derived.Test.YtgdkfbgehbdkjabDoorLL
import Derived.Test.YtgdkfbgehbdkjabDoorTSg0
import Derived.Test.YtgdkfbgehbdkjabDoorC3
/- The walk of the fact that both ask first. -/
/- The one closed fact that both ask first. -/
namespace Go.Proofs.YtgdkfbgehbdkjabDoor
open Go.RowKit

theorem ra {n : Nat} {f : Nat → Bool} (h : (List.range n).all f = true) {i : Nat} (hi : i < n) : f i = true := List.all_eq_true.1 h i (List.mem_range.2 hi)
def plpB (v : Nat) (B : List (List Nat)) : Bool := ((List.range B.length).all fun i => (List.range i).all fun j => mt (B.getD i []) (B.getD j []) == 1) && (List.range v).all fun x => (List.range x).all fun y => nb B [y, x] == 1
theorem plp_of {v : Nat} {B : List (List Nat)} {s : List Nat} (h : plpB v B = true) (hv : 4 ≤ v) (hs : s.Pairwise (· < ·) ∧ ∀ x ∈ s, 0 ≤ x ∧ x < v) (h4 : s.length = 4) (hl : liB B s = false) : PlP v B := by
  unfold plpB at h
  rw [Bool.and_eq_true] at h
  refine ⟨fun i j b c hji hb hc => ?_, fun x y hy hx => beq_iff_eq.1 (ra (ra h.2 hx) hy), hv, s, rs_iff.2 hs, h4, hl⟩
  have := beq_iff_eq.1 (ra (ra h.1 (List.getElem?_eq_some_iff.1 hb).1) hji)
  rw [List.getD_eq_getElem?_getD, hb, List.getD_eq_getElem?_getD, hc] at this
  exact this
theorem root_two {R : Nat} (h : Fd.RootIs 2 3 (Fd.monL (Fd.digL 3 2 3)) R) : R = 2 := by
  have h2 : Fd.IsOrd 2 3 (Fd.monL (Fd.digL 3 2 3)) 2 (2 ^ 3 - 1) := by
    refine ⟨by decide, by decide +kernel, fun j h1 h2 => ?_⟩
    have : j = 1 ∨ j = 2 ∨ j = 3 ∨ j = 4 ∨ j = 5 ∨ j = 6 := by omega
    rcases this with rfl | rfl | rfl | rfl | rfl | rfl <;> decide +kernel
  have h1 : ¬ Fd.IsOrd 2 3 (Fd.monL (Fd.digL 3 2 3)) 1 (2 ^ 3 - 1) := fun h => h.2.2 1 (by decide) (by decide) (by decide +kernel)
  rcases h with ⟨a, b, c, d⟩ | ⟨rfl, h⟩
  · have : ¬ 2 < R := fun hh => d 2 (by omega) hh h2
    have : R ≠ 1 := fun e => h1 (e ▸ c)
    omega
  · exact absurd h2 (h 2 (by decide) (by decide))
theorem rep7 : rep 2 3 = 7 := by decide +kernel
theorem sg_fano : sgL 2 3 (Fd.monL (Fd.digL 3 2 3)) 2 7 = [1, 2, 4] := by decide +kernel
def fano : List (List Nat) := dvT 7 [1, 2, 4] 7
theorem good_fano : GoodD 7 fano := ⟨by decide, by decide, by decide +kernel, fun b hb => rs_iff.2 ((by decide +kernel : ∀ b ∈ fano, b.Pairwise (· < ·) ∧ ∀ x ∈ b, 0 ≤ x ∧ x < 7) b hb)⟩
theorem dF_fano : dF ((7 : Nat) : Int) (toZ fano) = 0 := by decide +kernel
theorem prp_fano : PrP 7 fano 3 := by
  obtain ⟨k, hk⟩ := (plp_of (v := 7) (B := fano) (s := [0, 1, 2, 5]) (by decide +kernel) (by decide) (by decide) rfl (by decide +kernel)).prp good_fano.bls
  have e : k = 3 := (hk.size (fano.getD 0 []) (by decide +kernel)).symm.trans (by decide +kernel)
  rw [← e]; exact hk
end Go.Proofs.YtgdkfbgehbdkjabDoor

namespace Go.Proofs.YtgdkfbgehbdkjabDoor
open Go.RowKit

theorem fbxT (a b c : Value) (w : World) : ∀ W, Below (w.alloc (.cells #[a, b, c] 24)).heap.size (w.alloc (.cells #[a, b, c] 24)) W → W.cell? ⟨w.heap.size, 0, none⟩ = some a ∧ W.cell? ⟨w.heap.size, 1, none⟩ = some b ∧ W.cell? ⟨w.heap.size, 2, none⟩ = some c := fun W hW => by
  have h := (hW.block w.heap.size (by simp)).trans (heap_alloc_new w _)
  exact ⟨by rw [cell_of_row W _ 0 _ _ _ h]; rfl, by rw [cell_of_row W _ 1 _ _ _ h]; rfl, by rw [cell_of_row W _ 2 _ _ _ h]; rfl⟩
set_option maxRecDepth 100000 in
set_option maxHeartbeats 8000000 in
theorem one_any (w : World) (hT : Tab w) (hF : Fd.Tab w) :
    Calls Tryd.prog 5 #[] w fun e w' => e = .returned (.bool true) ∧ Below w.heap.size w w' := by
  have C1 : Calls Tryd.prog 16 #[.int .i64 2, .int .i64 3] w fun e w' => ∃ a n c, e = .returned (.tuple #[.agg #[.int .i64 2, .int .i64 3, .slice a n c], .int .i64 0]) ∧ Hid (Sl w' (.slice a n c) (Fd.digL 3 2 3)) ∧ Below w.heap.size w w' := by
    refine (Fd.least_any 2 3 w hF).mono ?_
    rintro e w' ⟨q, d, v, l, z, rfl, hS, hL, b⟩
    obtain ⟨rfl, rfl, rfl, rfl⟩ := Fd.fact_least hL
    obtain ⟨a, c, rfl, _⟩ := id hS
    exact ⟨a, _, c, rfl, hS, b⟩
  have H2 : Hid (∀ (W : World) (v : Value), Below w.heap.size w W → Sl W v (Fd.digL 3 2 3) → Calls Tryd.prog 6 #[.agg #[.int .i64 2, .int .i64 3, v]] W fun e w' => ∃ xa xn xc, e = .returned (.tuple #[.int .i64 7, .slice xa xn xc, .int .i64 0]) ∧ Hid (Sl w' (.slice xa xn xc) (([1, 2, 4] : List Nat).map Int.ofNat)) ∧ Below W.heap.size W w') := fun W v hW hS => by
    have := Singer_ok 2 3 _ v W (hF.below hW) hS (by rw [Fd.digL_length]; decide) Fd.fact_good (by decide) (by rw [rep7]; decide)
    rw [rep7] at this
    refine this.mono ?_
    rintro e w' ⟨R, x, rfl, hR, hO, b⟩
    obtain rfl := root_two hR
    rw [sg_fano] at hO
    have hs := hO.sl
    obtain ⟨a, c, rfl, _⟩ := id hs
    exact ⟨a, _, c, rfl, hs, b⟩
  have H3 : Hid (∀ (W : World) (u : Value), Sl W u (([1, 2, 4] : List Nat).map Int.ofNat) → Calls Tryd.prog 8 #[.int .i64 7, u] W fun e w' => ∃ xa xn xc, e = .returned (.tuple #[.agg #[.int .i64 7, .slice xa xn xc], .int .i64 0]) ∧ Hid (Rw w' (.slice xa xn xc) (toZ fano)) ∧ Below W.heap.size W w') := fun W u hu => by
    refine (Dev_main 7 [1, 2, 4] u W ⟨by decide, by decide, by decide, by decide⟩ (by decide) hu).mono ?_
    rintro e w' ⟨y, rfl, hO, b⟩
    have hr := hO.rw
    obtain ⟨a, c, rfl⟩ := hO.cap
    exact ⟨a, _, c, rfl, hr, b⟩
  have H4 : Hid (∀ (W : World) (u : Value), Below w.heap.size w W → Rw W u (toZ fano) → Calls Tryd.prog 10 #[.agg #[.int .i64 7, u]] W fun e w' => e = .returned (.tuple #[.int .i64 2, .int .i64 0]) ∧ Below W.heap.size W w') := fun W u hW hu =>
    PCheck_yes 7 3 fano u W (hT.next hW) good_fano dF_fano hu prp_fano
  have HFB : Hid (∀ (W W' : World) (u : Value), Below (W.alloc (.cells #[.int .i64 2, .int .i64 3, u] 24)).heap.size (W.alloc (.cells #[.int .i64 2, .int .i64 3, u] 24)) W' → W'.cell? ⟨W.heap.size, 0, none⟩ = some (.int .i64 2) ∧ W'.cell? ⟨W.heap.size, 1, none⟩ = some (.int .i64 3) ∧ W'.cell? ⟨W.heap.size, 2, none⟩ = some u) := fun W W' u h => fbxT _ _ _ W W' h
  have HDB : Hid (∀ (W W' : World) (u : Value), Below (W.alloc (.cells #[.int .i64 7, u] 33)).heap.size (W.alloc (.cells #[.int .i64 7, u] 33)) W' → W'.cell? ⟨W.heap.size, 0, none⟩ = some (.int .i64 7) ∧ W'.cell? ⟨W.heap.size, 1, none⟩ = some u) := fun W W' u h => des_box 7 _ W W' h
  go_enter Tryd.func5, Tryd.ntmps5
  go_wp2_with (first
    | (go_at_call 16; refine C1.mono ?_; rintro e w1 ⟨a, n, c, rfl, HS1, b1⟩; clear C1; have c1 := balloc w1 (.cells #[.int .i64 2, .int .i64 3, .slice a n c] 24); obtain ⟨x0, x1, x2⟩ := HFB.out w1 (w1.alloc (.cells #[.int .i64 2, .int .i64 3, .slice a n c] 24)) (.slice a n c) (Below.refl _ _); replace b1 := Below.next b1 c1; have C2 := H2.out (w1.alloc (.cells #[.int .i64 2, .int .i64 3, .slice a n c] 24)) _ b1 (HS1.out.below c1))
    | (go_at_call 6; refine C2.mono ?_; rintro e w2 ⟨ya, yn, yc, rfl, HS2, b2⟩; clear C2; replace b2 := Below.next b1 b2; have C3 := H3.out w2 _ HS2.out)
    | (go_at_call 8; refine C3.mono ?_; rintro e w3 ⟨xa, xn, xc, rfl, HR2, b3⟩; clear C3; have c2 := balloc w3 (.cells #[.int .i64 7, .slice xa xn xc] 33); obtain ⟨d0, d1⟩ := HDB.out w3 (w3.alloc (.cells #[.int .i64 7, .slice xa xn xc] 33)) (.slice xa xn xc) (Below.refl _ _); replace b3 := Below.next (Below.next b2 b3) c2; have C4 := H4.out (w3.alloc (.cells #[.int .i64 7, .slice xa xn xc] 33)) _ b3 (HR2.out.below c2))
    | (go_at_call 10; refine C4.mono ?_; rintro e w4 ⟨rfl, b4⟩; clear C4; obtain ⟨f0, f1⟩ := HDB.out w3 w4 (.slice xa xn xc) b4; replace b4 := Below.next b3 b4))
  go_ret
  exact ⟨rfl, b4⟩

end Go.Proofs.YtgdkfbgehbdkjabDoor

/- What Singer's sets, developed, are: designs; of degree three, planes. -/
namespace Go.Proofs.YtgdkfbgehbdkjabDoor
open Go.RowKit

theorem imL_perm {v i : Nat} {D : List Nat} (hG : GoodS v D) : (imL v D 1 i).Perm (D.map (mvN v 1 i)) := by
  rw [imL_s3 hG (Nat.coprime_one_left v)]
  exact s3_perm _
theorem dvT_at {v k i : Nat} {D : List Nat} (h : i < k) : (dvT v D k).getD i [] = imL v D 1 i := by
  unfold dvT
  rw [List.getD_eq_getElem?_getD, List.getElem?_map, List.getElem?_range h]
  rfl
theorem dv_good {v : Nat} {D : List Nat} (hG : GoodS v D) (h40 : v ≤ 40) : GoodD v (dvT v D v) := by
  refine ⟨hG.pos, h40, by rw [dvT_len]; omega, fun b hb => ?_⟩
  obtain ⟨i, _, rfl⟩ := List.mem_map.1 hb
  refine rs_iff.2 ⟨List.pairwise_lt_range.sublist List.filter_sublist, fun x hx => ⟨Nat.zero_le _, ?_⟩⟩
  exact imF_lt hG.pos (List.mem_filter.1 hx).2
theorem dv_ok {v : Nat} {D : List Nat} (hG : GoodS v D) (h : lvB v D = true) : LvOk v (dvT v D v) 2 D.length (dfN v D 1) := by
  have h1 := hG.pos
  refine ⟨fun e => ?_, fun b hb => ?_, ?_⟩
  · have := dvT_len v D v
    rw [e] at this
    simp at this
    omega
  · obtain ⟨i, _, rfl⟩ := List.mem_map.1 hb
    rw [(imL_perm hG).length_eq, List.length_map]
  · exact lev_dev h1 hG.pts (lvB_lev h1 hG.pts h) (dvT_len v D v) fun i hi => by rw [dvT_at hi]; exact imL_perm hG
theorem LevelD_dev (v : Nat) (D : List Nat) (y : Value) (w : World) (hG : GoodS v D) (h40 : v ≤ 40) (h2 : 2 ≤ v) (h : lvB v D = true) (hy : Rw w y (toZ (dvT v D v))) :
    Calls Tryd.prog 9 #[.agg #[.int .i64 (v : Int), y], .int .i64 2] w fun e w' => e = .returned (.tuple #[.int .i64 (D.length : Int), .int .i64 (dfN v D 1 : Int), .int .i64 0]) ∧ Below w.heap.size w w' := by
  refine (Level_any v 2 _ y w (dv_good hG h40) hy).mono ?_
  rintro e w' ⟨h', hb⟩
  refine ⟨?_, hb⟩
  rcases h' with ⟨h', _⟩ | ⟨m, hm, _, _, h'⟩
  · omega
  · obtain rfl : m = 2 := by omega
    have hs := dv_ok hG h
    rcases h' with ⟨k, l, ho, rfl⟩ | ⟨hn, _⟩
    · obtain ⟨rfl, rfl⟩ := ho.one h2 hs
      rfl
    · exact (hn ⟨_, _, hs⟩).elim
theorem dv_plane {v k : Nat} {D : List Nat} (hG : GoodS v D) (h40 : v ≤ 40) (h : lvB v D = true) (h1 : dfN v D 1 = 1) (hk : D.length = k) (h3 : 3 ≤ k) (hv : k < v) : PrP v (dvT v D v) k := by
  have hs := dv_ok hG h
  rw [h1, hk] at hs
  have hB := (dv_good hG h40).bls
  obtain ⟨r, T⟩ := two_of hB hs.2.1 (by omega) hv hs.2.2
  have hl := dvT_len v D v
  refine ⟨hs.2.1, h3, hs.2.2, ⟨1, by omega, by omega⟩, fun i j b c hji hb hc => ?_⟩
  have hi := (List.getElem?_eq_some_iff.1 hb).1
  have hj := (List.getElem?_eq_some_iff.1 hc).1
  have := ryser_at T (by omega) hv hl hi hj (by omega)
  rw [List.getD_eq_getElem?_getD, hb, List.getD_eq_getElem?_getD, hc] at this
  exact this
theorem rep_small {P K : Nat} (h2 : 2 ≤ P) (h : P ^ K ≤ 64) (hr : rep P K ≤ 60) : rep P K ≤ 31 := by
  have e := rep_pow (P := P) (by omega) K
  by_cases hp : P = 2
  · subst hp
    by_cases hK : K ≤ 5
    · have : ∀ K, K ≤ 5 → rep 2 K ≤ 31 := by decide
      exact this K hK
    · have : 2 ^ 6 ≤ 2 ^ K := Nat.pow_le_pow_right (by decide) (by omega)
      omega
  · have : rep P K * 2 ≤ rep P K * (P - 1) := Nat.mul_le_mul_left _ (by omega)
    have e2 : (P - 1) * rep P K = rep P K * (P - 1) := Nat.mul_comm _ _
    omega
theorem rep_two' (P : Nat) : rep P 2 = P + 1 := by simp [rep]
theorem rep_one' (P : Nat) : rep P 1 = 1 := by simp [rep]
theorem rep_lt {P K : Nat} (h2 : 2 ≤ P) (hK : 1 ≤ K) : rep P (K - 1) < rep P K := by
  obtain ⟨k, rfl⟩ : ∃ k, K = k + 1 := ⟨K - 1, by omega⟩
  rw [Nat.add_sub_cancel, rep]
  have := Nat.mul_le_mul_left (rep P k) h2
  omega
theorem sing_good {P K R : Nat} {l : List Int} (hG : Fd.GoodF P K l) (hK : 3 ≤ K) (hr : rep P K ≤ 60) (hR : Fd.RootIs P K (Fd.monL l) R) :
    rep P K ≤ 31 ∧ 7 ≤ rep P K ∧ GoodS (rep P K) (sgL P K (Fd.monL l) R (rep P K)) ∧ lvB (rep P K) (sgL P K (Fd.monL l) R (rep P K)) = true ∧ (sgL P K (Fd.monL l) R (rep P K)).length = rep P (K - 1) ∧ (K = 3 → PrP (rep P K) (dvT (rep P K) (sgL P K (Fd.monL l) R (rep P K)) (rep P K)) (P + 1)) := by
  have h2 := hG.field.two
  obtain ⟨a1, a2, a3⟩ := sing_lev hG hK hr hR
  have h7 := rep_two (P := P) h2 hK
  have h31 := rep_small h2 hG.le64 hr
  have hS : GoodS (rep P K) (sgL P K (Fd.monL l) R (rep P K)) := sg_good (by omega) hr
  refine ⟨h31, h7, hS, a1, a3, fun e => ?_⟩
  subst e
  refine dv_plane hS (by omega) a1 (by rw [a2]; exact rep_one' P) (by rw [a3]; exact rep_two' P) (by omega) ?_
  have := rep_lt (K := 3) h2 (by omega)
  rw [show (3 : Nat) - 1 = 2 by rfl, rep_two'] at this
  exact this

end Go.Proofs.YtgdkfbgehbdkjabDoor
namespace Go.Proofs.YtgdkfbgehbdkjabDoor.Fd
theorem fault_tot (p k : Int) (l : List Int) : ∃ z, FaultIs p k l z := by
  by_cases h1 : ordZ p k = 0
  · exact ⟨1, .inl ⟨h1, rfl⟩⟩
  by_cases h2 : (l.length : Int) = k
  · by_cases h3 : inL p l
    · by_cases h4 : irrP (monL l) k.toNat p.toNat
      · exact ⟨0, .inr (.inr (.inr (.inr ⟨h1, h2, h3, h4, rfl⟩)))⟩
      · exact ⟨4, .inr (.inr (.inr (.inl ⟨h1, h2, h3, h4, rfl⟩)))⟩
    · exact ⟨1, .inr (.inr (.inl ⟨h1, h2, h3, rfl⟩))⟩
  · exact ⟨2, .inr (.inl ⟨h1, h2, rfl⟩)⟩
end Go.Proofs.YtgdkfbgehbdkjabDoor.Fd

namespace Go.Proofs.YtgdkfbgehbdkjabDoor
open Go.RowKit

set_option maxRecDepth 100000 in
set_option maxHeartbeats 8000000 in
theorem Top_early (p k z : Int) (v : Value) (w : World) (hT : Tab w) (hF : Fd.Tab w) (hz : z ≠ 0) (hv : ∃ a n c, v = .slice a n c)
    (H6 : Hid (∀ W, Below w.heap.size w W → Calls Tryd.prog 6 #[.agg #[.int .i64 p, .int .i64 k, v]] W fun e w' => e = .returned (.tuple #[.int .i64 0, .slice none 0 0, .int .i64 z]) ∧ Below W.heap.size W w')) :
    Calls Tryd.prog 3 #[.agg #[.int .i64 p, .int .i64 k, v]] w fun e w' => e = .returned (.bool true) ∧ Below w.heap.size w w' := by
  obtain ⟨a, n, c, rfl⟩ := hv
  have b0 := balloc w (.cells #[.int .i64 p, .int .i64 k, .slice a n c] 24)
  have C5 := one_any _ (hT.next b0) (hF.below b0)
  have HB : Hid (∀ W', Below (w.alloc (.cells #[.int .i64 p, .int .i64 k, .slice a n c] 24)).heap.size (w.alloc (.cells #[.int .i64 p, .int .i64 k, .slice a n c] 24)) W' → W'.cell? ⟨w.heap.size, 0, none⟩ = some (.int .i64 p) ∧ W'.cell? ⟨w.heap.size, 1, none⟩ = some (.int .i64 k) ∧ W'.cell? ⟨w.heap.size, 2, none⟩ = some (.slice a n c)) := fun W' h => fbxT _ _ _ w W' h
  have hz2 : (z != 0) = true := by simpa using hz
  clear hT hF
  go_enter Tryd.func3, Tryd.ntmps3
  go_wp2_with (first
    | (go_at_call 5; refine C5.mono ?_; rintro e w1 ⟨rfl, b1⟩; clear C5; obtain ⟨x0, x1, x2⟩ := HB.out w1 b1; have C6 := H6.out w1 (Below.next b0 b1))
    | (go_at_call 6; refine C6.mono ?_; rintro e w2 ⟨rfl, b2⟩; clear C6; have HB2 : Hid (Below w.heap.size w w2) := Below.next (Below.next b0 b1) b2))
  go_ret
  exact ⟨rfl, HB2.out⟩

/-- What Singer answers of a field of degree three or more. -/
structure SgD (P K r m : Nat) (D : List Nat) : Prop where
  good : GoodS r D
  lev : lvB r D = true
  len : D.length = m
  pl : K = 3 → PrP r (dvT r D r) (P + 1)
set_option maxRecDepth 100000 in
set_option maxHeartbeats 16000000 in
theorem Top_ok (P K : Nat) (l : List Int) (v : Value) (w : World) (hT : Tab w) (hF : Fd.Tab w) (hl : Sl w v l) (hll : l.length ≤ maxLen) (hG : Fd.GoodF P K l) (hK : 3 ≤ K) (hr : rep P K ≤ 60) :
    Calls Tryd.prog 3 #[.agg #[.int .i64 (P : Int), .int .i64 (K : Int), v]] w fun e w' => e = .returned (.bool true) ∧ Below w.heap.size w w' := by
  have h2 := hG.field.two
  have h61 := hG.le61
  have h6 := hG.le6
  have h31 := rep_small h2 hG.le64 hr
  have h7 := rep_two (P := P) h2 hK
  have hlt := rep_lt (K := K) h2 (by omega)
  obtain ⟨r, Hr⟩ : ∃ r, Hid (rep P K = r) := ⟨_, rfl⟩
  obtain ⟨m, Hm⟩ : ∃ m, Hid (rep P (K - 1) = m) := ⟨_, rfl⟩
  obtain ⟨km, hkm⟩ : ∃ km : Nat, (K : Int) - 1 = (km : Int) := ⟨K - 1, by omega⟩
  have H6 : Hid (∀ W, Below w.heap.size w W → Calls Tryd.prog 6 #[.agg #[.int .i64 (P : Int), .int .i64 (K : Int), v]] W fun e w' => ∃ xa xc D, e = .returned (.tuple #[.int .i64 (r : Int), .slice xa m xc, .int .i64 0]) ∧ Hid (SgD P K r m D ∧ Sl w' (.slice xa m xc) (D.map Int.ofNat)) ∧ Below W.heap.size W w') := fun W hW => by
    refine (Singer_ok P K l v W (hF.below hW) (hl.below hW) hll hG hK hr).mono ?_
    rintro e w' ⟨R, x, rfl, hR, hO, b⟩
    obtain ⟨_, _, g1, g2, g3, g4⟩ := sing_good hG hK hr hR
    have hs := hO.sl
    obtain ⟨a, c, rfl, _⟩ := id hs
    rw [Hr.out] at g1 g2 g3 g4 hs ⊢
    rw [List.length_map, g3, Hm.out] at hs ⊢
    exact ⟨a, c, _, rfl, ⟨⟨g1, g2, g3.trans Hm.out, g4⟩, hs⟩, b⟩
  have H7 : Hid (∀ W, Calls Tryd.prog 7 #[.int .i64 (K : Int), .int .i64 1, .int .i64 (P : Int)] W fun e w' => e = .returned (.tuple #[.int .i64 (r : Int), .int .i64 0]) ∧ Below W.heap.size W w') := fun W => by
    have h := Gauss_any K 1 P W (by omega) (by omega) h2 (by omega)
    unfold gA gE at h
    rw [← rep_gs, if_pos (by omega), if_pos (by omega), Hr.out] at h
    exact h
  have H7b : Hid (∀ W, Calls Tryd.prog 7 #[.int .i64 (km : Int), .int .i64 1, .int .i64 (P : Int)] W fun e w' => e = .returned (.tuple #[.int .i64 (m : Int), .int .i64 0]) ∧ Below W.heap.size W w') := fun W => by
    have e : km = K - 1 := by omega
    subst e
    have h := Gauss_any (K - 1) 1 P W (by omega) (by omega) h2 (by omega)
    unfold gA gE at h
    rw [← rep_gs, if_pos (by omega), if_pos (by omega), Hm.out] at h
    exact h
  rw [Hr.out] at h31 h7
  have H8 : Hid (∀ (W : World) (u : Value) (D : List Nat), SgD P K r m D → Sl W u (D.map Int.ofNat) → Calls Tryd.prog 8 #[.int .i64 (r : Int), u] W fun e w' => ∃ xa xn xc, e = .returned (.tuple #[.agg #[.int .i64 (r : Int), .slice xa xn xc], .int .i64 0]) ∧ Hid (Rw w' (.slice xa xn xc) (toZ (dvT r D r))) ∧ Below W.heap.size W w') := fun W u D hD hu => by
    refine (Dev_main r D u W hD.good (by omega) hu).mono ?_
    rintro e w' ⟨y, rfl, hO, b⟩
    have hr := hO.rw
    obtain ⟨a, c, rfl⟩ := hO.cap
    exact ⟨a, _, c, rfl, hr, b⟩
  have H9 : Hid (∀ (W : World) (u : Value) (D : List Nat), SgD P K r m D → Rw W u (toZ (dvT r D r)) → Calls Tryd.prog 9 #[.agg #[.int .i64 (r : Int), u], .int .i64 2] W fun e w' => (∃ lv : Int, e = .returned (.tuple #[.int .i64 (m : Int), .int .i64 lv, .int .i64 0])) ∧ Below W.heap.size W w') := fun W u D hD hu => by
    refine (LevelD_dev r D u W hD.good (by omega) (by omega) hD.lev hu).mono ?_
    rintro e w' ⟨rfl, b⟩
    rw [hD.len]
    exact ⟨⟨_, rfl⟩, b⟩
  have H10 : Hid (∀ (W : World) (u : Value) (D : List Nat), Below w.heap.size w W → K = 3 → SgD P K r m D → Rw W u (toZ (dvT r D r)) → Calls Tryd.prog 10 #[.agg #[.int .i64 (r : Int), u]] W fun e w' => e = .returned (.tuple #[.int .i64 (P : Int), .int .i64 0]) ∧ Below W.heap.size W w') := fun W u D hW h3 hD hu => by
    have hg := dv_good hD.good (show r ≤ 40 by omega)
    have h := PCheck_yes r (P + 1) _ u W (hT.next hW) hg (good_dF hg) hu (hD.pl h3)
    rw [show ((P + 1 : Nat) : Int) - 1 = (P : Int) by omega] at h
    exact h
  obtain ⟨a, n, c, rfl⟩ : ∃ a n c, v = .slice a n c := by obtain ⟨a, c, e, _⟩ := hl; exact ⟨a, _, c, e⟩
  have b0 := balloc w (.cells #[.int .i64 (P : Int), .int .i64 (K : Int), .slice a n c] 24)
  have C5 := one_any _ (hT.next b0) (hF.below b0)
  have HB : Hid (∀ W', Below (w.alloc (.cells #[.int .i64 (P : Int), .int .i64 (K : Int), .slice a n c] 24)).heap.size (w.alloc (.cells #[.int .i64 (P : Int), .int .i64 (K : Int), .slice a n c] 24)) W' → W'.cell? ⟨w.heap.size, 0, none⟩ = some (.int .i64 (P : Int)) ∧ W'.cell? ⟨w.heap.size, 1, none⟩ = some (.int .i64 (K : Int)) ∧ W'.cell? ⟨w.heap.size, 2, none⟩ = some (.slice a n c)) := fun W' h => fbxT _ _ _ w W' h
  have HDB : Hid (∀ (W W' : World) (u : Value), Below (W.alloc (.cells #[.int .i64 (r : Int), u] 33)).heap.size (W.alloc (.cells #[.int .i64 (r : Int), u] 33)) W' → W'.cell? ⟨W.heap.size, 0, none⟩ = some (.int .i64 (r : Int)) ∧ W'.cell? ⟨W.heap.size, 1, none⟩ = some u) := fun W W' u h => des_box r _ W W' h
  have hkm1 : 1 ≤ K := by omega
  clear hT hF hl hll hG hlt h2 hr
  by_cases h3 : K = 3
  · have d3 : ((K : Int) != 3) = false := by simp; omega
    have HK3 : Hid (K = 3) := h3
    clear h3
    go_enter Tryd.func3, Tryd.ntmps3
    go_wp2_with (first
      | (go_at_call 5; refine C5.mono ?_; rintro e w1 ⟨rfl, b1⟩; clear C5; obtain ⟨x0, x1, x2⟩ := HB.out w1 b1; have C6 := H6.out w1 (Below.next b0 b1))
      | (go_at_call 6; refine C6.mono ?_; rintro e w2 ⟨xa, xc, D, rfl, HD, b2⟩; clear C6; replace b2 := Below.next b1 b2; clear x0 x1 x2; obtain ⟨x0, x1, x2⟩ := HB.out w2 b2; have C7 := H7.out w2)
      | (go_at_call 7; refine C7.mono ?_; rintro e w3 ⟨rfl, b3⟩; clear C7; have HS3 : Hid (Sl w3 (.slice xa m xc) (D.map Int.ofNat)) := HD.out.2.below b3; replace b3 := Below.next b2 b3; clear x0 x1 x2; obtain ⟨x0, x1, x2⟩ := HB.out w3 b3; have C7b := H7b.out w3)
      | (go_at_call 7; refine C7b.mono ?_; rintro e w4 ⟨rfl, b4⟩; clear C7b; have HS4 : Hid (Sl w4 (.slice xa m xc) (D.map Int.ofNat)) := HS3.out.below b4; replace b4 := Below.next b3 b4; clear x0 x1 x2; obtain ⟨x0, x1, x2⟩ := HB.out w4 b4; have C8 := H8.out w4 _ D HD.out.1 HS4.out)
      | (go_at_call 8; refine C8.mono ?_; rintro e w5 ⟨ya, yn, yc, rfl, HR5, b5⟩; clear C8; have c5 := balloc w5 (.cells #[.int .i64 (r : Int), .slice ya yn yc] 33); obtain ⟨d0, d1⟩ := HDB.out w5 _ (.slice ya yn yc) (Below.refl _ _); replace b5 := Below.next (Below.next b4 b5) c5; clear x0 x1 x2; obtain ⟨x0, x1, x2⟩ := HB.out _ b5; have C9 := H9.out _ _ D HD.out.1 (HR5.out.below c5))
      | (go_at_call 9; refine C9.mono ?_; rintro e w6 ⟨⟨lv, rfl⟩, b6⟩; clear C9; clear d0 d1; obtain ⟨d0, d1⟩ := HDB.out w5 _ (.slice ya yn yc) b6; have HR6 : Hid (Rw w6 (.slice ya yn yc) (toZ (dvT r D r))) := (HR5.out.below c5).below b6; replace b6 := Below.next b5 b6; clear x0 x1 x2; obtain ⟨x0, x1, x2⟩ := HB.out _ b6; have C10 := H10.out w6 _ D (Below.next b0 b6) HK3.out HD.out.1 HR6.out)
      | (go_at_call 10; refine C10.mono ?_; rintro e w7 ⟨rfl, b7⟩; clear C10; replace b7 := Below.next b6 b7; clear x0 x1 x2; obtain ⟨x0, x1, x2⟩ := HB.out _ b7))
    go_ret
    exact ⟨rfl, Below.next b0 b7⟩
  · have d3 : ((K : Int) != 3) = true := by simp; omega
    have d3' : ¬ (K : Int) = 3 := by omega
    go_enter Tryd.func3, Tryd.ntmps3
    go_wp2_with (first
      | (go_at_call 5; refine C5.mono ?_; rintro e w1 ⟨rfl, b1⟩; clear C5; obtain ⟨x0, x1, x2⟩ := HB.out w1 b1; have C6 := H6.out w1 (Below.next b0 b1))
      | (go_at_call 6; refine C6.mono ?_; rintro e w2 ⟨xa, xc, D, rfl, HD, b2⟩; clear C6; replace b2 := Below.next b1 b2; clear x0 x1 x2; obtain ⟨x0, x1, x2⟩ := HB.out w2 b2; have C7 := H7.out w2)
      | (go_at_call 7; refine C7.mono ?_; rintro e w3 ⟨rfl, b3⟩; clear C7; have HS3 : Hid (Sl w3 (.slice xa m xc) (D.map Int.ofNat)) := HD.out.2.below b3; replace b3 := Below.next b2 b3; clear x0 x1 x2; obtain ⟨x0, x1, x2⟩ := HB.out w3 b3; have C7b := H7b.out w3)
      | (go_at_call 7; refine C7b.mono ?_; rintro e w4 ⟨rfl, b4⟩; clear C7b; have HS4 : Hid (Sl w4 (.slice xa m xc) (D.map Int.ofNat)) := HS3.out.below b4; replace b4 := Below.next b3 b4; clear x0 x1 x2; obtain ⟨x0, x1, x2⟩ := HB.out w4 b4; have C8 := H8.out w4 _ D HD.out.1 HS4.out)
      | (go_at_call 8; refine C8.mono ?_; rintro e w5 ⟨ya, yn, yc, rfl, HR5, b5⟩; clear C8; have c5 := balloc w5 (.cells #[.int .i64 (r : Int), .slice ya yn yc] 33); obtain ⟨d0, d1⟩ := HDB.out w5 _ (.slice ya yn yc) (Below.refl _ _); replace b5 := Below.next (Below.next b4 b5) c5; clear x0 x1 x2; obtain ⟨x0, x1, x2⟩ := HB.out _ b5; have C9 := H9.out _ _ D HD.out.1 (HR5.out.below c5))
      | (go_at_call 9; refine C9.mono ?_; rintro e w6 ⟨⟨lv, rfl⟩, b6⟩; clear C9; clear d0 d1; replace b6 := Below.next b5 b6; clear x0 x1 x2; obtain ⟨x0, x1, x2⟩ := HB.out _ b6))
    go_ret
    exact ⟨rfl, Below.next b0 b6⟩

theorem TopSinger_any (p k : Int) (l : List Int) (v : Value) (w : World) (hT : Tab w) (hF : Fd.Tab w) (hl : Sl w v l) (hll : l.length ≤ maxLen) :
    Calls Tryd.prog 3 #[.agg #[.int .i64 p, .int .i64 k, v]] w fun e w' => e = .returned (.bool true) ∧ Below w.heap.size w w' := by
  have hv : ∃ a n c, v = .slice a n c := by obtain ⟨a, c, e, _⟩ := hl; exact ⟨a, _, c, e⟩
  obtain ⟨z, hz⟩ := Fd.fault_tot p k l
  by_cases h0 : z = 0
  · subst h0
    obtain ⟨P, K, rfl, rfl, hG⟩ := Fd.good_of hz
    by_cases hK : 3 ≤ K
    · by_cases hr : rep P K ≤ 60
      · exact Top_ok P K l v w hT hF hl hll hG hK hr
      · exact Top_early _ _ 3 v w hT hF (by decide) hv fun W hW => Singer_full P K l v W (hF.below hW) (hl.below hW) hll hG hK (by omega)
    · exact Top_early _ _ 4 v w hT hF (by decide) hv fun W hW => Singer_none P K l v W (hF.below hW) (hl.below hW) hll hG (by omega)
  · exact Top_early p k z v w hT hF h0 hv fun W hW => Singer_bad p k z l v W (hF.below hW) (hl.below hW) hll hz h0

end Go.Proofs.YtgdkfbgehbdkjabDoor
