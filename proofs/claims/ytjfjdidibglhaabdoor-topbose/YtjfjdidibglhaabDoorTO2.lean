/- The walk of the fact that both ask first. -/
import Derived.Test.YtjfjdidibglhaabDoorK3
import Derived.Test.YtjfjdidibglhaabDoorV6
import Derived.Test.YtjfjdidibglhaabDoorS12
import Derived.Test.YtjfjdidibglhaabDoorDPart
/- The one closed fact that both ask first. -/
namespace Go.Proofs.YtjfjdidibglhaabDoor
open Go.RowKit

theorem ra {n : Nat} {f : Nat → Bool} (h : (List.range n).all f = true) {i : Nat} (hi : i < n) : f i = true := List.all_eq_true.1 h i (List.mem_range.2 hi)
def plpB (v : Nat) (B : List (List Nat)) : Bool := ((List.range B.length).all fun i => (List.range i).all fun j => mt (B.getD i []) (B.getD j []) == 1) && (List.range v).all fun x => (List.range x).all fun y => nb B [y, x] == 1
theorem plp_of {v : Nat} {B : List (List Nat)} {s : List Nat} (h : plpB v B = true) (hv : 4 ≤ v) (hs : s.Pairwise (· < ·) ∧ ∀ x ∈ s, 0 ≤ x ∧ x < v) (h4 : s.length = 4) (hl : liB B s = false) : PlP v B := by
  unfold plpB at h
  rw [Bool.and_eq_true] at h
  refine ⟨fun i j b c hji hb hc => ?_, fun x y hy hx => beq_iff_eq.1 (ra (ra h.2 hx) hy), hv, s, rs_iff.2 hs, h4, hl⟩
  have := beq_iff_eq.1 (ra (ra h.1 (List.getElem?_eq_some_iff.1 hb).1) hji)
  rw [List.getD_eq_getElem?_getD, hb, List.getD_eq_getElem?_getD, hc] at this
  exact this
theorem root_two {R : Nat} (h : Fd.RootIs 2 3 (Fd.monL (Fd.digL 3 2 3)) R) : R = 2 := by
  have h2 : Fd.IsOrd 2 3 (Fd.monL (Fd.digL 3 2 3)) 2 (2 ^ 3 - 1) := by
    refine ⟨by decide, by decide +kernel, fun j h1 h2 => ?_⟩
    have : j = 1 ∨ j = 2 ∨ j = 3 ∨ j = 4 ∨ j = 5 ∨ j = 6 := by omega
    rcases this with rfl | rfl | rfl | rfl | rfl | rfl <;> decide +kernel
  have h1 : ¬ Fd.IsOrd 2 3 (Fd.monL (Fd.digL 3 2 3)) 1 (2 ^ 3 - 1) := fun h => h.2.2 1 (by decide) (by decide) (by decide +kernel)
  rcases h with ⟨a, b, c, d⟩ | ⟨rfl, h⟩
  · have : ¬ 2 < R := fun hh => d 2 (by omega) hh h2
    have : R ≠ 1 := fun e => h1 (e ▸ c)
    omega
  · exact absurd h2 (h 2 (by decide) (by decide))
theorem rep7 : rep 2 3 = 7 := by decide +kernel
theorem sg_fano : sgL 2 3 (Fd.monL (Fd.digL 3 2 3)) 2 7 = [1, 2, 4] := by decide +kernel
def fano : List (List Nat) := dvT 7 [1, 2, 4] 7
theorem good_fano : GoodD 7 fano := ⟨by decide, by decide, by decide +kernel, fun b hb => rs_iff.2 ((by decide +kernel : ∀ b ∈ fano, b.Pairwise (· < ·) ∧ ∀ x ∈ b, 0 ≤ x ∧ x < 7) b hb)⟩
theorem dF_fano : dF ((7 : Nat) : Int) (toZ fano) = 0 := by decide +kernel
theorem prp_fano : PrP 7 fano 3 := by
  obtain ⟨k, hk⟩ := (plp_of (v := 7) (B := fano) (s := [0, 1, 2, 5]) (by decide +kernel) (by decide) (by decide) rfl (by decide +kernel)).prp good_fano.bls
  have e : k = 3 := (hk.size (fano.getD 0 []) (by decide +kernel)).symm.trans (by decide +kernel)
  rw [← e]; exact hk
end Go.Proofs.YtjfjdidibglhaabDoor

namespace Go.Proofs.YtjfjdidibglhaabDoor
open Go.RowKit

theorem fbxT (a b c : Value) (w : World) : ∀ W, Below (w.alloc (.cells #[a, b, c] 24)).heap.size (w.alloc (.cells #[a, b, c] 24)) W → W.cell? ⟨w.heap.size, 0, none⟩ = some a ∧ W.cell? ⟨w.heap.size, 1, none⟩ = some b ∧ W.cell? ⟨w.heap.size, 2, none⟩ = some c := fun W hW => by
  have h := (hW.block w.heap.size (by simp)).trans (heap_alloc_new w _)
  exact ⟨by rw [cell_of_row W _ 0 _ _ _ h]; rfl, by rw [cell_of_row W _ 1 _ _ _ h]; rfl, by rw [cell_of_row W _ 2 _ _ _ h]; rfl⟩
set_option maxRecDepth 100000 in
set_option maxHeartbeats 8000000 in
theorem one_any (w : World) (hT : Tab w) (hF : Fd.Tab w) :
    Calls Tryd.prog 13 #[] w fun e w' => e = .returned (.bool true) ∧ Below w.heap.size w w' := by
  have C1 : Calls Tryd.prog 28 #[.int .i64 2, .int .i64 3] w fun e w' => ∃ a n c, e = .returned (.tuple #[.agg #[.int .i64 2, .int .i64 3, .slice a n c], .int .i64 0]) ∧ Hid (Sl w' (.slice a n c) (Fd.digL 3 2 3)) ∧ Below w.heap.size w w' := by
    refine (Fd.least_any 2 3 w hF).mono ?_
    rintro e w' ⟨q, d, v, l, z, rfl, hS, hL, b⟩
    obtain ⟨rfl, rfl, rfl, rfl⟩ := Fd.fact_least hL
    obtain ⟨a, c, rfl, _⟩ := id hS
    exact ⟨a, _, c, rfl, hS, b⟩
  have H2 : Hid (∀ (W : World) (v : Value), Below w.heap.size w W → Sl W v (Fd.digL 3 2 3) → Calls Tryd.prog 29 #[.agg #[.int .i64 2, .int .i64 3, v]] W fun e w' => ∃ xa xn xc, e = .returned (.tuple #[.int .i64 7, .slice xa xn xc, .int .i64 0]) ∧ Hid (Sl w' (.slice xa xn xc) (([1, 2, 4] : List Nat).map Int.ofNat)) ∧ Below W.heap.size W w') := fun W v hW hS => by
    have := Singer_ok 2 3 _ v W (hF.below hW) hS (by rw [Fd.digL_length]; decide) Fd.fact_good (by decide) (by rw [rep7]; decide)
    rw [rep7] at this
    refine this.mono ?_
    rintro e w' ⟨R, x, rfl, hR, hO, b⟩
    obtain rfl := root_two hR
    rw [sg_fano] at hO
    have hs := hO.sl
    obtain ⟨a, c, rfl, _⟩ := id hs
    exact ⟨a, _, c, rfl, hs, b⟩
  have H3 : Hid (∀ (W : World) (u : Value), Sl W u (([1, 2, 4] : List Nat).map Int.ofNat) → Calls Tryd.prog 30 #[.int .i64 7, u] W fun e w' => ∃ xa xn xc, e = .returned (.tuple #[.agg #[.int .i64 7, .slice xa xn xc], .int .i64 0]) ∧ Hid (Rw w' (.slice xa xn xc) (toZ fano)) ∧ Below W.heap.size W w') := fun W u hu => by
    refine (Dev_main 7 [1, 2, 4] u W ⟨by decide, by decide, by decide, by decide⟩ (by decide) hu).mono ?_
    rintro e w' ⟨y, rfl, hO, b⟩
    have hr := hO.rw
    obtain ⟨a, c, rfl⟩ := hO.cap
    exact ⟨a, _, c, rfl, hr, b⟩
  have H4 : Hid (∀ (W : World) (u : Value), Below w.heap.size w W → Rw W u (toZ fano) → Calls Tryd.prog 31 #[.agg #[.int .i64 7, u]] W fun e w' => e = .returned (.tuple #[.int .i64 2, .int .i64 0]) ∧ Below W.heap.size W w') := fun W u hW hu =>
    PCheck_yes 7 3 fano u W (hT.next hW) good_fano dF_fano hu prp_fano
  have HFB : Hid (∀ (W W' : World) (u : Value), Below (W.alloc (.cells #[.int .i64 2, .int .i64 3, u] 24)).heap.size (W.alloc (.cells #[.int .i64 2, .int .i64 3, u] 24)) W' → W'.cell? ⟨W.heap.size, 0, none⟩ = some (.int .i64 2) ∧ W'.cell? ⟨W.heap.size, 1, none⟩ = some (.int .i64 3) ∧ W'.cell? ⟨W.heap.size, 2, none⟩ = some u) := fun W W' u h => fbxT _ _ _ W W' h
  have HDB : Hid (∀ (W W' : World) (u : Value), Below (W.alloc (.cells #[.int .i64 7, u] 44)).heap.size (W.alloc (.cells #[.int .i64 7, u] 44)) W' → W'.cell? ⟨W.heap.size, 0, none⟩ = some (.int .i64 7) ∧ W'.cell? ⟨W.heap.size, 1, none⟩ = some u) := fun W W' u h => des_box 7 _ W W' h
  go_enter Tryd.func13, Tryd.ntmps13
  go_wp2_with (first
    | (go_at_call 28; refine C1.mono ?_; rintro e w1 ⟨a, n, c, rfl, HS1, b1⟩; clear C1; have c1 := balloc w1 (.cells #[.int .i64 2, .int .i64 3, .slice a n c] 24); obtain ⟨x0, x1, x2⟩ := HFB.out w1 (w1.alloc (.cells #[.int .i64 2, .int .i64 3, .slice a n c] 24)) (.slice a n c) (Below.refl _ _); replace b1 := Below.next b1 c1; have C2 := H2.out (w1.alloc (.cells #[.int .i64 2, .int .i64 3, .slice a n c] 24)) _ b1 (HS1.out.below c1))
    | (go_at_call 29; refine C2.mono ?_; rintro e w2 ⟨ya, yn, yc, rfl, HS2, b2⟩; clear C2; replace b2 := Below.next b1 b2; have C3 := H3.out w2 _ HS2.out)
    | (go_at_call 30; refine C3.mono ?_; rintro e w3 ⟨xa, xn, xc, rfl, HR2, b3⟩; clear C3; have c2 := balloc w3 (.cells #[.int .i64 7, .slice xa xn xc] 44); obtain ⟨d0, d1⟩ := HDB.out w3 (w3.alloc (.cells #[.int .i64 7, .slice xa xn xc] 44)) (.slice xa xn xc) (Below.refl _ _); replace b3 := Below.next (Below.next b2 b3) c2; have C4 := H4.out (w3.alloc (.cells #[.int .i64 7, .slice xa xn xc] 44)) _ b3 (HR2.out.below c2))
    | (go_at_call 31; refine C4.mono ?_; rintro e w4 ⟨rfl, b4⟩; clear C4; obtain ⟨f0, f1⟩ := HDB.out w3 w4 (.slice xa xn xc) b4; replace b4 := Below.next b3 b4))
  go_ret
  exact ⟨rfl, b4⟩

end Go.Proofs.YtjfjdidibglhaabDoor
