/- The law SpacePascal, walked. -/
import Derived.Test.YtgdkfbgehbdkjaaDoorB8
import Derived.Test.YtgdkfbgehbdkjaaDoorC3
/- What is asked first: spaceFact. -/
namespace Go.Proofs.YtgdkfbgehbdkjaaDoor.Fd
theorem fault_tot (p k : Int) (l : List Int) : ∃ z, FaultIs p k l z := by
  by_cases h1 : ordZ p k = 0
  · exact ⟨1, .inl ⟨h1, rfl⟩⟩
  by_cases h2 : (l.length : Int) = k
  · by_cases h3 : inL p l
    · by_cases h4 : irrP (monL l) k.toNat p.toNat
      · exact ⟨0, .inr (.inr (.inr (.inr ⟨h1, h2, h3, h4, rfl⟩)))⟩
      · exact ⟨4, .inr (.inr (.inr (.inl ⟨h1, h2, h3, h4, rfl⟩)))⟩
    · exact ⟨1, .inr (.inr (.inl ⟨h1, h2, h3, rfl⟩))⟩
  · exact ⟨2, .inr (.inl ⟨h1, h2, rfl⟩)⟩
theorem f31_ord : ordZ 3 1 = 3 := by decide +kernel
theorem f31_yes : goodAt 3 1 0 := by
  intro e h1 h2
  omega
theorem f31_least {q d : Int} {l : List Int} {z : Int} (h : LeastIs 3 1 q d l z) : q = 3 ∧ d = 1 ∧ l = digL 0 3 1 ∧ z = 0 :=
  h.one (.inr ⟨3, 1, rfl, rfl, by rw [f31_ord]; decide, .inl ⟨0, by decide, f31_yes, fun m hm => by omega, rfl, rfl, rfl, rfl⟩⟩)
theorem f31_good : GoodF 3 1 (digL 0 3 1) := by
  have hin : inL (3 : Int) (digL 0 3 1) := fun j hj => by
    rw [digL_length] at hj
    rw [digL_at _ _ _ _ hj]; exact digF_in 0 3 (by omega) j
  have hirr : irrP (monL (digL 0 3 1)) 1 3 := by rw [monL_dig 0 3 1 (by decide) (by decide)]; exact f31_yes
  have hF : FaultIs ((3 : Nat) : Int) ((1 : Nat) : Int) (digL 0 3 1) 0 := .inr (.inr (.inr (.inr ⟨by rw [show ((3 : Nat) : Int) = 3 from rfl, show ((1 : Nat) : Int) = 1 from rfl, f31_ord]; decide, by rw [digL_length], hin, hirr, rfl⟩)))
  obtain ⟨P, K, e1, e2, hG⟩ := good_of hF
  obtain rfl : 3 = P := by omega
  obtain rfl : 1 = K := by omega
  exact hG
end Go.Proofs.YtgdkfbgehbdkjaaDoor.Fd
namespace Go.Proofs.YtgdkfbgehbdkjaaDoor
open Go.RowKit

def S0 : List (List Nat) := [[1, 2, 0], [2, 1, 1]]
def X0 : List (List Nat) := [[1, 2, 0], [0, 0, 1]]
abbrev a31 : Nat → Nat → Nat := adF 3 1
abbrev m31 : Nat → Nat → Nat := muF 3 1 (Fd.digL 0 3 1)
theorem s0_rws : Rws (3 ^ 1) 3 S0 := fun r hr => by
  simp only [S0, List.mem_cons, List.not_mem_nil, or_false] at hr
  rcases hr with rfl | rfl
  · exact ⟨rfl, by decide⟩
  · exact ⟨rfl, by decide⟩
theorem x0_rref : Rref (3 ^ 1) 3 X0 where
  rws := fun r hr => by
    simp only [X0, List.mem_cons, List.not_mem_nil, or_false] at hr
    rcases hr with rfl | rfl
    · exact ⟨rfl, by decide⟩
    · exact ⟨rfl, by decide⟩
  one := by decide
  inc := by decide
  col := by decide
theorem x0_bas : BasIs (3 ^ 1) a31 m31 3 (Spn (3 ^ 1) a31 m31 3 S0) X0 := by
  have hF : FqR (3 ^ 1) a31 m31 (ngF 3 1) := Fd.field_fqr Fd.f31_good.field
  refine ⟨x0_rref, spn_same hF x0_rref.rws s0_rws (fun r hr => ?_) (fun r hr => ?_)⟩
  · simp only [X0, List.mem_cons, List.not_mem_nil, or_false] at hr
    rcases hr with rfl | rfl
    · exact Spn.row hF s0_rws (by simp [S0])
    · have h := Spn.step (q := 3 ^ 1) (ad := a31) (mu := m31) (n := 3) (R := S0) (Spn.row hF s0_rws (r := [2, 1, 1]) (by simp [S0])) (r := [1, 2, 0]) (c := 1) (by simp [S0]) (by decide)
      have e : adV a31 3 [2, 1, 1] (smV m31 3 1 [1, 2, 0]) = [0, 0, 1] := by decide +kernel
      rw [e] at h
      exact h
  · simp only [S0, List.mem_cons, List.not_mem_nil, or_false] at hr
    rcases hr with rfl | rfl
    · exact Spn.row hF x0_rref.rws (by simp [X0])
    · have h := Spn.step (q := 3 ^ 1) (ad := a31) (mu := m31) (n := 3) (R := X0) (Spn.row hF x0_rref.rws (r := [0, 0, 1]) (by simp [X0])) (r := [1, 2, 0]) (c := 2) (by simp [X0]) (by decide)
      have e : adV a31 3 [0, 0, 1] (smV m31 3 2 [1, 2, 0]) = [2, 1, 1] := by decide +kernel
      rw [e] at h
      exact h
theorem gs_422 : gs 2 4 2 = 35 := by decide +kernel
/-- The two rows as they are built. -/
theorem s0_rw (w : World) : Rw (((w.alloc (.cells #[.int .i64 1, .int .i64 2, .int .i64 0] 3)).alloc (.cells #[.int .i64 2, .int .i64 1, .int .i64 1] 3)).alloc (.cells #[.slice (some ⟨w.heap.size, 0, none⟩) 3 3, .slice (some ⟨w.heap.size + 1, 0, none⟩) 3 3] 22)) (.slice (some ⟨w.heap.size + 1 + 1, 0, none⟩) 2 2) (toZ S0) := by
  have e1 : (w.alloc (.cells #[.int .i64 1, .int .i64 2, .int .i64 0] 3)).heap.size = w.heap.size + 1 := by simp
  have e2 : ((w.alloc (.cells #[.int .i64 1, .int .i64 2, .int .i64 0] 3)).alloc (.cells #[.int .i64 2, .int .i64 1, .int .i64 1] 3)).heap.size = w.heap.size + 1 + 1 := by simp
  have b1 := balloc (w.alloc (.cells #[.int .i64 1, .int .i64 2, .int .i64 0] 3)) (.cells #[.int .i64 2, .int .i64 1, .int .i64 1] 3)
  have b2 := balloc ((w.alloc (.cells #[.int .i64 1, .int .i64 2, .int .i64 0] 3)).alloc (.cells #[.int .i64 2, .int .i64 1, .int .i64 1] 3)) (.cells #[.slice (some ⟨w.heap.size, 0, none⟩) 3 3, .slice (some ⟨w.heap.size + 1, 0, none⟩) 3 3] 22)
  have k0 := heap_alloc_new w (.cells #[.int .i64 1, .int .i64 2, .int .i64 0] 3)
  have k1 := heap_alloc_new (w.alloc (.cells #[.int .i64 1, .int .i64 2, .int .i64 0] 3)) (.cells #[.int .i64 2, .int .i64 1, .int .i64 1] 3)
  rw [e1] at k1
  have k2 := heap_alloc_new ((w.alloc (.cells #[.int .i64 1, .int .i64 2, .int .i64 0] 3)).alloc (.cells #[.int .i64 2, .int .i64 1, .int .i64 1] 3)) (.cells #[.slice (some ⟨w.heap.size, 0, none⟩) 3 3, .slice (some ⟨w.heap.size + 1, 0, none⟩) 3 3] 22)
  rw [e2] at k2
  have h0 := (b2.block w.heap.size (by omega)).trans ((b1.block w.heap.size (by omega)).trans k0)
  have h1 := (b2.block (w.heap.size + 1) (by omega)).trans k1
  refine ⟨_, 2, rfl, fun i l hl => ?_⟩
  have hi : i < 2 := by have := (List.getElem?_eq_some_iff.1 hl).1; simpa [toZ, S0] using this
  match i, hi with
  | 0, _ =>
    obtain rfl : [1, 2, 0] = l := by simpa [toZ, S0] using hl
    refine ⟨_, 0, _, rfl, by rw [cell_of_row _ _ _ _ _ _ k2]; rfl, _, 3, rfl, fun j hj => ⟨_, 0, rfl, ?_⟩⟩
    rw [cell_of_row _ _ _ _ _ _ h0]
    have hj3 : j < 3 := by simpa using hj
    match j, hj3 with
    | 0, _ => rfl
    | 1, _ => rfl
    | 2, _ => rfl
  | 1, _ =>
    obtain rfl : [2, 1, 1] = l := by simpa [toZ, S0] using hl
    refine ⟨_, 0, _, rfl, by rw [cell_of_row _ _ _ _ _ _ k2]; rfl, _, 3, rfl, fun j hj => ⟨_, 0, rfl, ?_⟩⟩
    rw [cell_of_row _ _ _ _ _ _ h1]
    have hj3 : j < 3 := by simpa using hj
    match j, hj3 with
    | 0, _ => rfl
    | 1, _ => rfl
    | 2, _ => rfl
set_option maxRecDepth 100000 in
set_option maxHeartbeats 4000000 in
theorem fact_any (w : World) (hT : Fd.Tab w) : Calls Tryd.prog 22 #[] w fun e w' => e = .returned (.bool true) ∧ Below w.heap.size w w' := by
  have C1 : Calls Tryd.prog 23 #[.int .i64 4, .int .i64 2, .int .i64 2] w fun e w' => e = .returned (.tuple #[.int .i64 35, .int .i64 0]) ∧ Below w.heap.size w w' := by
    have h := Gauss_any 4 2 2 w (by omega) (by omega) (by omega) (by omega)
    have e1 : gA 2 4 2 = 35 := by unfold gA; rw [gs_422]; rfl
    have e2 : gE 2 4 2 = 0 := by unfold gE; rw [gs_422]; rfl
    rw [e1, e2] at h
    exact h
  have C2 : ∀ W, Below w.heap.size w W → Calls Tryd.prog 39 #[.int .i64 3, .int .i64 1] W fun e w' => (∃ a m c, e = .returned (.tuple #[.agg #[.int .i64 3, .int .i64 1, .slice a m c], .int .i64 0]) ∧ Fld 3 1 (Fd.digL 0 3 1) (.slice a m c) w') ∧ Below W.heap.size W w' := fun W b => by
    refine (Fd.least_any 3 1 W (hT.below b)).mono ?_
    rintro e w' ⟨q, d, v, l, z, rfl, hv, hL, b'⟩
    obtain ⟨rfl, rfl, rfl, rfl⟩ := Fd.f31_least hL
    obtain ⟨a, c, rfl, _⟩ := id hv
    exact ⟨⟨a, _, c, rfl, (hT.below b).below b', hv, by rw [Fd.digL_length]; exact len_max (by omega), Fd.f31_good⟩, b'⟩
  have C3 : ∀ (W : World) (a : Option Addr) (m c : Nat), Fld 3 1 (Fd.digL 0 3 1) (.slice a m c) W → Calls Tryd.prog 10 #[.agg #[.int .i64 3, .int .i64 1, .slice a m c], .int .i64 3, .slice (some ⟨W.heap.size + 1 + 1, 0, none⟩) 2 2] (((W.alloc (.cells #[.int .i64 1, .int .i64 2, .int .i64 0] 3)).alloc (.cells #[.int .i64 2, .int .i64 1, .int .i64 1] 3)).alloc (.cells #[.slice (some ⟨W.heap.size, 0, none⟩) 3 3, .slice (some ⟨W.heap.size + 1, 0, none⟩) 3 3] 22)) fun e w' => (∃ a c, e = .returned (.tuple #[.slice a 2 c, .int .i64 0])) ∧ Below W.heap.size W w' := fun W a m c hF => by
    have b := Below.next (Below.next (balloc W (.cells #[.int .i64 1, .int .i64 2, .int .i64 0] 3)) (balloc _ (.cells #[.int .i64 2, .int .i64 1, .int .i64 1] 3))) (balloc _ (.cells #[.slice (some ⟨W.heap.size, 0, none⟩) 3 3, .slice (some ⟨W.heap.size + 1, 0, none⟩) 3 3] 22))
    have hF' := hF.below b
    have hO := opc_rows (n := 3) hF' (by omega) (by omega) (by decide) [.slice (some ⟨W.heap.size + 1 + 1, 0, none⟩) 2 2] [toZ S0] (by simp) (z := 0) (by decide +kernel)
    refine (Basis_ok 3 1 3 _ _ _ S0 _ hF' (s0_rw W) s0_rws (by decide) (by omega) (by omega) hO).mono ?_
    rintro e w' ⟨⟨x, ls, rfl, hB, hx⟩, b'⟩
    obtain rfl := BasIs.one hF.fqr hB x0_bas
    obtain ⟨xa, xc, rfl⟩ := rw_form hx
    exact ⟨⟨xa, xc, rfl⟩, Below.next b b'⟩
  clear hT
  go_enter Tryd.func22, Tryd.ntmps22
  go_wp2_with (first
    | (go_at_call 23; refine C1.mono ?_; rintro e w1 ⟨rfl, b1⟩; clear C1)
    | (go_at_call 39; refine (C2 _ b1).mono ?_; rintro e w2 ⟨⟨a, m, c, rfl, hF⟩, b2⟩; have b3 := balloc w2 (.cells #[.int .i64 3, .int .i64 1, .slice a m c] 24); have hF2 := hF.below b3; have C4 := C3 _ a m c hF2; rw [show (w2.alloc (.cells #[.int .i64 3, .int .i64 1, .slice a m c] 24)).heap.size = w2.heap.size + 1 by simp] at C4; clear C2 C3)
    | (go_at_call 10; refine C4.mono ?_; rintro e w4 ⟨⟨xa, xc, rfl⟩, b4⟩; clear C4))
  go_ret
  exact ⟨rfl, Below.next (Below.next b1 (Below.next b2 b3)) (by rw [show (w2.alloc (.cells #[.int .i64 3, .int .i64 1, .slice a m c] 24)).heap.size = w2.heap.size + 1 by simp]; exact b4)⟩
end Go.Proofs.YtgdkfbgehbdkjaaDoor

namespace Go.Proofs.YtgdkfbgehbdkjaaDoor
open Go.RowKit

set_option maxRecDepth 100000 in
set_option maxHeartbeats 4000000 in
theorem law7_err (n k q a z : Int) (w : World) (hT : Fd.Tab w) (h0 : z ≠ 0)
    (C1 : ∀ W, Below w.heap.size w W → Calls Tryd.prog 23 #[.int .i64 n, .int .i64 k, .int .i64 q] W fun e w' => e = .returned (.tuple #[.int .i64 a, .int .i64 z]) ∧ Below W.heap.size W w') :
    Calls Tryd.prog 7 #[.int .i64 n, .int .i64 k, .int .i64 q] w fun e w' => e = .returned (.bool true) ∧ Below w.heap.size w w' := by
  have C0 := fact_any w hT
  have d1 : (z != 0) = true := by simpa using h0
  clear hT h0
  go_enter Tryd.func7, Tryd.ntmps7
  go_wp2_with (first
    | (go_at_call 22; refine C0.mono ?_; rintro e w1 ⟨rfl, b1⟩; clear C0; have D1 := C1 w1 b1; clear C1)
    | (go_at_call 23; refine D1.mono ?_; rintro e w2 ⟨rfl, b2⟩; clear D1))
  go_ret
  exact ⟨rfl, Below.next b1 b2⟩
theorem Gauss_val {n k q : Nat} (hn : n ≤ 30) (hk : k ≤ n) (hq2 : 2 ≤ q) (hq : q ≤ 64) (h : gs q n k ≤ 1000000000000000000) {x : Nat} (hx : Hid (gs q n k = x)) (W : World) :
    Calls Tryd.prog 23 #[.int .i64 (n : Int), .int .i64 (k : Int), .int .i64 (q : Int)] W fun e w' => e = .returned (.tuple #[.int .i64 (x : Int), .int .i64 0]) ∧ Below W.heap.size W w' := by
  have c := Gauss_any n k q W hn hk hq2 hq
  have e1 : gA q n k = x := by unfold gA; rw [if_pos h]; exact hx.out
  have e2 : gE q n k = 0 := by unfold gE; rw [if_pos h]
  rw [e1, e2] at c
  exact c
set_option maxRecDepth 100000 in
set_option maxHeartbeats 4000000 in
theorem law7_end (n k q : Nat) (w : World) (hT : Fd.Tab w) (hn : n ≤ 30) (hk : k ≤ n) (hq2 : 2 ≤ q) (hq : q ≤ 64) (hg : gs q n k ≤ 1000000000000000000) (he : k = 0 ∨ k = n) :
    Calls Tryd.prog 7 #[.int .i64 (n : Int), .int .i64 (k : Int), .int .i64 (q : Int)] w fun e w' => e = .returned (.bool true) ∧ Below w.heap.size w w' := by
  have C0 := fact_any w hT
  have hone : gs q n k = 1 := by
    rcases he with rfl | rfl
    · exact gs_zero q n
    · exact gs_self q k
  obtain ⟨d, Hd⟩ : ∃ d, Hid (n - k = d) := ⟨_, rfl⟩
  have hd : (n : Int) - (k : Int) = (d : Int) := by have := Hd.out; omega
  have hsym : gs q n d = 1 := by rw [← Hd.out, gs_symm hq2 hk, hone]
  have C1 := fun W => Gauss_val hn hk hq2 hq hg (x := 1) hone W
  have C2 := fun W => Gauss_val (k := d) hn (by have := Hd.out; omega) hq2 hq (by rw [hsym]; omega) (x := 1) hsym W
  have d1 : ((k : Int) == 0 || (k : Int) == (n : Int)) = true := by
    rcases he with h | h <;> simp [h]
  clear hT hone hsym hg
  by_cases h0 : k = 0
  · have e0 : ((k : Int) == 0) = true := by simp [h0]
    clear he h0 d1
    go_enter Tryd.func7, Tryd.ntmps7
    go_wp2_with (first
      | (go_at_call 22; refine C0.mono ?_; rintro e w1 ⟨rfl, b1⟩; clear C0; have D1 := C1 w1; clear C1)
      | (go_at_call 23; refine D1.mono ?_; rintro e w2 ⟨rfl, b2⟩; clear D1; have D2 := C2 w2; clear C2)
      | (go_at_call 23; refine D2.mono ?_; rintro e w3 ⟨rfl, b3⟩; clear D2))
    go_ret
    exact ⟨rfl, Below.next (Below.next b1 b2) b3⟩
  · have hkn : k = n := by omega
    have e0 : ((k : Int) == 0) = false := by simp [h0]
    have e1 : ((k : Int) == (n : Int)) = true := by simp [hkn]
    have HKN : Hid (k = n) := hkn
    clear he h0 d1 hkn
    go_enter Tryd.func7, Tryd.ntmps7
    go_wp2_with (first
      | (go_at_call 22; refine C0.mono ?_; rintro e w1 ⟨rfl, b1⟩; clear C0; have D1 := C1 w1; clear C1)
      | (go_at_call 23; refine D1.mono ?_; rintro e w2 ⟨rfl, b2⟩; clear D1; have D2 := C2 w2; clear C2)
      | (go_at_call 23; refine D2.mono ?_; rintro e w3 ⟨rfl, b3⟩; clear D2))
    go_ret
    exact ⟨rfl, Below.next (Below.next b1 b2) b3⟩
set_option maxRecDepth 100000 in
set_option maxHeartbeats 8000000 in
theorem law7_mid (n k q : Nat) (w : World) (hT : Fd.Tab w) (hn : n ≤ 30) (hk : k < n) (hk0 : 0 < k) (hq2 : 2 ≤ q) (hq : q ≤ 64) (hg : gs q n k ≤ 1000000000000000000) :
    Calls Tryd.prog 7 #[.int .i64 (n : Int), .int .i64 (k : Int), .int .i64 (q : Int)] w fun e w' => e = .returned (.bool true) ∧ Below w.heap.size w w' := by
  have C0 := fact_any w hT
  obtain ⟨d, Hd⟩ : ∃ d, Hid (n - k = d) := ⟨_, rfl⟩
  obtain ⟨n1, Hn1⟩ : ∃ n1, Hid (n = n1 + 1) := ⟨n - 1, by show _ = _; omega⟩
  obtain ⟨k1, Hk1⟩ : ∃ k1, Hid (k = k1 + 1) := ⟨k - 1, by show _ = _; omega⟩
  have hd : (n : Int) - (k : Int) = (d : Int) := by have := Hd.out; omega
  have hn1 : (n : Int) - 1 = (n1 : Int) := by have := Hn1.out; omega
  have hk1 : (k : Int) - 1 = (k1 : Int) := by have := Hk1.out; omega
  have hsum : gs q n k = q ^ k * gs q n1 k + gs q n1 k1 := by
    rw [Hn1.out, Hk1.out, gs_succ]
  obtain ⟨x, Hx⟩ : ∃ x, Hid (gs q n k = x) := ⟨_, rfl⟩
  obtain ⟨a, Ha⟩ : ∃ x, Hid (gs q n1 k = x) := ⟨_, rfl⟩
  obtain ⟨b, Hb⟩ : ∃ x, Hid (gs q n1 k1 = x) := ⟨_, rfl⟩
  have hqk : ∀ i, 1 ≤ q ^ i := fun i => Nat.pow_pos (by omega)
  rw [Hx.out, Ha.out, Hb.out] at hsum
  have hale : a ≤ q ^ k * a := Nat.le_mul_of_pos_left _ (hqk k)
  have hxl : x ≤ 1000000000000000000 := by rw [← Hx.out]; exact hg
  have hsym : gs q n d = x := by rw [← Hd.out, gs_symm hq2 (by omega)]; exact Hx.out
  have C1 := fun W => Gauss_val hn (by omega) hq2 hq hg Hx W
  have C2 := fun W => Gauss_val (k := d) hn (by have := Hd.out; omega) hq2 hq (by rw [hsym]; exact hxl) hsym W
  have C3 := fun W => Gauss_val (n := n1) (k := k) (by have := Hn1.out; omega) (by have := Hn1.out; omega) hq2 hq (by rw [Ha.out]; omega) Ha W
  have C4 := fun W => Gauss_val (n := n1) (k := k1) (by have := Hn1.out; omega) (by have := Hn1.out; have := Hk1.out; omega) hq2 hq (by rw [Hb.out]; omega) Hb W
  have HLe : Hid (∀ i, i ≤ k → q ^ i * a ≤ 1000000000000000000) := fun i hi => by
    have h := Nat.mul_le_mul_right a (Nat.pow_le_pow_right (show 0 < q by omega) hi)
    omega
  have HSt : Hid (∀ i, q ^ i * a * q = q ^ (i + 1) * a) := fun i => by rw [Nat.pow_succ, Nat.mul_assoc, Nat.mul_comm a q, ← Nat.mul_assoc]
  have H0 : Hid (q ^ 0 * a = a) := by show _ = _; rw [Nat.pow_zero, Nat.one_mul]
  have HSum : Hid (x = q ^ k * a + b) := hsum
  obtain ⟨f, Hf⟩ : ∃ f : Nat → Nat, Hid (∀ i, q ^ i * a = f i) := ⟨fun i => q ^ i * a, fun i => rfl⟩
  simp only [Hf.out] at HLe HSt H0 HSum
  have e0 : ((k : Int) == 0) = false := by simp; omega
  have e1 : ((k : Int) == (n : Int)) = false := by simp; omega
  have exx : ((x : Int) != (x : Int)) = false := by simp
  clear hT hsum hale hsym hg hqk
  go_enter Tryd.func7, Tryd.ntmps7
  go_wp2_with (first
    | (go_at_call 22; refine C0.mono ?_; rintro e w1 ⟨rfl, b1⟩; clear C0; have D1 := C1 w1; clear C1)
    | (go_at_call 23; refine D1.mono ?_; rintro e w2 ⟨rfl, b2⟩; clear D1; have D2 := C2 w2; clear C2)
    | (go_at_call 23; refine D2.mono ?_; rintro e w3 ⟨rfl, b3⟩; clear D2; have D3 := C3 w3; clear C3)
    | (go_at_call 23; refine D3.mono ?_; rintro e w4 ⟨rfl, b4⟩; clear D3; have D4 := C4 w4; clear C4)
    | (go_at_call 23; refine D4.mono ?_; rintro e w5 ⟨rfl, b5⟩; clear D4))
  have hB := Below.next (Below.next (Below.next (Below.next b1 b2) b3) b4) b5
  go_loopw [11, 14] (fun av iv wr => ∃ i y : Nat, iv = .int .i64 (i : Int) ∧ i ≤ k ∧ av = .int .i64 (y : Int) ∧ Hid (f i = y) ∧ wr = w5) (fun _ iv _ => (k - intOf iv).toNat)
  case atStart => exact ⟨0, a, rfl, by omega, rfl, H0, rfl⟩
  case round =>
    obtain ⟨i, y, rfl, hi, rfl, Hy, hw⟩ := hrel
    replace hw := hw.symm
    subst hw
    by_cases hlt : i < k
    · have hdi : decide ((i : Int) < (k : Int)) = true := by simp; omega
      have hii : (i : Int) < (k : Int) := by omega
      have hl1 := HLe.out i (by omega)
      have hl2 := HLe.out (i + 1) (by omega)
      have hst := HSt.out i
      rw [Hy.out] at hl1 hst
      rw [← hst] at hl2
      obtain ⟨y2, Hy2⟩ : ∃ y2, Hid (y * q = y2) := ⟨_, rfl⟩
      rw [Hy2.out] at hst hl2
      have hmul : (y : Int) * (q : Int) = (y2 : Int) := by rw [← Hy2.out]; simp
      have HN : Hid (f (i + 1) = y2) := hst.symm
      clear hst
      go_wp2
      go_roundw
      case rel => exact ⟨i + 1, y2, by go_num, by omega, by go_num, HN, by first | rfl | trivial⟩
      case measure => simp [intOf]; omega
    · have hdi : decide ((i : Int) < (k : Int)) = false := by simp; omega
      obtain rfl : k = i := by omega
      have hs := HSum.out
      rw [Hy.out] at hs
      have hyb : ((x : Int) == (y : Int) + (b : Int)) = true := by rw [beq_iff_eq]; omega
      have hyl : y + b ≤ 1000000000000000000 := by omega
      clear hs
      go_wp2
      go_ret
      exact ⟨rfl, hB⟩
theorem law7_any (n k q : Int) (w : World) (hT : Fd.Tab w) : Calls Tryd.prog 7 #[.int .i64 n, .int .i64 k, .int .i64 q] w fun e w' => e = .returned (.bool true) ∧ Below w.heap.size w w' := by
  by_cases h : GIn n k q
  · obtain ⟨N, K, Q, rfl, rfl, rfl, h1, h2, h3, h4⟩ := h.nat
    by_cases hg : gs Q N K ≤ 1000000000000000000
    · by_cases he : K = 0 ∨ K = N
      · exact law7_end N K Q w hT h1 h2 h3 h4 hg he
      · exact law7_mid N K Q w hT h1 (by omega) (by omega) h3 h4 hg
    · refine law7_err N K Q (gA Q N K) 3 w hT (by decide) fun W b => ?_
      have c := Gauss_any N K Q W h1 h2 h3 h4
      have e2 : gE Q N K = 3 := by unfold gE; rw [if_neg hg]
      rw [e2] at c
      exact c
  · exact law7_err n k q 0 1 w hT (by decide) fun W b => Gauss_bad n k q W h
end Go.Proofs.YtgdkfbgehbdkjaaDoor
