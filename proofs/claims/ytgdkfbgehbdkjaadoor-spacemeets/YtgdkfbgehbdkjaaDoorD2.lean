/- What the program answers of any field, any number and any rows. -/
import Derived.Test.YtgdkfbgehbdkjaaDoorB8
import Derived.Test.YtgdkfbgehbdkjaaDoorC3
/- What is asked first: spaceFact. -/
namespace Go.Proofs.YtgdkfbgehbdkjaaDoor.Fd
theorem fault_tot (p k : Int) (l : List Int) : ∃ z, FaultIs p k l z := by
  by_cases h1 : ordZ p k = 0
  · exact ⟨1, .inl ⟨h1, rfl⟩⟩
  by_cases h2 : (l.length : Int) = k
  · by_cases h3 : inL p l
    · by_cases h4 : irrP (monL l) k.toNat p.toNat
      · exact ⟨0, .inr (.inr (.inr (.inr ⟨h1, h2, h3, h4, rfl⟩)))⟩
      · exact ⟨4, .inr (.inr (.inr (.inl ⟨h1, h2, h3, h4, rfl⟩)))⟩
    · exact ⟨1, .inr (.inr (.inl ⟨h1, h2, h3, rfl⟩))⟩
  · exact ⟨2, .inr (.inl ⟨h1, h2, rfl⟩)⟩
theorem f31_ord : ordZ 3 1 = 3 := by decide +kernel
theorem f31_yes : goodAt 3 1 0 := by
  intro e h1 h2
  omega
theorem f31_least {q d : Int} {l : List Int} {z : Int} (h : LeastIs 3 1 q d l z) : q = 3 ∧ d = 1 ∧ l = digL 0 3 1 ∧ z = 0 :=
  h.one (.inr ⟨3, 1, rfl, rfl, by rw [f31_ord]; decide, .inl ⟨0, by decide, f31_yes, fun m hm => by omega, rfl, rfl, rfl, rfl⟩⟩)
theorem f31_good : GoodF 3 1 (digL 0 3 1) := by
  have hin : inL (3 : Int) (digL 0 3 1) := fun j hj => by
    rw [digL_length] at hj
    rw [digL_at _ _ _ _ hj]; exact digF_in 0 3 (by omega) j
  have hirr : irrP (monL (digL 0 3 1)) 1 3 := by rw [monL_dig 0 3 1 (by decide) (by decide)]; exact f31_yes
  have hF : FaultIs ((3 : Nat) : Int) ((1 : Nat) : Int) (digL 0 3 1) 0 := .inr (.inr (.inr (.inr ⟨by rw [show ((3 : Nat) : Int) = 3 from rfl, show ((1 : Nat) : Int) = 1 from rfl, f31_ord]; decide, by rw [digL_length], hin, hirr, rfl⟩)))
  obtain ⟨P, K, e1, e2, hG⟩ := good_of hF
  obtain rfl : 3 = P := by omega
  obtain rfl : 1 = K := by omega
  exact hG
end Go.Proofs.YtgdkfbgehbdkjaaDoor.Fd
namespace Go.Proofs.YtgdkfbgehbdkjaaDoor
open Go.RowKit

def S0 : List (List Nat) := [[1, 2, 0], [2, 1, 1]]
def X0 : List (List Nat) := [[1, 2, 0], [0, 0, 1]]
abbrev a31 : Nat → Nat → Nat := adF 3 1
abbrev m31 : Nat → Nat → Nat := muF 3 1 (Fd.digL 0 3 1)
theorem s0_rws : Rws (3 ^ 1) 3 S0 := fun r hr => by
  simp only [S0, List.mem_cons, List.not_mem_nil, or_false] at hr
  rcases hr with rfl | rfl
  · exact ⟨rfl, by decide⟩
  · exact ⟨rfl, by decide⟩
theorem x0_rref : Rref (3 ^ 1) 3 X0 where
  rws := fun r hr => by
    simp only [X0, List.mem_cons, List.not_mem_nil, or_false] at hr
    rcases hr with rfl | rfl
    · exact ⟨rfl, by decide⟩
    · exact ⟨rfl, by decide⟩
  one := by decide
  inc := by decide
  col := by decide
theorem x0_bas : BasIs (3 ^ 1) a31 m31 3 (Spn (3 ^ 1) a31 m31 3 S0) X0 := by
  have hF : FqR (3 ^ 1) a31 m31 (ngF 3 1) := Fd.field_fqr Fd.f31_good.field
  refine ⟨x0_rref, spn_same hF x0_rref.rws s0_rws (fun r hr => ?_) (fun r hr => ?_)⟩
  · simp only [X0, List.mem_cons, List.not_mem_nil, or_false] at hr
    rcases hr with rfl | rfl
    · exact Spn.row hF s0_rws (by simp [S0])
    · have h := Spn.step (q := 3 ^ 1) (ad := a31) (mu := m31) (n := 3) (R := S0) (Spn.row hF s0_rws (r := [2, 1, 1]) (by simp [S0])) (r := [1, 2, 0]) (c := 1) (by simp [S0]) (by decide)
      have e : adV a31 3 [2, 1, 1] (smV m31 3 1 [1, 2, 0]) = [0, 0, 1] := by decide +kernel
      rw [e] at h
      exact h
  · simp only [S0, List.mem_cons, List.not_mem_nil, or_false] at hr
    rcases hr with rfl | rfl
    · exact Spn.row hF x0_rref.rws (by simp [X0])
    · have h := Spn.step (q := 3 ^ 1) (ad := a31) (mu := m31) (n := 3) (R := X0) (Spn.row hF x0_rref.rws (r := [0, 0, 1]) (by simp [X0])) (r := [1, 2, 0]) (c := 2) (by simp [X0]) (by decide)
      have e : adV a31 3 [0, 0, 1] (smV m31 3 2 [1, 2, 0]) = [2, 1, 1] := by decide +kernel
      rw [e] at h
      exact h
theorem gs_422 : gs 2 4 2 = 35 := by decide +kernel
/-- The two rows as they are built. -/
theorem s0_rw (w : World) : Rw (((w.alloc (.cells #[.int .i64 1, .int .i64 2, .int .i64 0] 3)).alloc (.cells #[.int .i64 2, .int .i64 1, .int .i64 1] 3)).alloc (.cells #[.slice (some ⟨w.heap.size, 0, none⟩) 3 3, .slice (some ⟨w.heap.size + 1, 0, none⟩) 3 3] 22)) (.slice (some ⟨w.heap.size + 1 + 1, 0, none⟩) 2 2) (toZ S0) := by
  have e1 : (w.alloc (.cells #[.int .i64 1, .int .i64 2, .int .i64 0] 3)).heap.size = w.heap.size + 1 := by simp
  have e2 : ((w.alloc (.cells #[.int .i64 1, .int .i64 2, .int .i64 0] 3)).alloc (.cells #[.int .i64 2, .int .i64 1, .int .i64 1] 3)).heap.size = w.heap.size + 1 + 1 := by simp
  have b1 := balloc (w.alloc (.cells #[.int .i64 1, .int .i64 2, .int .i64 0] 3)) (.cells #[.int .i64 2, .int .i64 1, .int .i64 1] 3)
  have b2 := balloc ((w.alloc (.cells #[.int .i64 1, .int .i64 2, .int .i64 0] 3)).alloc (.cells #[.int .i64 2, .int .i64 1, .int .i64 1] 3)) (.cells #[.slice (some ⟨w.heap.size, 0, none⟩) 3 3, .slice (some ⟨w.heap.size + 1, 0, none⟩) 3 3] 22)
  have k0 := heap_alloc_new w (.cells #[.int .i64 1, .int .i64 2, .int .i64 0] 3)
  have k1 := heap_alloc_new (w.alloc (.cells #[.int .i64 1, .int .i64 2, .int .i64 0] 3)) (.cells #[.int .i64 2, .int .i64 1, .int .i64 1] 3)
  rw [e1] at k1
  have k2 := heap_alloc_new ((w.alloc (.cells #[.int .i64 1, .int .i64 2, .int .i64 0] 3)).alloc (.cells #[.int .i64 2, .int .i64 1, .int .i64 1] 3)) (.cells #[.slice (some ⟨w.heap.size, 0, none⟩) 3 3, .slice (some ⟨w.heap.size + 1, 0, none⟩) 3 3] 22)
  rw [e2] at k2
  have h0 := (b2.block w.heap.size (by omega)).trans ((b1.block w.heap.size (by omega)).trans k0)
  have h1 := (b2.block (w.heap.size + 1) (by omega)).trans k1
  refine ⟨_, 2, rfl, fun i l hl => ?_⟩
  have hi : i < 2 := by have := (List.getElem?_eq_some_iff.1 hl).1; simpa [toZ, S0] using this
  match i, hi with
  | 0, _ =>
    obtain rfl : [1, 2, 0] = l := by simpa [toZ, S0] using hl
    refine ⟨_, 0, _, rfl, by rw [cell_of_row _ _ _ _ _ _ k2]; rfl, _, 3, rfl, fun j hj => ⟨_, 0, rfl, ?_⟩⟩
    rw [cell_of_row _ _ _ _ _ _ h0]
    have hj3 : j < 3 := by simpa using hj
    match j, hj3 with
    | 0, _ => rfl
    | 1, _ => rfl
    | 2, _ => rfl
  | 1, _ =>
    obtain rfl : [2, 1, 1] = l := by simpa [toZ, S0] using hl
    refine ⟨_, 0, _, rfl, by rw [cell_of_row _ _ _ _ _ _ k2]; rfl, _, 3, rfl, fun j hj => ⟨_, 0, rfl, ?_⟩⟩
    rw [cell_of_row _ _ _ _ _ _ h1]
    have hj3 : j < 3 := by simpa using hj
    match j, hj3 with
    | 0, _ => rfl
    | 1, _ => rfl
    | 2, _ => rfl
set_option maxRecDepth 100000 in
set_option maxHeartbeats 4000000 in
theorem fact_any (w : World) (hT : Fd.Tab w) : Calls Tryd.prog 22 #[] w fun e w' => e = .returned (.bool true) ∧ Below w.heap.size w w' := by
  have C1 : Calls Tryd.prog 23 #[.int .i64 4, .int .i64 2, .int .i64 2] w fun e w' => e = .returned (.tuple #[.int .i64 35, .int .i64 0]) ∧ Below w.heap.size w w' := by
    have h := Gauss_any 4 2 2 w (by omega) (by omega) (by omega) (by omega)
    have e1 : gA 2 4 2 = 35 := by unfold gA; rw [gs_422]; rfl
    have e2 : gE 2 4 2 = 0 := by unfold gE; rw [gs_422]; rfl
    rw [e1, e2] at h
    exact h
  have C2 : ∀ W, Below w.heap.size w W → Calls Tryd.prog 39 #[.int .i64 3, .int .i64 1] W fun e w' => (∃ a m c, e = .returned (.tuple #[.agg #[.int .i64 3, .int .i64 1, .slice a m c], .int .i64 0]) ∧ Fld 3 1 (Fd.digL 0 3 1) (.slice a m c) w') ∧ Below W.heap.size W w' := fun W b => by
    refine (Fd.least_any 3 1 W (hT.below b)).mono ?_
    rintro e w' ⟨q, d, v, l, z, rfl, hv, hL, b'⟩
    obtain ⟨rfl, rfl, rfl, rfl⟩ := Fd.f31_least hL
    obtain ⟨a, c, rfl, _⟩ := id hv
    exact ⟨⟨a, _, c, rfl, (hT.below b).below b', hv, by rw [Fd.digL_length]; exact len_max (by omega), Fd.f31_good⟩, b'⟩
  have C3 : ∀ (W : World) (a : Option Addr) (m c : Nat), Fld 3 1 (Fd.digL 0 3 1) (.slice a m c) W → Calls Tryd.prog 10 #[.agg #[.int .i64 3, .int .i64 1, .slice a m c], .int .i64 3, .slice (some ⟨W.heap.size + 1 + 1, 0, none⟩) 2 2] (((W.alloc (.cells #[.int .i64 1, .int .i64 2, .int .i64 0] 3)).alloc (.cells #[.int .i64 2, .int .i64 1, .int .i64 1] 3)).alloc (.cells #[.slice (some ⟨W.heap.size, 0, none⟩) 3 3, .slice (some ⟨W.heap.size + 1, 0, none⟩) 3 3] 22)) fun e w' => (∃ a c, e = .returned (.tuple #[.slice a 2 c, .int .i64 0])) ∧ Below W.heap.size W w' := fun W a m c hF => by
    have b := Below.next (Below.next (balloc W (.cells #[.int .i64 1, .int .i64 2, .int .i64 0] 3)) (balloc _ (.cells #[.int .i64 2, .int .i64 1, .int .i64 1] 3))) (balloc _ (.cells #[.slice (some ⟨W.heap.size, 0, none⟩) 3 3, .slice (some ⟨W.heap.size + 1, 0, none⟩) 3 3] 22))
    have hF' := hF.below b
    have hO := opc_rows (n := 3) hF' (by omega) (by omega) (by decide) [.slice (some ⟨W.heap.size + 1 + 1, 0, none⟩) 2 2] [toZ S0] (by simp) (z := 0) (by decide +kernel)
    refine (Basis_ok 3 1 3 _ _ _ S0 _ hF' (s0_rw W) s0_rws (by decide) (by omega) (by omega) hO).mono ?_
    rintro e w' ⟨⟨x, ls, rfl, hB, hx⟩, b'⟩
    obtain rfl := BasIs.one hF.fqr hB x0_bas
    obtain ⟨xa, xc, rfl⟩ := rw_form hx
    exact ⟨⟨xa, xc, rfl⟩, Below.next b b'⟩
  clear hT
  go_enter Tryd.func22, Tryd.ntmps22
  go_wp2_with (first
    | (go_at_call 23; refine C1.mono ?_; rintro e w1 ⟨rfl, b1⟩; clear C1)
    | (go_at_call 39; refine (C2 _ b1).mono ?_; rintro e w2 ⟨⟨a, m, c, rfl, hF⟩, b2⟩; have b3 := balloc w2 (.cells #[.int .i64 3, .int .i64 1, .slice a m c] 24); have hF2 := hF.below b3; have C4 := C3 _ a m c hF2; rw [show (w2.alloc (.cells #[.int .i64 3, .int .i64 1, .slice a m c] 24)).heap.size = w2.heap.size + 1 by simp] at C4; clear C2 C3)
    | (go_at_call 10; refine C4.mono ?_; rintro e w4 ⟨⟨xa, xc, rfl⟩, b4⟩; clear C4))
  go_ret
  exact ⟨rfl, Below.next (Below.next b1 (Below.next b2 b3)) (by rw [show (w2.alloc (.cells #[.int .i64 3, .int .i64 1, .slice a m c] 24)).heap.size = w2.heap.size + 1 by simp]; exact b4)⟩
end Go.Proofs.YtgdkfbgehbdkjaaDoor

namespace Go.Proofs.YtgdkfbgehbdkjaaDoor
open Go.RowKit

/-- A room that is none: open says what is wrong, whatever the rows. -/
structure RmE (p k : Int) (l : List Int) (n z : Int) : Prop where
  ne : z ≠ 0
  is : (Fd.FaultIs p k l z) ∨ (Fd.FaultIs p k l 0 ∧ ¬ (1 ≤ n ∧ n ≤ 6) ∧ z = 1) ∨ (∃ P K N : Nat, p = P ∧ k = K ∧ n = N ∧ Fd.GoodF P K l ∧ 1 ≤ N ∧ N ≤ 6 ∧ 4096 < (P ^ K) ^ N ∧ z = 3)
theorem RmE.op {p k n z : Int} {l : List Int} {v : Value} {w : World} (h : RmE p k l n z) (hT : Fd.Tab w) (hl : Fd.Sl w v l) (hll : l.length ≤ maxLen) (vs : List Value) (rss : List (List (List Int))) (rv : Value) : OpC p k n v vs rss w z rv := by
  rcases h.is with h1 | ⟨h1, h2, rfl⟩ | ⟨P, K, N, rfl, rfl, rfl, hG, h1, h6, hf, rfl⟩
  · exact opc_fault hT hl hll h1 h.ne vs rss rv
  · obtain ⟨P, K, rfl, rfl, hG⟩ := Fd.good_of h1
    exact opc_far ⟨hT, hl, hll, hG⟩ h2 vs rss rv
  · exact opc_full ⟨hT, hl, hll, hG⟩ h1 h6 hf vs rss rv
/-- A room. -/
structure RmO (p k : Int) (l : List Int) (n : Int) (P K N : Nat) : Prop where
  ep : p = P
  ek : k = K
  en : n = N
  good : Fd.GoodF P K l
  h1 : 1 ≤ N
  h6 : N ≤ 6
  hf : (P ^ K) ^ N ≤ 4096
theorem room_cases (p k : Int) (l : List Int) (n : Int) : (∃ z, RmE p k l n z) ∨ ∃ P K N, RmO p k l n P K N := by
  obtain ⟨z, hz⟩ := Fd.fault_tot p k l
  by_cases h0 : z = 0
  · subst h0
    by_cases h1 : 1 ≤ n ∧ n ≤ 6
    · obtain ⟨P, K, rfl, rfl, hG⟩ := Fd.good_of hz
      have hn : n = (n.toNat : Int) := by omega
      by_cases h2 : 4096 < (P ^ K) ^ n.toNat
      · exact .inl ⟨3, by decide, .inr (.inr ⟨P, K, n.toNat, rfl, rfl, hn, hG, by omega, by omega, h2, rfl⟩)⟩
      · exact .inr ⟨P, K, n.toNat, rfl, rfl, hn, hG, by omega, by omega, by omega⟩
    · exact .inl ⟨1, by decide, .inr (.inl ⟨hz, h1, rfl⟩)⟩
  · exact .inl ⟨z, h0, .inl hz⟩
/-- An answer: a basis, or what is wrong. -/
def AnsB (q : Nat) (ad mu : Nat → Nat → Nat) (n : Nat) (V : List Nat → Prop) (z : Int) (e : Ending) (w' : World) : Prop := ∃ a m c, e = .returned (.tuple #[.slice a m c, .int .i64 z]) ∧ m ≤ 6 ∧ (z = 0 → ∃ ls, BasIs q ad mu n V ls ∧ Hid (ls.length = m) ∧ Rw w' (.slice a m c) (toZ ls))
theorem BaR.ans {q : Nat} {ad mu : Nat → Nat → Nat} {n : Nat} {V : List Nat → Prop} {e : Ending} {w' : World} (hn : n ≤ 6) (h : BaR q ad mu n V e w') : AnsB q ad mu n V 0 e w' := by
  obtain ⟨x, ls, rfl, hB, hx⟩ := h
  obtain ⟨a, m, c, rfl, Hm⟩ := rw_formH hx
  exact ⟨a, m, c, rfl, by have := rref_le hB.rref; rw [Hm.out] at this; omega, fun _ => ⟨ls, hB, Hm, hx⟩⟩
theorem ans_err {q : Nat} {ad mu : Nat → Nat → Nat} {n : Nat} {V : List Nat → Prop} {z : Int} {e : Ending} {w' : World} (h0 : z ≠ 0) (h : e = .returned (.tuple #[.slice none 0 0, .int .i64 z])) : AnsB q ad mu n V z e w' := ⟨none, 0, 0, h, by omega, fun h => absurd h h0⟩
/-- Rows that are rows: as numbers. -/
theorem rs_nat {q n : Nat} {rs : List (List Int)} (h : rsE q n rs = 0) : ∃ S, rs = toZ S ∧ Rws q n S ∧ S.length ≤ 12 := by
  unfold rsE at h
  by_cases h1 : 12 < rs.length
  · rw [if_pos h1] at h; omega
  · rw [if_neg h1] at h
    have h2 := rlE_ok h
    have h3 : ∀ r ∈ rs, r = (r.map Int.toNat).map Int.ofNat ∧ Vc q n (r.map Int.toNat) := fun r hr => by
      obtain ⟨s, hs, rfl⟩ := rwE_nat (h2 r hr)
      have e : (s.map Int.ofNat).map Int.toNat = s := by
        rw [List.map_map]
        have : (Int.toNat ∘ Int.ofNat) = id := by funext x; rfl
        rw [this, List.map_id]
      rw [e]
      exact ⟨rfl, hs⟩
    refine ⟨rs.map fun r => r.map Int.toNat, ?_, fun s hs => ?_, by simp; omega⟩
    · unfold toZ
      rw [List.map_map]
      conv => lhs; rw [← List.map_id rs]
      exact List.map_congr_left fun r hr => (h3 r hr).1
    · obtain ⟨r, hr, rfl⟩ := List.mem_map.1 hs
      exact (h3 r hr).2
theorem rs_zero {q n : Nat} {S : List (List Nat)} (h : Rws q n S) (hl : S.length ≤ 12) : rsE q n (toZ S) = 0 := by
  unfold rsE
  rw [if_neg (by rw [toZ_len]; omega)]
  refine rlE_all fun j s hs => ?_
  obtain ⟨r, hr, rfl⟩ := List.mem_map.1 (List.mem_of_getElem? hs)
  exact rwE_vc (h r hr)
theorem lsE_one {q n : Nat} (rs : List (List Int)) : lsE q n [rs] = rsE q n rs := by
  unfold lsE
  split
  · rfl
  · rename_i h
    have : rsE q n rs = 0 := Classical.byContradiction fun k => h k
    rw [this]; rfl
theorem lsE_two {q n : Nat} {rs ss : List (List Int)} : lsE q n [rs, ss] = if rsE q n rs ≠ 0 then rsE q n rs else rsE q n ss := by
  show (if rsE q n rs ≠ 0 then rsE q n rs else lsE q n [ss]) = _
  rw [lsE_one]
section
variable {P K n : Nat} {l : List Int} {v : Value} {w : World}
theorem Basis_ans (hF : Fld P K l v w) (h1 : 1 ≤ n) (h6 : n ≤ 6) (hf : (P ^ K) ^ n ≤ 4096) {u : Value} {rs : List (List Int)} (hu : RwC w u rs) {S : List (List Nat)} (hS : rsE (P ^ K) n rs = 0 → rs = toZ S) :
    Calls Tryd.prog 10 #[.agg #[.int .i64 (P : Int), .int .i64 (K : Int), v], .int .i64 (n : Int), u] w fun e w' => AnsB (P ^ K) (adF P K) (muF P K l) n (Spn (P ^ K) (adF P K) (muF P K l) n S) (rsE (P ^ K) n rs : Int) e w' ∧ Below w.heap.size w w' := by
  have hv : ∃ a m c, v = .slice a m c := by obtain ⟨a, c, e, _⟩ := hF.sl; exact ⟨a, _, c, e⟩
  have hO := opc_rows hF h1 h6 hf [u] [rs] (by simp) (lsE_one rs)
  by_cases h0 : rsE (P ^ K) n rs = 0
  · obtain ⟨S', e, hR, hl⟩ := rs_nat h0
    have eS : S' = S := by
      have : toZ S' = toZ S := by rw [← e]; exact hS h0
      have hi : ∀ (A B : List (List Nat)), toZ A = toZ B → A = B := fun A B h => by
        unfold toZ at h
        refine List.map_inj_right (fun a b hab => ?_) |>.1 h
        exact List.map_inj_right (fun x y hxy => Int.ofNat.inj hxy) |>.1 hab
      exact hi _ _ this
    subst eS
    subst e
    rw [h0] at hO ⊢
    exact (Basis_ok P K n l v u S' w hF hu.rw hR hl h1 h6 hO).mono fun e w' ⟨h, b⟩ => ⟨h.ans h6, b⟩
  · exact (Basis_err P K n _ v u rs _ w hv hu hO (by omega)).mono fun e w' ⟨h, b⟩ => ⟨ans_err (by omega) h, b⟩
end
end Go.Proofs.YtgdkfbgehbdkjaaDoor
