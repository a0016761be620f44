/- The law PlanePappus: the walks. -/
import Derived.Test.YtgpkhfpejopacaaDoorK8
import Derived.Test.YtgpkhfpejopacaaDoorM6
import Derived.Test.YtgpkhfpejopacaaDoorDPart
import Derived.Test.YtgpkhfpejopacaaDoorN2
import Derived.Test.YtgpkhfpejopacaaDoorLM2
import Derived.Deep.RegionHeld3
import Derived.Deep.MidRow
/- The figures of Pappus and of Desargues, as joins and meets tell them. -/
/- The four planes, as the program asks of them. -/
namespace Go.Proofs.YtgpkhfpejopacaaDoor
open Go.RowKit

def plpB (v : Nat) (B : List (List Nat)) : Bool := ((List.range B.length).all fun i => (List.range i).all fun j => mt (B.getD i []) (B.getD j []) == 1) && (List.range v).all fun x => (List.range x).all fun y => nb B [y, x] == 1
theorem plp_of {v : Nat} {B : List (List Nat)} {s : List Nat} (h : plpB v B = true) (hv : 4 ≤ v) (hs : s.Pairwise (· < ·) ∧ ∀ x ∈ s, 0 ≤ x ∧ x < v) (h4 : s.length = 4) (hl : liB B s = false) : PlP v B := by
  unfold plpB at h
  rw [Bool.and_eq_true] at h
  refine ⟨fun i j b c hji hb hc => ?_, fun x y hy hx => beq_iff_eq.1 (ra (ra h.2 hx) hy), hv, s, rs_iff.2 hs, h4, hl⟩
  have := beq_iff_eq.1 (ra (ra h.1 (at_lt hb)) hji)
  rw [List.getD_eq_getElem?_getD, hb, List.getD_eq_getElem?_getD, hc] at this
  exact this
theorem plp_q {q : Nat} (h : Q4 q) : PlP (vq q) (bq q) := by
  rcases h with rfl | rfl | rfl | rfl
  · exact plp_of (s := [0, 1, 3, 6]) (by decide +kernel) (by decide) (by decide) rfl (by decide +kernel)
  · exact plp_of (s := [0, 1, 4, 8]) (by decide +kernel) (by decide) (by decide) rfl (by decide +kernel)
  · exact plp_of (s := [0, 1, 5, 10]) (by decide +kernel) (by decide) (by decide) rfl (by decide +kernel)
  · exact plp_of (s := [0, 1, 6, 12]) (by decide +kernel) (by decide) (by decide) rfl (by decide +kernel)
theorem good_q {q : Nat} (h : Q4 q) : GoodD (vq q) (bq q) := by
  have key : ∀ {v : Nat} {B : List (List Nat)}, (∀ b ∈ B, b.Pairwise (· < ·) ∧ ∀ x ∈ b, 0 ≤ x ∧ x < v) → ∀ b ∈ B, Rs v 0 b := fun h b hb => rs_iff.2 (h b hb)
  rcases h with rfl | rfl | rfl | rfl
  · exact ⟨by decide, by decide, by decide, key (by decide +kernel)⟩
  · exact ⟨by decide, by decide, by decide, key (by decide +kernel)⟩
  · exact ⟨by decide, by decide, by decide, key (by decide +kernel)⟩
  · exact ⟨by decide, by decide, by decide, key (by decide +kernel)⟩
theorem dF_q {q : Nat} (h : Q4 q) : dF ((vq q : Nat) : Int) (toZ (bq q)) = 0 := by
  rcases h with rfl | rfl | rfl | rfl <;> decide +kernel
theorem prp_q {q : Nat} (h : Q4 q) : PrP (vq q) (bq q) (q + 1) := by
  obtain ⟨k, hk⟩ := (plp_q h).prp (good_q h).bls
  have e : k = q + 1 := by
    rcases h with rfl | rfl | rfl | rfl
    · exact (hk.size [1, 3, 5] (by decide)).symm
    · exact (hk.size ((bq 3).getD 0 []) (by decide)).symm
    · exact (hk.size ((bq 4).getD 0 []) (by decide)).symm
    · exact (hk.size ((bq 5).getD 0 []) (by decide)).symm
  rw [← e]; exact hk
theorem len_q {q : Nat} (h : Q4 q) : (bq q).length = vq q := by
  rcases h with rfl | rfl | rfl | rfl <;> decide
theorem dual_q {q : Nat} (h : Q4 q) : dual (vq q) (bq q) = bq q := by
  rcases h with rfl | rfl | rfl | rfl <;> decide +kernel
theorem cq_li {q : Nat} (h : Q4 q) : liB (bq q) (cq q) = false ∧ (cq q).length = q + 1 ∧ bF ((vq q : Nat) : Int) ((cq q).map Int.ofNat) = 0 := by
  rcases h with rfl | rfl | rfl | rfl <;> exact ⟨by decide +kernel, by decide, by decide +kernel⟩
end Go.Proofs.YtgpkhfpejopacaaDoor
namespace Go.Proofs.YtgpkhfpejopacaaDoor.Fd
theorem fact1_yes : goodAt 2 1 0 := fun e h1 h2 b hb hz => by omega
theorem fact1_ord : ordZ 2 1 = 2 := by decide +kernel
theorem fact1_least {q d : Int} {l : List Int} {z : Int} (h : LeastIs 2 1 q d l z) : q = 2 ∧ d = 1 ∧ l = digL 0 2 1 ∧ z = 0 :=
  h.one (.inr ⟨2, 1, rfl, rfl, by rw [fact1_ord]; decide, .inl ⟨0, by decide, fact1_yes, fun m h => by omega, rfl, rfl, rfl, rfl⟩⟩)
theorem fact1_good : GoodF 2 1 (digL 0 2 1) := by
  have hin : inL (2 : Int) (digL 0 2 1) := fun j hj => by
    rw [digL_length] at hj
    rw [digL_at _ _ _ _ hj]; exact digF_in 0 2 (by omega) j
  have hirr : irrP (monL (digL 0 2 1)) 1 2 := by rw [monL_dig 0 2 1 (by decide) (by decide)]; exact fact1_yes
  have hF : FaultIs ((2 : Nat) : Int) ((1 : Nat) : Int) (digL 0 2 1) 0 := .inr (.inr (.inr (.inr ⟨by rw [show ((2 : Nat) : Int) = 2 from rfl, show ((1 : Nat) : Int) = 1 from rfl, fact1_ord]; decide, by rw [digL_length], hin, hirr, rfl⟩)))
  obtain ⟨P, K, e1, e2, hG⟩ := good_of hF
  obtain rfl : 2 = P := by omega
  obtain rfl : 1 = K := by omega
  exact hG
end Go.Proofs.YtgpkhfpejopacaaDoor.Fd
namespace Go.Proofs.YtgpkhfpejopacaaDoor
open Go.RowKit

theorem fbx (W : World) (a b c : Value) : ∀ W', Below (W.alloc (.cells #[a, b, c] 24)).heap.size (W.alloc (.cells #[a, b, c] 24)) W' → W'.cell? ⟨W.heap.size, 0, none⟩ = some a ∧ W'.cell? ⟨W.heap.size, 1, none⟩ = some b ∧ W'.cell? ⟨W.heap.size, 2, none⟩ = some c := fBoxM a b c W
set_option maxRecDepth 100000 in
set_option maxHeartbeats 8000000 in
theorem planeFact_any (w : World) (hT : Tab w) (hF : Fd.Tab w) :
    Calls Tryd.prog 24 #[] w fun e w' => e = .returned (.bool true) ∧ Below w.heap.size w w' := by
  have C1 : Calls Tryd.prog 47 #[.int .i64 2, .int .i64 1] w fun e w' => ∃ a n c, e = .returned (.tuple #[.agg #[.int .i64 2, .int .i64 1, .slice a n c], .int .i64 0]) ∧ Hid (Sl w' (.slice a n c) (Fd.digL 0 2 1)) ∧ Below w.heap.size w w' := by
    refine (Fd.least_any 2 1 w hF).mono ?_
    rintro e w' ⟨q, d, v, l, z, rfl, hS, hL, b⟩
    obtain ⟨rfl, rfl, rfl, rfl⟩ := Fd.fact1_least hL
    obtain ⟨a, c, rfl, _⟩ := id hS
    exact ⟨a, _, c, rfl, hS, b⟩
  have H2 : Hid (∀ (W : World) (v : Value), Below w.heap.size w W → Sl W v (Fd.digL 0 2 1) → Calls Tryd.prog 10 #[.agg #[.int .i64 2, .int .i64 1, v]] W fun e w' => ∃ xa xn xc, e = .returned (.tuple #[.agg #[.int .i64 7, .slice xa xn xc], .int .i64 0]) ∧ Hid (Rw w' (.slice xa xn xc) (toZ (bq 2))) ∧ Below W.heap.size W w') := fun W v hW hS => by
    refine (Make_good 2 1 _ v W (hF.below hW) hS (by rw [Fd.digL_length]; decide) Fd.fact1_good (by decide)).mono ?_
    rintro e w' ⟨xa, xn, xc, rfl, hO, b⟩
    exact ⟨xa, xn, xc, rfl, hO.rw, b⟩
  have H3 : Hid (∀ (W : World) (u : Value), Below w.heap.size w W → Rw W u (toZ (bq 2)) → Calls Tryd.prog 17 #[.agg #[.int .i64 7, u]] W fun e w' => e = .returned (.tuple #[.int .i64 2, .int .i64 0]) ∧ Below W.heap.size W w') := fun W u hW hu =>
    PCheck_yes 7 3 (bq 2) u W (hT.next hW) (good_q (.inl rfl)) (dF_q (.inl rfl)) hu (prp_q (.inl rfl))
  have HFB : Hid (∀ (W W' : World) (u : Value), Below (W.alloc (.cells #[.int .i64 2, .int .i64 1, u] 24)).heap.size (W.alloc (.cells #[.int .i64 2, .int .i64 1, u] 24)) W' → W'.cell? ⟨W.heap.size, 0, none⟩ = some (.int .i64 2) ∧ W'.cell? ⟨W.heap.size, 1, none⟩ = some (.int .i64 1) ∧ W'.cell? ⟨W.heap.size, 2, none⟩ = some u) := fun W W' u h => fbx W _ _ _ W' h
  have HDB : Hid (∀ (W W' : World) (u : Value), Below (W.alloc (.cells #[.int .i64 7, u] 29)).heap.size (W.alloc (.cells #[.int .i64 7, u] 29)) W' → W'.cell? ⟨W.heap.size, 0, none⟩ = some (.int .i64 7) ∧ W'.cell? ⟨W.heap.size, 1, none⟩ = some u) := fun W W' u h => des_box 7 _ W W' h
  go_enter Tryd.func24, Tryd.ntmps24
  go_wp2_with (first
    | (go_at_call 47; refine C1.mono ?_; rintro e w1 ⟨a, n, c, rfl, HS1, b1⟩; clear C1; have c1 := balloc w1 (.cells #[.int .i64 2, .int .i64 1, .slice a n c] 24); obtain ⟨x0, x1, x2⟩ := HFB.out w1 (w1.alloc (.cells #[.int .i64 2, .int .i64 1, .slice a n c] 24)) (.slice a n c) (Below.refl _ _); replace b1 := Below.next b1 c1; have C2 := H2.out (w1.alloc (.cells #[.int .i64 2, .int .i64 1, .slice a n c] 24)) _ b1 (HS1.out.below c1))
    | (go_at_call 10; refine C2.mono ?_; rintro e w2 ⟨xa, xn, xc, rfl, HR2, b2⟩; clear C2; have c2 := balloc w2 (.cells #[.int .i64 7, .slice xa xn xc] 29); obtain ⟨d0, d1⟩ := HDB.out w2 (w2.alloc (.cells #[.int .i64 7, .slice xa xn xc] 29)) (.slice xa xn xc) (Below.refl _ _); replace b2 := Below.next (Below.next b1 b2) c2; have C3 := H3.out (w2.alloc (.cells #[.int .i64 7, .slice xa xn xc] 29)) _ b2 (HR2.out.below c2))
    | (go_at_call 17; refine C3.mono ?_; rintro e w3 ⟨rfl, b3⟩; clear C3; obtain ⟨f0, f1⟩ := HDB.out w2 w3 (.slice xa xn xc) b3; replace b3 := Below.next b2 b3))
  go_ret
  exact ⟨rfl, b3⟩

end Go.Proofs.YtgpkhfpejopacaaDoor

namespace Go.Proofs.YtgpkhfpejopacaaDoor
open Go.RowKit

theorem iq_inc (q : Nat) : iq q = inc (bq q) := rfl
theorem c2F_zero {n a b : Nat} (ha : a < n) (hb : b < n) (h : a ≠ b) : c2F (n : Int) (a : Int) (b : Int) = 0 := by
  unfold c2F
  rw [if_neg (by omega), if_neg (by omega)]
/-- How two lines, each through two points, cross. -/
structure CrO (v : Nat) (B : List (List Nat)) (a b x y l m p : Nat) : Prop where
  z1 : c2F v a b = 0
  j1 : jnO B a b = some l
  z2 : c2F v x y = 0
  j2 : jnO B x y = some m
  z3 : c2F B.length l m = 0
  j3 : mtO B l m = some p
  ll : l < B.length
  lm : m < B.length
  lp : p < v
  ial : inc B a l = true
  ibl : inc B b l = true
  ixm : inc B x m = true
  iym : inc B y m = true
  ipl : inc B p l = true
  ipm : inc B p m = true
  ne : l ≠ m
theorem inc_lt {v : Nat} {B : List (List Nat)} (hB : Bls v B) {p l : Nat} (hl : l < B.length) (h : inc B p l = true) : p < v := by
  obtain ⟨b, hb⟩ := at_of hl
  rw [inc_at hb] at h
  exact (hB b (List.mem_of_getElem? hb)).lt p (List.contains_iff_mem.1 h)
theorem crO {v : Nat} {B : List (List Nat)} (H : Pln v B.length (inc B)) (hB : Bls v B) {a b x y : Nat} (ha : a < v) (hb : b < v) (hx : x < v) (hy : y < v) (ab : a ≠ b) (xy : x ≠ y)
    (hno : ∀ g, g < B.length → inc B a g = true → inc B b g = true → inc B x g = true → inc B y g = true → False) : ∃ l m p, CrO v B a b x y l m p := by
  obtain ⟨l, j1⟩ := H.jn ha hb ab
  obtain ⟨m, j2⟩ := H.jn hx hy xy
  obtain ⟨l1, l2, l3, _⟩ := jnO_some j1
  obtain ⟨m1, m2, m3, _⟩ := jnO_some j2
  have ne : l ≠ m := fun e => by subst e; exact hno l l1 l2 l3 m2 m3
  obtain ⟨p, j3⟩ := H.mt l1 m1 ne
  obtain ⟨p1, p2⟩ := mtO_some j3
  exact ⟨l, m, p, c2F_zero ha hb ab, j1, c2F_zero hx hy xy, j2, c2F_zero l1 m1 ne, j3, l1, m1, inc_lt hB l1 p1, l2, l3, m2, m3, p1, p2, ne⟩
theorem il3_of {B : List (List Nat)} {a b c i : Nat} (hi : i < B.length) (h1 : inc B a i = true) (h2 : inc B b i = true) (h3 : inc B c i = true) : il3 B a b c = true := by
  obtain ⟨l, hl⟩ := at_of hi
  rw [inc_at hl] at h1 h2 h3
  exact List.any_eq_true.2 ⟨l, List.mem_of_getElem? hl, by rw [h1, h2, h3]; rfl⟩
theorem il3_no {B : List (List Nat)} {a b c : Nat} (h : il3 B a b c = false) : Ap3 B.length (inc B) a b c := fun i hi h1 h2 h3 => by
  rw [il3_of hi h1 h2 h3] at h; cases h
/-- What is picked for Pappus: three of a line, three of another, none of them on both, all unlike. -/
structure Pk6 (B : List (List Nat)) (l m x p0 p1 p2 p3 p4 p5 : Nat) : Prop where
  i0 : inc B p0 l = true
  i1 : inc B p1 l = true
  i2 : inc B p2 l = true
  i3 : inc B p3 m = true
  i4 : inc B p4 m = true
  i5 : inc B p5 m = true
  x0 : p0 ≠ x
  x1 : p1 ≠ x
  x2 : p2 ≠ x
  x3 : p3 ≠ x
  x4 : p4 ≠ x
  x5 : p5 ≠ x
  d01 : p0 ≠ p1
  d02 : p0 ≠ p2
  d12 : p1 ≠ p2
  d34 : p3 ≠ p4
  d35 : p3 ≠ p5
  d45 : p4 ≠ p5
theorem pap_fig {q : Nat} (hq : Q4 q) {l m x p0 p1 p2 p3 p4 p5 : Nat} (hl : l < (bq q).length) (hm : m < (bq q).length) (lm : l ≠ m) (xl : inc (bq q) x l = true) (xm : inc (bq q) x m = true) (h : Pk6 (bq q) l m x p0 p1 p2 p3 p4 p5) :
    ∃ g1 g2 a g3 g4 b g5 g6 c, CrO (vq q) (bq q) p0 p4 p1 p3 g1 g2 a ∧ CrO (vq q) (bq q) p0 p5 p2 p3 g3 g4 b ∧ CrO (vq q) (bq q) p1 p5 p2 p4 g5 g6 c ∧ il3 (bq q) a b c = true := by
  have hB := (good_q hq).bls
  have H := (plp_q hq).pln hB
  have hxv := inc_lt hB hl xl
  have v0 := inc_lt hB hl h.i0
  have v1 := inc_lt hB hl h.i1
  have v2 := inc_lt hB hl h.i2
  have v3 := inc_lt hB hm h.i3
  have v4 := inc_lt hB hm h.i4
  have v5 := inc_lt hB hm h.i5
  have only : ∀ {y : Nat}, y < vq q → inc (bq q) y l = true → inc (bq q) y m = true → y = x := fun {y} hy h1 h2 => Classical.byContradiction fun hn => lm (H.juni y x l m hy hxv hn hl hm h1 xl h2 xm)
  have apart : ∀ {y z : Nat}, y < vq q → y ≠ x → inc (bq q) y l = true → inc (bq q) z m = true → y ≠ z := fun {y z} hy hn h1 h2 e => hn (only hy h1 (by rw [e]; exact h2))
  have key : ∀ {y y' z z' : Nat}, y < vq q → y' < vq q → y ≠ y' → z < vq q → z ≠ x → inc (bq q) y l = true → inc (bq q) y' l = true → inc (bq q) z m = true → ∀ g, g < (bq q).length → inc (bq q) y g = true → inc (bq q) z g = true → inc (bq q) y' g = true → inc (bq q) z' g = true → False := fun {y y' z z'} hy hy' hn hz hzx a1 a2 a3 g hg c1 c2 c3 _ => by
    have e := H.juni y y' g l hy hy' hn hg hl c1 c3 a1 a2
    rw [e] at c2
    exact hzx (only hz c2 a3)
  obtain ⟨g1, g2, a, C1⟩ := crO H hB v0 v4 v1 v3 (apart v0 h.x0 h.i0 h.i4) (apart v1 h.x1 h.i1 h.i3) (key v0 v1 h.d01 v4 h.x4 h.i0 h.i1 h.i4)
  obtain ⟨g3, g4, b, C2⟩ := crO H hB v0 v5 v2 v3 (apart v0 h.x0 h.i0 h.i5) (apart v2 h.x2 h.i2 h.i3) (key v0 v2 h.d02 v5 h.x5 h.i0 h.i2 h.i5)
  obtain ⟨g5, g6, c, C3⟩ := crO H hB v1 v5 v2 v4 (apart v1 h.x1 h.i1 h.i5) (apart v2 h.x2 h.i2 h.i4) (key v1 v2 h.d12 v5 h.x5 h.i1 h.i2 h.i5)
  refine ⟨g1, g2, a, g3, g4, b, g5, g6, c, C1, C2, C3, ?_⟩
  have hn := len_q hq
  have F : PapF (vq q) (iq q) p0 p1 p2 p3 p4 p5 a b c x l m g1 g2 g3 g4 g5 g6 :=
    { b_p0 := v0, b_p1 := v1, b_p2 := v2, b_p3 := v3, b_p4 := v4, b_p5 := v5, b_a := C1.lp, b_b := C2.lp, b_c := C3.lp, b_x := hxv, b_l := hn ▸ hl, b_m := hn ▸ hm,
      b_g1 := hn ▸ C1.ll, b_g2 := hn ▸ C1.lm, b_g3 := hn ▸ C2.ll, b_g4 := hn ▸ C2.lm, b_g5 := hn ▸ C3.ll, b_g6 := hn ▸ C3.lm,
      i_x_l := xl, i_x_m := xm, i_p0_l := h.i0, i_p1_l := h.i1, i_p2_l := h.i2, i_p3_m := h.i3, i_p4_m := h.i4, i_p5_m := h.i5,
      i_p0_g1 := C1.ial, i_p4_g1 := C1.ibl, i_p1_g2 := C1.ixm, i_p3_g2 := C1.iym, i_a_g1 := C1.ipl, i_a_g2 := C1.ipm,
      i_p0_g3 := C2.ial, i_p5_g3 := C2.ibl, i_p2_g4 := C2.ixm, i_p3_g4 := C2.iym, i_b_g3 := C2.ipl, i_b_g4 := C2.ipm,
      i_p1_g5 := C3.ial, i_p5_g5 := C3.ibl, i_p2_g6 := C3.ixm, i_p4_g6 := C3.iym, i_c_g5 := C3.ipl, i_c_g6 := C3.ipm,
      d_p0_x := h.x0, d_p1_x := h.x1, d_p2_x := h.x2, d_p3_x := h.x3, d_p4_x := h.x4, d_p5_x := h.x5,
      d_p0_p1 := h.d01, d_p0_p2 := h.d02, d_p1_p2 := h.d12, d_p3_p4 := h.d34, d_p3_p5 := h.d35, d_p4_p5 := h.d45, d_l_m := lm, d_g1_g2 := C1.ne, d_g3_g4 := C2.ne, d_g5_g6 := C3.ne }
  obtain ⟨i, hi, k1, k2, k3⟩ := pap_q hq F
  exact il3_of (by rw [hn]; exact hi) k1 k2 k3
theorem des_fig {q : Nat} (hq : Q4 q) {o t0 t1 t2 u0 u1 u2 l0 l1 l2 : Nat} (hl0 : l0 < (bq q).length) (hl1 : l1 < (bq q).length) (hl2 : l2 < (bq q).length)
    (o0 : inc (bq q) o l0 = true) (o1 : inc (bq q) o l1 = true) (o2 : inc (bq q) o l2 = true) (a0 : inc (bq q) t0 l0 = true) (a1 : inc (bq q) t1 l1 = true) (a2 : inc (bq q) t2 l2 = true) (c0 : inc (bq q) u0 l0 = true) (c1 : inc (bq q) u1 l1 = true) (c2 : inc (bq q) u2 l2 = true)
    (to0 : t0 ≠ o) (to1 : t1 ≠ o) (to2 : t2 ≠ o) (uo0 : u0 ≠ o) (uo1 : u1 ≠ o) (uo2 : u2 ≠ o) (ut0 : u0 ≠ t0) (ut1 : u1 ≠ t1) (ut2 : u2 ≠ t2)
    (n01 : il3 (bq q) o t0 t1 = false) (n02 : il3 (bq q) o t0 t2 = false) (n12 : il3 (bq q) o t1 t2 = false) :
    ∃ g1 g2 a g3 g4 b g5 g6 c, CrO (vq q) (bq q) t0 t1 u0 u1 g1 g2 a ∧ CrO (vq q) (bq q) t0 t2 u0 u2 g3 g4 b ∧ CrO (vq q) (bq q) t1 t2 u1 u2 g5 g6 c ∧ il3 (bq q) a b c = true := by
  have hB := (good_q hq).bls
  have H := (plp_q hq).pln hB
  have vo := inc_lt hB hl0 o0
  have vt0 := inc_lt hB hl0 a0
  have vt1 := inc_lt hB hl1 a1
  have vt2 := inc_lt hB hl2 a2
  have vu0 := inc_lt hB hl0 c0
  have vu1 := inc_lt hB hl1 c1
  have vu2 := inc_lt hB hl2 c2
  -- two lines through the point
  have key : ∀ {l l' t t' u u' : Nat}, l < (bq q).length → l' < (bq q).length → inc (bq q) o l = true → inc (bq q) o l' = true → inc (bq q) t l = true → inc (bq q) t' l' = true → inc (bq q) u l = true → inc (bq q) u' l' = true → t ≠ o → t' ≠ o → u ≠ o → u' ≠ o → u ≠ t → u' ≠ t' → il3 (bq q) o t t' = false → ∃ g g' a, CrO (vq q) (bq q) t t' u u' g g' a := fun {l l' t t' u u'} hl hl' ol ol' tl tl' ul ul' _ _ uo _ ut ut' hn => by
    have vt := inc_lt hB hl tl
    have vt' := inc_lt hB hl' tl'
    have vu := inc_lt hB hl ul
    have vu' := inc_lt hB hl' ul'
    have A := il3_no hn
    have ne : l ≠ l' := fun e => A l hl ol tl (by rw [e]; exact tl')
    have tt : t ≠ t' := fun e => A l hl ol tl (by rw [← e]; exact tl)
    have uu : u ≠ u' := fun e => ne (H.juni u o l l' vu vo uo hl hl' ul ol (by rw [e]; exact ul') ol')
    exact crO H hB vt vt' vu vu' tt uu fun g hg e1 e2 e3 e4 => by
      have h1 := H.juni u t g l vu vt ut hg hl e3 e1 ul tl
      have h2 := H.juni u' t' g l' vu' vt' ut' hg hl' e4 e2 ul' tl'
      exact ne (h1.symm.trans h2)
  obtain ⟨g1, g2, a, C1⟩ := key hl0 hl1 o0 o1 a0 a1 c0 c1 to0 to1 uo0 uo1 ut0 ut1 n01
  obtain ⟨g3, g4, b, C2⟩ := key hl0 hl2 o0 o2 a0 a2 c0 c2 to0 to2 uo0 uo2 ut0 ut2 n02
  obtain ⟨g5, g6, c, C3⟩ := key hl1 hl2 o1 o2 a1 a2 c1 c2 to1 to2 uo1 uo2 ut1 ut2 n12
  refine ⟨g1, g2, a, g3, g4, b, g5, g6, c, C1, C2, C3, ?_⟩
  have hn := len_q hq
  have A01 := il3_no n01
  have A02 := il3_no n02
  have A12 := il3_no n12
  rw [hn] at A01 A02 A12
  have F : DesF (vq q) (iq q) o t0 t1 t2 u0 u1 u2 a b c l0 l1 l2 g1 g2 g3 g4 g5 g6 :=
    { b_o := vo, b_t0 := vt0, b_t1 := vt1, b_t2 := vt2, b_u0 := vu0, b_u1 := vu1, b_u2 := vu2, b_a := C1.lp, b_b := C2.lp, b_c := C3.lp, b_l0 := hn ▸ hl0, b_l1 := hn ▸ hl1, b_l2 := hn ▸ hl2,
      b_g1 := hn ▸ C1.ll, b_g2 := hn ▸ C1.lm, b_g3 := hn ▸ C2.ll, b_g4 := hn ▸ C2.lm, b_g5 := hn ▸ C3.ll, b_g6 := hn ▸ C3.lm,
      i_o_l0 := o0, i_t0_l0 := a0, i_u0_l0 := c0, i_o_l1 := o1, i_t1_l1 := a1, i_u1_l1 := c1, i_o_l2 := o2, i_t2_l2 := a2, i_u2_l2 := c2,
      i_t0_g1 := C1.ial, i_t1_g1 := C1.ibl, i_u0_g2 := C1.ixm, i_u1_g2 := C1.iym, i_a_g1 := C1.ipl, i_a_g2 := C1.ipm,
      i_t0_g3 := C2.ial, i_t2_g3 := C2.ibl, i_u0_g4 := C2.ixm, i_u2_g4 := C2.iym, i_b_g3 := C2.ipl, i_b_g4 := C2.ipm,
      i_t1_g5 := C3.ial, i_t2_g5 := C3.ibl, i_u1_g6 := C3.ixm, i_u2_g6 := C3.iym, i_c_g5 := C3.ipl, i_c_g6 := C3.ipm,
      d_t0_o := to0, d_u0_o := uo0, d_u0_t0 := ut0, d_t1_o := to1, d_u1_o := uo1, d_u1_t1 := ut1, d_t2_o := to2, d_u2_o := uo2, d_u2_t2 := ut2, d_g1_g2 := C1.ne, d_g3_g4 := C2.ne, d_g5_g6 := C3.ne,
      a_o_t0_t1 := A01, a_o_t0_t2 := A02, a_o_t1_t2 := A12 }
  obtain ⟨i, hi, k1, k2, k3⟩ := des_q hq F
  exact il3_of (by rw [hn]; exact hi) k1 k2 k3

end Go.Proofs.YtgpkhfpejopacaaDoor

namespace Go.Proofs.YtgpkhfpejopacaaDoor
open Go.RowKit

theorem pick_mod (z : Int) {n : Nat} (hn : 0 < n) : ∃ (r : Int) (k : Nat), z.tmod (n : Int) = r ∧ k < n ∧ ((¬ r < 0 ∧ r = k) ∨ (r < 0 ∧ -(n : Int) < r ∧ r + (n : Int) = k)) := by
  refine ⟨z.tmod n, ?_⟩
  have h1 : (z.tmod (n : Int)).natAbs < n := by
    have := Int.natAbs_tmod z (n : Int)
    rw [this, Int.natAbs_natCast]
    exact Nat.mod_lt _ hn
  by_cases h : z.tmod (n : Int) < 0
  · exact ⟨(z.tmod (n : Int) + n).toNat, rfl, by omega, .inr ⟨h, by omega, by omega⟩⟩
  · exact ⟨(z.tmod (n : Int)).toNat, rfl, by omega, .inl ⟨h, by omega⟩⟩
/-- What has been picked so far. -/
def PkI (B : List (List Nat)) (l m x : Nat) (s : List Nat) : Prop := s.Nodup ∧ ∀ (j y : Nat), s[j]? = some y → y ≠ x ∧ (j < 3 → inc B y l = true) ∧ (3 ≤ j → inc B y m = true)
theorem PkI.nil (B : List (List Nat)) (l m x : Nat) : PkI B l m x [] := ⟨List.nodup_nil, fun j y h => by simp at h⟩
theorem PkI.more {B : List (List Nat)} {l m x y : Nat} {s : List Nat} (h : PkI B l m x s) (hn : s.contains y = false) (hx : y ≠ x) (h1 : s.length < 3 → inc B y l = true) (h2 : 3 ≤ s.length → inc B y m = true) : PkI B l m x (s ++ [y]) := by
  refine ⟨List.nodup_append.2 ⟨h.1, by simp, fun a ha b hb e => ?_⟩, fun j z hz => ?_⟩
  · rw [List.mem_singleton.1 hb] at e
    rw [e] at ha
    rw [List.contains_iff_mem.2 ha] at hn; cases hn
  · by_cases hj : j < s.length
    · rw [List.getElem?_append_left hj] at hz
      exact h.2 j z hz
    · rw [List.getElem?_append_right (by omega)] at hz
      have : j - s.length = 0 := by
        have := (List.getElem?_eq_some_iff.1 hz).1
        simp at this; omega
      rw [this] at hz
      obtain rfl : y = z := by simpa using hz
      exact ⟨hx, fun h3 => h1 (by omega), fun h3 => h2 (by omega)⟩
theorem PkI.six {B : List (List Nat)} {l m x : Nat} {s : List Nat} (h : PkI B l m x s) (h6 : s.length = 6) : ∃ p0 p1 p2 p3 p4 p5, s = [p0, p1, p2, p3, p4, p5] ∧ Pk6 B l m x p0 p1 p2 p3 p4 p5 := by
  match s, h6 with
  | [p0, p1, p2, p3, p4, p5], _ =>
    obtain ⟨nd, ha⟩ := h
    simp only [List.nodup_cons, List.mem_cons, List.not_mem_nil, or_false, not_or] at nd
    have a0 := ha 0 p0 rfl
    have a1 := ha 1 p1 rfl
    have a2 := ha 2 p2 rfl
    have a3 := ha 3 p3 rfl
    have a4 := ha 4 p4 rfl
    have a5 := ha 5 p5 rfl
    exact ⟨p0, p1, p2, p3, p4, p5, rfl, a0.2.1 (by omega), a1.2.1 (by omega), a2.2.1 (by omega), a3.2.2 (by omega), a4.2.2 (by omega), a5.2.2 (by omega), a0.1, a1.1, a2.1, a3.1, a4.1, a5.1, nd.1.1, nd.1.2.1, nd.2.1.1, nd.2.2.2.1.1, nd.2.2.2.1.2, nd.2.2.2.2.1⟩
set_option maxRecDepth 100000 in
set_option maxHeartbeats 8000000 in
theorem LPap_bad (p k r : Int) (l m : Int) (v ov : Value) (w : World) (hr : r ≠ 0) (hv : ∃ a n c, v = .slice a n c)
    (h0 : ∀ W, Below w.heap.size w W → Calls Tryd.prog 24 #[] W fun e w' => e = .returned (.bool true) ∧ Below W.heap.size W w')
    (h2 : ∀ W, Below w.heap.size w W → Calls Tryd.prog 10 #[.agg #[.int .i64 p, .int .i64 k, v]] W fun e w' => e = .returned (.tuple #[.agg #[.int .i64 0, .slice none 0 0], .int .i64 r]) ∧ Below W.heap.size W w') :
    Calls Tryd.prog 7 #[.agg #[.int .i64 p, .int .i64 k, v], .int .i64 l, .int .i64 m, ov] w fun e w' => e = .returned (.bool true) ∧ Below w.heap.size w w' := by
  obtain ⟨fa, fn, fc, rfl⟩ := hv
  have b0 := balloc w (.cells #[.int .i64 p, .int .i64 k, .slice fa fn fc] 24)
  have HF : Hid (∀ W, Below (w.alloc (.cells #[.int .i64 p, .int .i64 k, .slice fa fn fc] 24)).heap.size (w.alloc (.cells #[.int .i64 p, .int .i64 k, .slice fa fn fc] 24)) W → W.cell? ⟨w.heap.size, 0, none⟩ = some (.int .i64 p) ∧ W.cell? ⟨w.heap.size, 1, none⟩ = some (.int .i64 k) ∧ W.cell? ⟨w.heap.size, 2, none⟩ = some (.slice fa fn fc)) := fBoxM _ _ _ w
  have C1 := h0 _ b0
  have H2 : Hid (∀ W, Below w.heap.size w W → Calls Tryd.prog 10 #[.agg #[.int .i64 p, .int .i64 k, .slice fa fn fc]] W fun e w' => e = .returned (.tuple #[.agg #[.int .i64 0, .slice none 0 0], .int .i64 r]) ∧ Below W.heap.size W w') := h2
  have hr1 : (r != 0) = true := by simpa using hr
  clear h0 h2
  go_enter Tryd.func7, Tryd.ntmps7
  go_wp2_with (first
    | (go_at_call 24; refine C1.mono ?_; rintro e w1 ⟨rfl, b1⟩; clear C1; obtain ⟨y0, y1, y2⟩ := HF.out _ b1; replace b1 := Below.next b0 b1; have C2 := H2.out _ b1)
    | (go_at_call 10; refine C2.mono ?_; rintro e w2 ⟨rfl, b2⟩; clear C2; have c2 := balloc w2 (.cells #[.int .i64 0, .slice none 0 0] 29); replace b2 := Below.next (Below.next b1 b2) c2))
  go_ret
  exact ⟨rfl, b2⟩
set_option maxRecDepth 100000 in
set_option maxHeartbeats 8000000 in
theorem LPap_short (p k : Int) (l m : Int) (v0 : Nat) (v ov : Value) (n : Nat) (w : World) (hv : ∃ a n c, v = .slice a n c) (ho : ∃ a c, ov = .slice a n c) (hn : n < 6)
    (h0 : ∀ W, Below w.heap.size w W → Calls Tryd.prog 24 #[] W fun e w' => e = .returned (.bool true) ∧ Below W.heap.size W w')
    (h2 : ∀ W, Below w.heap.size w W → Calls Tryd.prog 10 #[.agg #[.int .i64 p, .int .i64 k, v]] W fun e w' => ∃ xa xn xc, e = .returned (.tuple #[.agg #[.int .i64 (v0 : Int), .slice xa xn xc], .int .i64 0]) ∧ Below W.heap.size W w') :
    Calls Tryd.prog 7 #[.agg #[.int .i64 p, .int .i64 k, v], .int .i64 l, .int .i64 m, ov] w fun e w' => e = .returned (.bool true) ∧ Below w.heap.size w w' := by
  obtain ⟨fa, fn, fc, rfl⟩ := hv
  obtain ⟨oa, oc, rfl⟩ := ho
  have b0 := balloc w (.cells #[.int .i64 p, .int .i64 k, .slice fa fn fc] 24)
  have HF : Hid (∀ W, Below (w.alloc (.cells #[.int .i64 p, .int .i64 k, .slice fa fn fc] 24)).heap.size (w.alloc (.cells #[.int .i64 p, .int .i64 k, .slice fa fn fc] 24)) W → W.cell? ⟨w.heap.size, 0, none⟩ = some (.int .i64 p) ∧ W.cell? ⟨w.heap.size, 1, none⟩ = some (.int .i64 k) ∧ W.cell? ⟨w.heap.size, 2, none⟩ = some (.slice fa fn fc)) := fBoxM _ _ _ w
  have C1 := h0 _ b0
  have H2 : Hid (∀ W, Below w.heap.size w W → Calls Tryd.prog 10 #[.agg #[.int .i64 p, .int .i64 k, .slice fa fn fc]] W fun e w' => ∃ xa xn xc, e = .returned (.tuple #[.agg #[.int .i64 (v0 : Int), .slice xa xn xc], .int .i64 0]) ∧ Below W.heap.size W w') := h2
  have hn1 : decide ((n : Int) < 6) = true := by simp; omega
  have hn2 : decide (n < 6) = true := by simpa using hn
  clear h0 h2
  go_enter Tryd.func7, Tryd.ntmps7
  go_wp2_with (first
    | (go_at_call 24; refine C1.mono ?_; rintro e w1 ⟨rfl, b1⟩; clear C1; obtain ⟨y0, y1, y2⟩ := HF.out _ b1; replace b1 := Below.next b0 b1; have C2 := H2.out _ b1)
    | (go_at_call 10; refine C2.mono ?_; rintro e w2 ⟨xa, xn, xc, rfl, b2⟩; clear C2; have c2 := balloc w2 (.cells #[.int .i64 (v0 : Int), .slice xa xn xc] 29); replace b2 := Below.next (Below.next b1 b2) c2))
  go_ret
  exact ⟨rfl, b2⟩
set_option maxRecDepth 100000 in
set_option maxHeartbeats 8000000 in
theorem LPap_wrong (p k : Int) (l m : Int) (v0 z n : Nat) (BB : List (List Nat)) (v ov : Value) (w : World) (hv : ∃ a n c, v = .slice a n c) (ho : ∃ a c, ov = .slice a n c) (hn : ¬ n < 6) (hz : z ≠ 0)
    (h0 : ∀ W, Below w.heap.size w W → Calls Tryd.prog 24 #[] W fun e w' => e = .returned (.bool true) ∧ Below W.heap.size W w')
    (h2 : ∀ W, Below w.heap.size w W → Calls Tryd.prog 10 #[.agg #[.int .i64 p, .int .i64 k, v]] W fun e w' => ∃ xa xn xc, e = .returned (.tuple #[.agg #[.int .i64 (v0 : Int), .slice xa xn xc], .int .i64 0]) ∧ Hid (Rw w' (.slice xa xn xc) (toZ BB)) ∧ Below W.heap.size W w')
    (h3 : ∀ (W : World) (u : Value), Below w.heap.size w W → Rw W u (toZ BB) → Calls Tryd.prog 19 #[.agg #[.int .i64 (v0 : Int), u], .int .i64 l, .int .i64 m] W fun e w' => e = .returned (.tuple #[.int .i64 0, .int .i64 (z : Int)]) ∧ Below W.heap.size W w') :
    Calls Tryd.prog 7 #[.agg #[.int .i64 p, .int .i64 k, v], .int .i64 l, .int .i64 m, ov] w fun e w' => e = .returned (.bool true) ∧ Below w.heap.size w w' := by
  obtain ⟨fa, fn, fc, rfl⟩ := hv
  obtain ⟨oa, oc, rfl⟩ := ho
  have b0 := balloc w (.cells #[.int .i64 p, .int .i64 k, .slice fa fn fc] 24)
  have HF : Hid (∀ W, Below (w.alloc (.cells #[.int .i64 p, .int .i64 k, .slice fa fn fc] 24)).heap.size (w.alloc (.cells #[.int .i64 p, .int .i64 k, .slice fa fn fc] 24)) W → W.cell? ⟨w.heap.size, 0, none⟩ = some (.int .i64 p) ∧ W.cell? ⟨w.heap.size, 1, none⟩ = some (.int .i64 k) ∧ W.cell? ⟨w.heap.size, 2, none⟩ = some (.slice fa fn fc)) := fBoxM _ _ _ w
  have C1 := h0 _ b0
  have H2 : Hid (∀ W, Below w.heap.size w W → Calls Tryd.prog 10 #[.agg #[.int .i64 p, .int .i64 k, .slice fa fn fc]] W fun e w' => ∃ xa xn xc, e = .returned (.tuple #[.agg #[.int .i64 (v0 : Int), .slice xa xn xc], .int .i64 0]) ∧ Hid (Rw w' (.slice xa xn xc) (toZ BB)) ∧ Below W.heap.size W w') := h2
  have H3 : Hid (∀ (W : World) (u : Value), Below w.heap.size w W → Rw W u (toZ BB) → Calls Tryd.prog 19 #[.agg #[.int .i64 (v0 : Int), u], .int .i64 l, .int .i64 m] W fun e w' => e = .returned (.tuple #[.int .i64 0, .int .i64 (z : Int)]) ∧ Below W.heap.size W w') := h3
  have HDB : Hid (∀ (W W' : World) (u : Value), Below (W.alloc (.cells #[.int .i64 (v0 : Int), u] 29)).heap.size (W.alloc (.cells #[.int .i64 (v0 : Int), u] 29)) W' → W'.cell? ⟨W.heap.size, 0, none⟩ = some (.int .i64 (v0 : Int)) ∧ W'.cell? ⟨W.heap.size, 1, none⟩ = some u) := fun W W' u h => des_box v0 _ W W' h
  have hn1 : decide ((n : Int) < 6) = false := by simp; omega
  have hn2 : decide (n < 6) = false := by simpa using hn
  have hz2 : ¬ (z : Int) = 0 := by omega
  have hz1 : ((z : Int) != 0) = true := by simpa using hz2
  clear h0 h2 h3
  go_enter Tryd.func7, Tryd.ntmps7
  go_wp2_with (first
    | (go_at_call 24; refine C1.mono ?_; rintro e w1 ⟨rfl, b1⟩; clear C1; obtain ⟨y0, y1, y2⟩ := HF.out _ b1; replace b1 := Below.next b0 b1; have C2 := H2.out _ b1)
    | (go_at_call 10; refine C2.mono ?_; rintro e w2 ⟨xa, xn, xc, rfl, HR2, b2⟩; clear C2; have c2 := balloc w2 (.cells #[.int .i64 (v0 : Int), .slice xa xn xc] 29); obtain ⟨d0, d1⟩ := HDB.out w2 (w2.alloc (.cells #[.int .i64 (v0 : Int), .slice xa xn xc] 29)) (.slice xa xn xc) (Below.refl _ _); replace b2 := Below.next (Below.next b1 b2) c2; have C3 := H3.out (w2.alloc (.cells #[.int .i64 (v0 : Int), .slice xa xn xc] 29)) _ b2 (HR2.out.below c2))
    | (go_at_call 19; refine C3.mono ?_; rintro e w3 ⟨rfl, b3⟩; clear C3; replace b3 := Below.next b2 b3))
  go_ret
  exact ⟨rfl, b3⟩
set_option maxRecDepth 100000 in
set_option maxHeartbeats 64000000 in
theorem LPap_main (p k : Int) (l m x v n bn : Nat) (BB : List (List Nat)) (L M : List Nat) (os : List Int) (fv ov : Value) (w : World) (hv : ∃ a n c, fv = .slice a n c) (ho : Sl w ov os) (hos : os.length = n) (hn : ¬ n < 6)
    (hlB : BB[l]? = some L) (hmB : BB[m]? = some M) (hL : L.length = bn) (hM : M.length = bn) (hb0 : 0 < bn) (hb40 : bn ≤ 40)
    (h0 : ∀ W, Below w.heap.size w W → Calls Tryd.prog 24 #[] W fun e w' => e = .returned (.bool true) ∧ Below W.heap.size W w')
    (h2 : ∀ W, Below w.heap.size w W → Calls Tryd.prog 10 #[.agg #[.int .i64 p, .int .i64 k, fv]] W fun e w' => ∃ xa xn xc, e = .returned (.tuple #[.agg #[.int .i64 (v : Int), .slice xa xn xc], .int .i64 0]) ∧ Hid (Rw w' (.slice xa xn xc) (toZ BB)) ∧ Below W.heap.size W w')
    (h3 : ∀ (W : World) (u : Value), Below w.heap.size w W → Rw W u (toZ BB) → Calls Tryd.prog 19 #[.agg #[.int .i64 (v : Int), u], .int .i64 (l : Int), .int .i64 (m : Int)] W fun e w' => e = .returned (.tuple #[.int .i64 (x : Int), .int .i64 0]) ∧ Below W.heap.size W w')
    (h4 : ∀ p0 p1 p2 p3 p4 p5, Pk6 BB l m x p0 p1 p2 p3 p4 p5 → ∃ a b c : Nat, ∀ (W : World) (u : Value), Below w.heap.size w W → Rw W u (toZ BB) →
      (Calls Tryd.prog 28 #[.agg #[.int .i64 (v : Int), u], .int .i64 (p0 : Int), .int .i64 (p4 : Int), .int .i64 (p1 : Int), .int .i64 (p3 : Int)] W fun e w' => e = .returned (.int .i64 (a : Int)) ∧ Below W.heap.size W w') ∧
      (Calls Tryd.prog 28 #[.agg #[.int .i64 (v : Int), u], .int .i64 (p0 : Int), .int .i64 (p5 : Int), .int .i64 (p2 : Int), .int .i64 (p3 : Int)] W fun e w' => e = .returned (.int .i64 (b : Int)) ∧ Below W.heap.size W w') ∧
      (Calls Tryd.prog 28 #[.agg #[.int .i64 (v : Int), u], .int .i64 (p1 : Int), .int .i64 (p5 : Int), .int .i64 (p2 : Int), .int .i64 (p4 : Int)] W fun e w' => e = .returned (.int .i64 (c : Int)) ∧ Below W.heap.size W w') ∧
      (Calls Tryd.prog 29 #[.agg #[.int .i64 (v : Int), u], .int .i64 (a : Int), .int .i64 (b : Int), .int .i64 (c : Int)] W fun e w' => e = .returned (.bool true) ∧ Below W.heap.size W w')) :
    Calls Tryd.prog 7 #[.agg #[.int .i64 p, .int .i64 k, fv], .int .i64 (l : Int), .int .i64 (m : Int), ov] w fun e w' => e = .returned (.bool true) ∧ Below w.heap.size w w' := by
  obtain ⟨i3, hi3, hz0, hz1, hz2⟩ := info3
  obtain ⟨fa, fn, fc, rfl⟩ := hv
  have HON : Hid (∀ j, j < n → ∃ g o, (∃ c, ov = .slice (some ⟨g, o, none⟩) n c) ∧ ∀ W, Below w.heap.size w W → W.cell? ⟨g, o + j, none⟩ = some (.int .i64 (os.getD j 0))) := fun j hj => by
    obtain ⟨a', c', e, h⟩ := ho
    rw [hos] at h e
    obtain ⟨g, o, e1, h1⟩ := h j hj
    exact ⟨g, o, ⟨c', by rw [e, e1]⟩, fun W hW => (hW.cell (World.block_lt_of_cell? _ _ h1)).trans h1⟩
  obtain ⟨og, oo, ⟨oc, rfl⟩, -⟩ := HON.out 0 (by omega)
  have HOC : Hid (∀ j, j < n → ∀ W, Below w.heap.size w W → W.cell? ⟨og, oo + j, none⟩ = some (.int .i64 (os.getD j 0))) := fun j hj W hW => by
    obtain ⟨g, o, ⟨c, e⟩, h⟩ := HON.out j hj
    simp only [Value.slice.injEq, Option.some.injEq, Addr.mk.injEq] at e
    rw [e.1.1, e.1.2.1]
    exact h W hW
  have b0 := balloc w (.cells #[.int .i64 p, .int .i64 k, .slice fa fn fc] 24)
  have HF : Hid (∀ W, Below (w.alloc (.cells #[.int .i64 p, .int .i64 k, .slice fa fn fc] 24)).heap.size (w.alloc (.cells #[.int .i64 p, .int .i64 k, .slice fa fn fc] 24)) W → W.cell? ⟨w.heap.size, 0, none⟩ = some (.int .i64 p) ∧ W.cell? ⟨w.heap.size, 1, none⟩ = some (.int .i64 k) ∧ W.cell? ⟨w.heap.size, 2, none⟩ = some (.slice fa fn fc)) := fBoxM _ _ _ w
  have C1 := h0 _ b0
  have H2 : Hid (∀ W, Below w.heap.size w W → Calls Tryd.prog 10 #[.agg #[.int .i64 p, .int .i64 k, .slice fa fn fc]] W fun e w' => ∃ xa xn xc, e = .returned (.tuple #[.agg #[.int .i64 (v : Int), .slice xa xn xc], .int .i64 0]) ∧ Hid (Rw w' (.slice xa xn xc) (toZ BB)) ∧ Below W.heap.size W w') := h2
  have H3 : Hid (∀ (W : World) (u : Value), Below w.heap.size w W → Rw W u (toZ BB) → Calls Tryd.prog 19 #[.agg #[.int .i64 (v : Int), u], .int .i64 (l : Int), .int .i64 (m : Int)] W fun e w' => e = .returned (.tuple #[.int .i64 (x : Int), .int .i64 0]) ∧ Below W.heap.size W w') := h3
  have H4 : Hid (∀ p0 p1 p2 p3 p4 p5, Pk6 BB l m x p0 p1 p2 p3 p4 p5 → ∃ a b c : Nat, ∀ (W : World) (u : Value), Below w.heap.size w W → Rw W u (toZ BB) →
      (Calls Tryd.prog 28 #[.agg #[.int .i64 (v : Int), u], .int .i64 (p0 : Int), .int .i64 (p4 : Int), .int .i64 (p1 : Int), .int .i64 (p3 : Int)] W fun e w' => e = .returned (.int .i64 (a : Int)) ∧ Below W.heap.size W w') ∧
      (Calls Tryd.prog 28 #[.agg #[.int .i64 (v : Int), u], .int .i64 (p0 : Int), .int .i64 (p5 : Int), .int .i64 (p2 : Int), .int .i64 (p3 : Int)] W fun e w' => e = .returned (.int .i64 (b : Int)) ∧ Below W.heap.size W w') ∧
      (Calls Tryd.prog 28 #[.agg #[.int .i64 (v : Int), u], .int .i64 (p1 : Int), .int .i64 (p5 : Int), .int .i64 (p2 : Int), .int .i64 (p4 : Int)] W fun e w' => e = .returned (.int .i64 (c : Int)) ∧ Below W.heap.size W w') ∧
      (Calls Tryd.prog 29 #[.agg #[.int .i64 (v : Int), u], .int .i64 (a : Int), .int .i64 (b : Int), .int .i64 (c : Int)] W fun e w' => e = .returned (.bool true) ∧ Below W.heap.size W w')) := h4
  have HDB : Hid (∀ (W W' : World) (u : Value), Below (W.alloc (.cells #[.int .i64 (v : Int), u] 29)).heap.size (W.alloc (.cells #[.int .i64 (v : Int), u] 29)) W' → W'.cell? ⟨W.heap.size, 0, none⟩ = some (.int .i64 (v : Int)) ∧ W'.cell? ⟨W.heap.size, 1, none⟩ = some u) := fun W W' u h => des_box v _ W W' h
  have hn1 : decide ((n : Int) < 6) = false := by simp; omega
  have hn2 : decide (n < 6) = false := by simpa using hn
  clear h0 h2 h3 h4 ho HON
  go_enter Tryd.func7, Tryd.ntmps7
  go_wp2_with (first
    | (go_at_call 24; refine C1.mono ?_; rintro e w1 ⟨rfl, b1⟩; clear C1; obtain ⟨y0, y1, y2⟩ := HF.out _ b1; replace b1 := Below.next b0 b1; have C2 := H2.out _ b1)
    | (go_at_call 10; refine C2.mono ?_; rintro e w2 ⟨ua, un, uc, rfl, HR2, b2⟩; clear C2; have c2 := balloc w2 (.cells #[.int .i64 (v : Int), .slice ua un uc] 29); obtain ⟨d0, d1⟩ := HDB.out w2 (w2.alloc (.cells #[.int .i64 (v : Int), .slice ua un uc] 29)) (.slice ua un uc) (Below.refl _ _); replace b2 := Below.next (Below.next b1 b2) c2; have C3 := H3.out (w2.alloc (.cells #[.int .i64 (v : Int), .slice ua un uc] 29)) _ b2 (HR2.out.below c2))
    | (go_at_call 19; refine C3.mono ?_; rintro e w3 ⟨rfl, b3⟩; clear C3; have b23 := b3; replace b3 := Below.next b2 b3))
  obtain ⟨g, Hg⟩ : ∃ g, Hid (w2.heap.size = g) := ⟨_, rfl⟩
  obtain ⟨C, HC⟩ : ∃ C, Hid (w3.heap.size = C) := ⟨_, rfl⟩
  have HBC : Hid (∀ W, Below C w3 W → Below w.heap.size w W) := fun W h => Below.next b3 (by rw [HC.out]; exact h)
  have HSC : Hid (∀ W, Below C w3 W → C ≤ W.heap.size) := fun W h => by rw [← HC.out]; exact h.size
  have HBX : Hid (∀ W, Below C w3 W → W.cell? ⟨g, 0, none⟩ = some (.int .i64 (v : Int)) ∧ W.cell? ⟨g, 1, none⟩ = some (.slice ua un uc)) := fun W h => by
    rw [← Hg.out]
    exact HDB.out w2 W _ (Below.next b23 (by rw [HC.out]; exact h))
  have hR3 : Rw w3 (.slice ua un uc) (toZ BB) := HR2.out.below (Below.next c2 b23)
  have HRW : Hid (∀ W, Below C w3 W → Rw W (.slice ua un uc) (toZ BB)) := fun W h => hR3.below (by rw [HC.out]; exact h)
  obtain ⟨ua', uc', eu, hD⟩ := drow_of hR3
  obtain ⟨bb, off, la, lc, eb, hrow⟩ := hD l L hlB
  obtain ⟨bb2, off2, ma, mc, eb2, hrow2⟩ := hD m M hmB
  have hun : un = BB.length := by simp only [Value.slice.injEq] at eu; exact eu.2.1
  obtain rfl : ua = some ⟨bb, off, none⟩ := by simp only [Value.slice.injEq] at eu; rw [eu.1, eb]
  obtain ⟨rfl, rfl⟩ : bb = bb2 ∧ off = off2 := by
    rw [eb] at eb2
    simp only [Option.some.injEq, Addr.mk.injEq] at eb2
    exact ⟨eb2.1, eb2.2.1⟩
  have hlu : (l : Int) < (un : Int) := by have := (List.getElem?_eq_some_iff.1 hlB).1; omega
  have hmu : (m : Int) < (un : Int) := by have := (List.getElem?_eq_some_iff.1 hmB).1; omega
  rw [hL] at hrow
  rw [hM] at hrow2
  have HLR : Hid (∀ W, Below C w3 W → W.cell? ⟨bb, off + l, none⟩ = some (.slice la bn lc)) := fun W h => (hrow W (by rw [HC.out]; exact h)).1
  have HMR : Hid (∀ W, Below C w3 W → W.cell? ⟨bb, off + m, none⟩ = some (.slice ma bn mc)) := fun W h => (hrow2 W (by rw [HC.out]; exact h)).1
  have HLE : Hid (∀ j, j < bn → ∃ lg lo, la = some ⟨lg, lo, none⟩ ∧ (∀ W, Below C w3 W → W.cell? ⟨lg, lo + j, none⟩ = some (.int .i64 ((L.getD j 0 : Nat) : Int)))) := fun j hj => by
    obtain ⟨a', c', e, h⟩ := (hrow w3 (Below.refl _ _)).2
    rw [List.length_map] at h e
    obtain ⟨lg, lo, e1, h1⟩ := h j (by omega)
    rw [ofNat_at L (by omega)] at h1
    simp only [Value.slice.injEq] at e
    exact ⟨lg, lo, by rw [e.1, e1], fun W hW => (hW.cell (by rw [← HC.out]; exact World.block_lt_of_cell? _ _ h1)).trans h1⟩
  have HME : Hid (∀ j, j < bn → ∃ lg lo, ma = some ⟨lg, lo, none⟩ ∧ (∀ W, Below C w3 W → W.cell? ⟨lg, lo + j, none⟩ = some (.int .i64 ((M.getD j 0 : Nat) : Int)))) := fun j hj => by
    obtain ⟨a', c', e, h⟩ := (hrow2 w3 (Below.refl _ _)).2
    rw [List.length_map] at h e
    obtain ⟨lg, lo, e1, h1⟩ := h j (by omega)
    rw [ofNat_at M (by omega)] at h1
    simp only [Value.slice.injEq] at e
    exact ⟨lg, lo, by rw [e.1, e1], fun W hW => (hW.cell (by rw [← HC.out]; exact World.block_lt_of_cell? _ _ h1)).trans h1⟩
  have HIL : Hid (∀ j, j < bn → inc BB (L.getD j 0) l = true) := fun j hj => by
    rw [inc_at hlB, List.contains_iff_mem, List.getD_eq_getElem?_getD, List.getElem?_eq_getElem (by omega)]
    exact List.getElem_mem _
  have HIM : Hid (∀ j, j < bn → inc BB (M.getD j 0) m = true) := fun j hj => by
    rw [inc_at hmB, List.contains_iff_mem, List.getD_eq_getElem?_getD, List.getElem?_eq_getElem (by omega)]
    exact List.getElem_mem _
  have h0 : Below C w3 w3 := Below.refl _ _
  have hbn0 : ¬ (bn : Int) = 0 := by omega
  have hbn0' : ¬ bn = 0 := by omega
  clear hR3 hD hrow hrow2 eu eb eb2 hun d0 d1 b3 b23 b2 b1 c2 HR2 y0 y1 y2 hlB hmB hL hM
  rw [Hg.out]
  go_loopw [13, 14] (fun pv iv wr => ∃ (s : List Nat) (pa : Option Addr) (pn pc : Nat), iv = .int .i64 (pn : Int) ∧ pn ≤ 6 ∧ pv = .slice pa pn pc ∧ Hid (s.length = pn) ∧ Hid (ORow wr C (.slice pa pn pc) s) ∧ Hid (PkI BB l m x s) ∧ Below C w3 wr) (fun _ iv _ => (6 - intOf iv).toNat)
  case atStart => exact ⟨[], none, 0, 0, rfl, by omega, rfl, (show ([] : List Nat).length = 0 from rfl), (show ORow _ _ _ [] from World.ownsRow_nil _ _ _ _), PkI.nil _ _ _ _, h0⟩
  case round =>
    clear h0
    obtain ⟨s, pa, pn, pc, rfl, hp6, rfl, HSL, HOR, HPK, hB⟩ := hrel
    obtain ⟨x0, x1⟩ := HBX.out _ hB
    by_cases hlt : pn < 6
    · have hdi : decide ((pn : Int) < 6) = true := by simp; omega
      have hoc := HOC.out pn (by omega) _ (HBC.out _ hB)
      have hpni : (pn : Int) < (n : Int) := by omega
      obtain ⟨z, Hz⟩ : ∃ z, Hid (os.getD pn 0 = z) := ⟨_, rfl⟩
      rw [Hz.out] at hoc
      obtain ⟨r, kk, hmod, hkk, hrk⟩ := pick_mod z hb0
      have hsz := HSC.out _ hB
      have hkb : (kk : Int) < (bn : Int) := by omega
      have hl1 := HLR.out _ hB
      have hm1 := HMR.out _ hB
      have HLY : Hid (∀ (y : Nat) (W : World), Below wr.heap.size wr W → Calls Tryd.prog 27 #[.slice pa pn pc, .int .i64 (y : Int)] W fun e w' => e = .returned (.bool (s.contains y)) ∧ w' = W) := fun y W hW => Lies_any s y _ _ W ((HOR.out.below hW).sl) (by have := HSL.out; omega) rfl
      by_cases h2 : 2 < pn
      · have hd2 : decide (2 < (pn : Int)) = true := by simp; omega
        have hd2' : decide (2 < pn) = true := by simpa using h2
        rcases hrk with ⟨hneg, rfl⟩ | ⟨hneg, hlow, hsum⟩
        · obtain ⟨lg, lo, rfl, hel0⟩ := HME.out kk hkk
          have hel := hel0 _ hB
          clear hel0
          have hin := HIM.out kk hkk
          obtain ⟨y, Hy⟩ : ∃ y, Hid (M.getD kk 0 = y) := ⟨_, rfl⟩
          rw [Hy.out] at hel hin
          have CL := HLY.out y wr (Below.refl _ _)
          have hd1 : decide ((kk : Int) < 0) = false := by simp
          by_cases hyx : y = x
          · have e1 : ((y : Int) == (x : Int)) = true := by simp; omega
            subst hyx
            have e2 : ((y : Int) == (y : Int)) = true := by simp
            clear HOR HPK HSL
            go_wp2_with (go_at_call 27; refine CL.mono ?_; rintro e w5 ⟨rfl, hw⟩; replace hw := hw.symm; subst hw; clear CL)
            go_ret
            exact ⟨rfl, HBC.out _ hB⟩
          · have e1 : ((y : Int) == (x : Int)) = false := by
              have : ¬ (y : Int) = (x : Int) := by omega
              simpa using this
            have e3 : ¬ (y : Int) = (x : Int) := by omega
            obtain ⟨t, Ht⟩ : ∃ t, Hid (s.contains y = t) := ⟨_, rfl⟩
            rw [Ht.out] at CL
            cases t
            · have HP8 : Hid (PkI BB l m x (s ++ [y])) := HPK.out.more Ht.out hyx (fun h => by have := HSL.out; omega) (fun _ => hin)
              have hown : wr.ownsRow C 3 1 (.slice pa pn pc) pn ((s.map Int.ofNat).map (Value.int .i64)) := by
                have h := HOR.out
                unfold ORow at h
                rwa [HSL.out] at h
              clear HOR HPK
              go_wp2_with (first
                | (go_at_call 27; refine CL.mono ?_; rintro e w5 ⟨rfl, hw⟩; replace hw := hw.symm; subst hw; clear CL)
                | (at_builtin; refine wpList_append_own _ rfl _ _ 22 rfl C 3 i3 (.int .i64 0) 1 8 und22 hi3 hz0 hz1 hz2 rfl (by decide) _ _ _ rfl (hown.alloc _) ⟨wr.heap.size, 0, none⟩ 1 1 [.int .i64 (y : Int)] rfl rfl (fun j u hj => by (match j, hj with | 0, hj => simp at hj; subst hj; simp [Addr.add])) (fun u hu => by (simp at hu; subst hu; rfl)) (by (unfold maxLen; omega)) (by omega) (by (simp; omega)) ?_; intro v' w8 hown' hgrow _
                   have hb8 : Below C w3 w8 := (hB.alloc hsz _).grown hgrow (by simp; omega) (fun k hk => (hown.lt k hk).1)
                   obtain ⟨va', vc', rfl⟩ := own_form2 hown'
                   have HO8 : Hid (ORow w8 C (.slice va' (pn + 1) vc') (s ++ [y])) := (show ORow w8 C (.slice va' (pn + 1) vc') (s ++ [y]) by unfold ORow; rw [List.length_append, HSL.out, List.map_append, List.map_append]; exact hown')
                   have HL8 : Hid ((s ++ [y]).length = pn + 1) := (show (s ++ [y]).length = pn + 1 by rw [List.length_append, HSL.out]; rfl)
                   clear hown hgrow hown')
                | go_in)
              clear hB
              go_roundw
              case rel => exact ⟨s ++ [y], va', pn + 1, vc', by go_num, by omega, rfl, HL8, HO8, HP8, hb8⟩
              case measure => simp [intOf]; omega
            · clear HOR HPK HSL
              go_wp2_with (go_at_call 27; refine CL.mono ?_; rintro e w5 ⟨rfl, hw⟩; replace hw := hw.symm; subst hw; clear CL)
              go_ret
              exact ⟨rfl, HBC.out _ hB⟩
        · obtain ⟨lg, lo, rfl, hel0⟩ := HME.out kk hkk
          have hel := hel0 _ hB
          clear hel0
          have hin := HIM.out kk hkk
          obtain ⟨y, Hy⟩ : ∃ y, Hid (M.getD kk 0 = y) := ⟨_, rfl⟩
          rw [Hy.out] at hel hin
          have CL := HLY.out y wr (Below.refl _ _)
          have hd1 : decide (r < 0) = true := decide_eq_true hneg
          by_cases hyx : y = x
          · have e1 : ((y : Int) == (x : Int)) = true := by simp; omega
            subst hyx
            have e2 : ((y : Int) == (y : Int)) = true := by simp
            clear HOR HPK HSL
            go_wp2_with (go_at_call 27; refine CL.mono ?_; rintro e w5 ⟨rfl, hw⟩; replace hw := hw.symm; subst hw; clear CL)
            go_ret
            exact ⟨rfl, HBC.out _ hB⟩
          · have e1 : ((y : Int) == (x : Int)) = false := by
              have : ¬ (y : Int) = (x : Int) := by omega
              simpa using this
            have e3 : ¬ (y : Int) = (x : Int) := by omega
            obtain ⟨t, Ht⟩ : ∃ t, Hid (s.contains y = t) := ⟨_, rfl⟩
            rw [Ht.out] at CL
            cases t
            · have HP8 : Hid (PkI BB l m x (s ++ [y])) := HPK.out.more Ht.out hyx (fun h => by have := HSL.out; omega) (fun _ => hin)
              have hown : wr.ownsRow C 3 1 (.slice pa pn pc) pn ((s.map Int.ofNat).map (Value.int .i64)) := by
                have h := HOR.out
                unfold ORow at h
                rwa [HSL.out] at h
              clear HOR HPK
              go_wp2_with (first
                | (go_at_call 27; refine CL.mono ?_; rintro e w5 ⟨rfl, hw⟩; replace hw := hw.symm; subst hw; clear CL)
                | (at_builtin; refine wpList_append_own _ rfl _ _ 22 rfl C 3 i3 (.int .i64 0) 1 8 und22 hi3 hz0 hz1 hz2 rfl (by decide) _ _ _ rfl (hown.alloc _) ⟨wr.heap.size, 0, none⟩ 1 1 [.int .i64 (y : Int)] rfl rfl (fun j u hj => by (match j, hj with | 0, hj => simp at hj; subst hj; simp [Addr.add])) (fun u hu => by (simp at hu; subst hu; rfl)) (by (unfold maxLen; omega)) (by omega) (by (simp; omega)) ?_; intro v' w8 hown' hgrow _
                   have hb8 : Below C w3 w8 := (hB.alloc hsz _).grown hgrow (by simp; omega) (fun k hk => (hown.lt k hk).1)
                   obtain ⟨va', vc', rfl⟩ := own_form2 hown'
                   have HO8 : Hid (ORow w8 C (.slice va' (pn + 1) vc') (s ++ [y])) := (show ORow w8 C (.slice va' (pn + 1) vc') (s ++ [y]) by unfold ORow; rw [List.length_append, HSL.out, List.map_append, List.map_append]; exact hown')
                   have HL8 : Hid ((s ++ [y]).length = pn + 1) := (show (s ++ [y]).length = pn + 1 by rw [List.length_append, HSL.out]; rfl)
                   clear hown hgrow hown')
                | go_in)
              clear hB
              go_roundw
              case rel => exact ⟨s ++ [y], va', pn + 1, vc', by go_num, by omega, rfl, HL8, HO8, HP8, hb8⟩
              case measure => simp [intOf]; omega
            · clear HOR HPK HSL
              go_wp2_with (go_at_call 27; refine CL.mono ?_; rintro e w5 ⟨rfl, hw⟩; replace hw := hw.symm; subst hw; clear CL)
              go_ret
              exact ⟨rfl, HBC.out _ hB⟩
      · have hd2 : decide (2 < (pn : Int)) = false := by simp; omega
        have hd2' : decide (2 < pn) = false := by simpa using h2
        rcases hrk with ⟨hneg, rfl⟩ | ⟨hneg, hlow, hsum⟩
        · obtain ⟨lg, lo, rfl, hel0⟩ := HLE.out kk hkk
          have hel := hel0 _ hB
          clear hel0
          have hin := HIL.out kk hkk
          obtain ⟨y, Hy⟩ : ∃ y, Hid (L.getD kk 0 = y) := ⟨_, rfl⟩
          rw [Hy.out] at hel hin
          have CL := HLY.out y wr (Below.refl _ _)
          have hd1 : decide ((kk : Int) < 0) = false := by simp
          by_cases hyx : y = x
          · have e1 : ((y : Int) == (x : Int)) = true := by simp; omega
            subst hyx
            have e2 : ((y : Int) == (y : Int)) = true := by simp
            clear HOR HPK HSL
            go_wp2_with (go_at_call 27; refine CL.mono ?_; rintro e w5 ⟨rfl, hw⟩; replace hw := hw.symm; subst hw; clear CL)
            go_ret
            exact ⟨rfl, HBC.out _ hB⟩
          · have e1 : ((y : Int) == (x : Int)) = false := by
              have : ¬ (y : Int) = (x : Int) := by omega
              simpa using this
            have e3 : ¬ (y : Int) = (x : Int) := by omega
            obtain ⟨t, Ht⟩ : ∃ t, Hid (s.contains y = t) := ⟨_, rfl⟩
            rw [Ht.out] at CL
            cases t
            · have HP8 : Hid (PkI BB l m x (s ++ [y])) := HPK.out.more Ht.out hyx (fun _ => hin) (fun h => by have := HSL.out; omega)
              have hown : wr.ownsRow C 3 1 (.slice pa pn pc) pn ((s.map Int.ofNat).map (Value.int .i64)) := by
                have h := HOR.out
                unfold ORow at h
                rwa [HSL.out] at h
              clear HOR HPK
              go_wp2_with (first
                | (go_at_call 27; refine CL.mono ?_; rintro e w5 ⟨rfl, hw⟩; replace hw := hw.symm; subst hw; clear CL)
                | (at_builtin; refine wpList_append_own _ rfl _ _ 22 rfl C 3 i3 (.int .i64 0) 1 8 und22 hi3 hz0 hz1 hz2 rfl (by decide) _ _ _ rfl (hown.alloc _) ⟨wr.heap.size, 0, none⟩ 1 1 [.int .i64 (y : Int)] rfl rfl (fun j u hj => by (match j, hj with | 0, hj => simp at hj; subst hj; simp [Addr.add])) (fun u hu => by (simp at hu; subst hu; rfl)) (by (unfold maxLen; omega)) (by omega) (by (simp; omega)) ?_; intro v' w8 hown' hgrow _
                   have hb8 : Below C w3 w8 := (hB.alloc hsz _).grown hgrow (by simp; omega) (fun k hk => (hown.lt k hk).1)
                   obtain ⟨va', vc', rfl⟩ := own_form2 hown'
                   have HO8 : Hid (ORow w8 C (.slice va' (pn + 1) vc') (s ++ [y])) := (show ORow w8 C (.slice va' (pn + 1) vc') (s ++ [y]) by unfold ORow; rw [List.length_append, HSL.out, List.map_append, List.map_append]; exact hown')
                   have HL8 : Hid ((s ++ [y]).length = pn + 1) := (show (s ++ [y]).length = pn + 1 by rw [List.length_append, HSL.out]; rfl)
                   clear hown hgrow hown')
                | go_in)
              clear hB
              go_roundw
              case rel => exact ⟨s ++ [y], va', pn + 1, vc', by go_num, by omega, rfl, HL8, HO8, HP8, hb8⟩
              case measure => simp [intOf]; omega
            · clear HOR HPK HSL
              go_wp2_with (go_at_call 27; refine CL.mono ?_; rintro e w5 ⟨rfl, hw⟩; replace hw := hw.symm; subst hw; clear CL)
              go_ret
              exact ⟨rfl, HBC.out _ hB⟩
        · obtain ⟨lg, lo, rfl, hel0⟩ := HLE.out kk hkk
          have hel := hel0 _ hB
          clear hel0
          have hin := HIL.out kk hkk
          obtain ⟨y, Hy⟩ : ∃ y, Hid (L.getD kk 0 = y) := ⟨_, rfl⟩
          rw [Hy.out] at hel hin
          have CL := HLY.out y wr (Below.refl _ _)
          have hd1 : decide (r < 0) = true := decide_eq_true hneg
          by_cases hyx : y = x
          · have e1 : ((y : Int) == (x : Int)) = true := by simp; omega
            subst hyx
            have e2 : ((y : Int) == (y : Int)) = true := by simp
            clear HOR HPK HSL
            go_wp2_with (go_at_call 27; refine CL.mono ?_; rintro e w5 ⟨rfl, hw⟩; replace hw := hw.symm; subst hw; clear CL)
            go_ret
            exact ⟨rfl, HBC.out _ hB⟩
          · have e1 : ((y : Int) == (x : Int)) = false := by
              have : ¬ (y : Int) = (x : Int) := by omega
              simpa using this
            have e3 : ¬ (y : Int) = (x : Int) := by omega
            obtain ⟨t, Ht⟩ : ∃ t, Hid (s.contains y = t) := ⟨_, rfl⟩
            rw [Ht.out] at CL
            cases t
            · have HP8 : Hid (PkI BB l m x (s ++ [y])) := HPK.out.more Ht.out hyx (fun _ => hin) (fun h => by have := HSL.out; omega)
              have hown : wr.ownsRow C 3 1 (.slice pa pn pc) pn ((s.map Int.ofNat).map (Value.int .i64)) := by
                have h := HOR.out
                unfold ORow at h
                rwa [HSL.out] at h
              clear HOR HPK
              go_wp2_with (first
                | (go_at_call 27; refine CL.mono ?_; rintro e w5 ⟨rfl, hw⟩; replace hw := hw.symm; subst hw; clear CL)
                | (at_builtin; refine wpList_append_own _ rfl _ _ 22 rfl C 3 i3 (.int .i64 0) 1 8 und22 hi3 hz0 hz1 hz2 rfl (by decide) _ _ _ rfl (hown.alloc _) ⟨wr.heap.size, 0, none⟩ 1 1 [.int .i64 (y : Int)] rfl rfl (fun j u hj => by (match j, hj with | 0, hj => simp at hj; subst hj; simp [Addr.add])) (fun u hu => by (simp at hu; subst hu; rfl)) (by (unfold maxLen; omega)) (by omega) (by (simp; omega)) ?_; intro v' w8 hown' hgrow _
                   have hb8 : Below C w3 w8 := (hB.alloc hsz _).grown hgrow (by simp; omega) (fun k hk => (hown.lt k hk).1)
                   obtain ⟨va', vc', rfl⟩ := own_form2 hown'
                   have HO8 : Hid (ORow w8 C (.slice va' (pn + 1) vc') (s ++ [y])) := (show ORow w8 C (.slice va' (pn + 1) vc') (s ++ [y]) by unfold ORow; rw [List.length_append, HSL.out, List.map_append, List.map_append]; exact hown')
                   have HL8 : Hid ((s ++ [y]).length = pn + 1) := (show (s ++ [y]).length = pn + 1 by rw [List.length_append, HSL.out]; rfl)
                   clear hown hgrow hown')
                | go_in)
              clear hB
              go_roundw
              case rel => exact ⟨s ++ [y], va', pn + 1, vc', by go_num, by omega, rfl, HL8, HO8, HP8, hb8⟩
              case measure => simp [intOf]; omega
            · clear HOR HPK HSL
              go_wp2_with (go_at_call 27; refine CL.mono ?_; rintro e w5 ⟨rfl, hw⟩; replace hw := hw.symm; subst hw; clear CL)
              go_ret
              exact ⟨rfl, HBC.out _ hB⟩
    · have hdi : decide ((pn : Int) < 6) = false := by simp; omega
      obtain rfl : pn = 6 := by omega
      obtain ⟨p0, p1, p2, p3, p4, p5, rfl, hP⟩ := HPK.out.six HSL.out
      obtain ⟨a, b, c, hall⟩ := H4.out _ _ _ _ _ _ hP
      have HALL : Hid (∀ W, Below wr.heap.size wr W → _) := fun W hW => hall W (.slice (some ⟨bb, off, none⟩) un uc) (Below.next (HBC.out _ hB) hW) (HRW.out _ (hB.trans (hW.mono (HSC.out _ hB))))
      obtain ⟨pa', pc', e, hpc⟩ := HOR.out.sl
      obtain ⟨pg, po, e1, c0⟩ := hpc 0 (by simp)
      obtain rfl : pa = some ⟨pg, po, none⟩ := by simp only [Value.slice.injEq] at e; rw [e.1, e1]
      have HPC : Hid (∀ j, j < 6 → wr.cell? ⟨pg, po + j, none⟩ = some (.int .i64 ((([p0, p1, p2, p3, p4, p5] : List Nat).map Int.ofNat).getD j 0))) := fun j hj => by
        obtain ⟨pg', po', e2, c⟩ := hpc j (by simpa using hj)
        rw [e1] at e2
        simp only [Option.some.injEq, Addr.mk.injEq] at e2
        rw [e2.1, e2.2.1]; exact c
      have q0 : wr.cell? ⟨pg, po, none⟩ = some (.int .i64 (p0 : Int)) := HPC.out 0 (by decide)
      have q1 : wr.cell? ⟨pg, po + 1, none⟩ = some (.int .i64 (p1 : Int)) := HPC.out 1 (by decide)
      have q2 : wr.cell? ⟨pg, po + 2, none⟩ = some (.int .i64 (p2 : Int)) := HPC.out 2 (by decide)
      have q3 : wr.cell? ⟨pg, po + 3, none⟩ = some (.int .i64 (p3 : Int)) := HPC.out 3 (by decide)
      have q4 : wr.cell? ⟨pg, po + 4, none⟩ = some (.int .i64 (p4 : Int)) := HPC.out 4 (by decide)
      have q5 : wr.cell? ⟨pg, po + 5, none⟩ = some (.int .i64 (p5 : Int)) := HPC.out 5 (by decide)
      have hS : Hid (∀ W, Below wr.heap.size wr W → (fun W => W.cell? ⟨g, 0, none⟩ = some (.int .i64 (v : Int)) ∧ W.cell? ⟨g, 1, none⟩ = some (.slice (some ⟨bb, off, none⟩) un uc) ∧ W.cell? ⟨pg, po, none⟩ = some (.int .i64 (p0 : Int)) ∧ W.cell? ⟨pg, po + 1, none⟩ = some (.int .i64 (p1 : Int)) ∧ W.cell? ⟨pg, po + 2, none⟩ = some (.int .i64 (p2 : Int)) ∧ W.cell? ⟨pg, po + 3, none⟩ = some (.int .i64 (p3 : Int)) ∧ W.cell? ⟨pg, po + 4, none⟩ = some (.int .i64 (p4 : Int)) ∧ W.cell? ⟨pg, po + 5, none⟩ = some (.int .i64 (p5 : Int))) W) := fun W hW => ⟨(hW.cell (World.block_lt_of_cell? _ _ x0)).trans x0, (hW.cell (World.block_lt_of_cell? _ _ x1)).trans x1, (hW.cell (World.block_lt_of_cell? _ _ q0)).trans q0, (hW.cell (World.block_lt_of_cell? _ _ q1)).trans q1, (hW.cell (World.block_lt_of_cell? _ _ q2)).trans q2, (hW.cell (World.block_lt_of_cell? _ _ q3)).trans q3, (hW.cell (World.block_lt_of_cell? _ _ q4)).trans q4, (hW.cell (World.block_lt_of_cell? _ _ q5)).trans q5⟩
      have r0 : Below wr.heap.size wr wr := Below.refl _ _
      have HBW : Hid (Below w.heap.size w wr) := HBC.out _ hB
      clear x0 x1 q0 q1 q2 q3 q4 q5 HPC hpc c0 e e1 HOR HPK HSL hP hall hB
      go_wp2
      refine wp_region_noPanic ?_
      refine wp_region_held_drew (S := fun W => W.cell? ⟨g, 0, none⟩ = some (.int .i64 (v : Int)) ∧ W.cell? ⟨g, 1, none⟩ = some (.slice (some ⟨bb, off, none⟩) un uc) ∧ W.cell? ⟨pg, po, none⟩ = some (.int .i64 (p0 : Int)) ∧ W.cell? ⟨pg, po + 1, none⟩ = some (.int .i64 (p1 : Int)) ∧ W.cell? ⟨pg, po + 2, none⟩ = some (.int .i64 (p2 : Int)) ∧ W.cell? ⟨pg, po + 3, none⟩ = some (.int .i64 (p3 : Int)) ∧ W.cell? ⟨pg, po + 4, none⟩ = some (.int .i64 (p4 : Int)) ∧ W.cell? ⟨pg, po + 5, none⟩ = some (.int .i64 (p5 : Int))) (by kernel_rfl) (hS.out _ r0.drew) (fun hSx => ?_)
      refine wpAnyH_take (i := 0) (v := .agg #[.int .i64 (v : Int), .slice (some ⟨bb, off, none⟩) un uc]) rfl (by kernel_rfl) (by kernel_rfl) (by kernel_rfl) (fun _ _ _ h => h) (Or.inl ⟨by rfl, fun w' hSw => by (try dsimp only at hSw); obtain ⟨hs0, hs1, hs2, hs3, hs4, hs5, hs6, hs7⟩ := hSw; go_simp⟩) hSx ?_
      try simp only [Act.put, List.setIfInBounds_toArray]
      refine wpAnyH_take (i := 1) (v := .slice (some ⟨pg, po, none⟩) 6 pc) rfl (by kernel_rfl) (by kernel_rfl) (by kernel_rfl) (fun _ _ _ h => h) (Or.inl ⟨by rfl, fun w' hSw => by (try dsimp only at hSw); obtain ⟨hs0, hs1, hs2, hs3, hs4, hs5, hs6, hs7⟩ := hSw; go_simp⟩) hSx ?_
      try simp only [Act.put]
      refine wpAnyH_take (i := 2) (v := .pointer (some ⟨pg, po, none⟩)) rfl (by kernel_rfl) (by kernel_rfl) (by kernel_rfl) (fun _ _ _ h => h) (Or.inl ⟨by rfl, fun w' hSw => by (try dsimp only at hSw); obtain ⟨hs0, hs1, hs2, hs3, hs4, hs5, hs6, hs7⟩ := hSw; go_simp⟩) hSx ?_
      try simp only [Act.put]
      refine wpAnyH_take (i := 3) (v := .int .i64 (p0 : Int)) rfl (by kernel_rfl) (by kernel_rfl) (by kernel_rfl) (fun _ _ _ h => h) (Or.inl ⟨by rfl, fun w' hSw => by (try dsimp only at hSw); obtain ⟨hs0, hs1, hs2, hs3, hs4, hs5, hs6, hs7⟩ := hSw; go_simp⟩) hSx ?_
      try simp only [Act.put]
      refine wpAnyH_take (i := 4) (v := .slice (some ⟨pg, po, none⟩) 6 pc) rfl (by kernel_rfl) (by kernel_rfl) (by kernel_rfl) (fun _ _ _ h => h) (Or.inl ⟨by rfl, fun w' hSw => by (try dsimp only at hSw); obtain ⟨hs0, hs1, hs2, hs3, hs4, hs5, hs6, hs7⟩ := hSw; go_simp⟩) hSx ?_
      try simp only [Act.put]
      refine wpAnyH_take (i := 5) (v := .pointer (some ⟨pg, po + 4, none⟩)) rfl (by kernel_rfl) (by kernel_rfl) (by kernel_rfl) (fun _ _ _ h => h) (Or.inl ⟨by rfl, fun w' hSw => by (try dsimp only at hSw); obtain ⟨hs0, hs1, hs2, hs3, hs4, hs5, hs6, hs7⟩ := hSw; go_simp⟩) hSx ?_
      try simp only [Act.put]
      refine wpAnyH_take (i := 6) (v := .int .i64 (p4 : Int)) rfl (by kernel_rfl) (by kernel_rfl) (by kernel_rfl) (fun _ _ _ h => h) (Or.inl ⟨by rfl, fun w' hSw => by (try dsimp only at hSw); obtain ⟨hs0, hs1, hs2, hs3, hs4, hs5, hs6, hs7⟩ := hSw; go_simp⟩) hSx ?_
      try simp only [Act.put]
      refine wpAnyH_take (i := 7) (v := .slice (some ⟨pg, po, none⟩) 6 pc) rfl (by kernel_rfl) (by kernel_rfl) (by kernel_rfl) (fun _ _ _ h => h) (Or.inl ⟨by rfl, fun w' hSw => by (try dsimp only at hSw); obtain ⟨hs0, hs1, hs2, hs3, hs4, hs5, hs6, hs7⟩ := hSw; go_simp⟩) hSx ?_
      try simp only [Act.put]
      refine wpAnyH_take (i := 8) (v := .pointer (some ⟨pg, po + 1, none⟩)) rfl (by kernel_rfl) (by kernel_rfl) (by kernel_rfl) (fun _ _ _ h => h) (Or.inl ⟨by rfl, fun w' hSw => by (try dsimp only at hSw); obtain ⟨hs0, hs1, hs2, hs3, hs4, hs5, hs6, hs7⟩ := hSw; go_simp⟩) hSx ?_
      try simp only [Act.put]
      refine wpAnyH_take (i := 9) (v := .int .i64 (p1 : Int)) rfl (by kernel_rfl) (by kernel_rfl) (by kernel_rfl) (fun _ _ _ h => h) (Or.inl ⟨by rfl, fun w' hSw => by (try dsimp only at hSw); obtain ⟨hs0, hs1, hs2, hs3, hs4, hs5, hs6, hs7⟩ := hSw; go_simp⟩) hSx ?_
      try simp only [Act.put]
      refine wpAnyH_take (i := 10) (v := .slice (some ⟨pg, po, none⟩) 6 pc) rfl (by kernel_rfl) (by kernel_rfl) (by kernel_rfl) (fun _ _ _ h => h) (Or.inl ⟨by rfl, fun w' hSw => by (try dsimp only at hSw); obtain ⟨hs0, hs1, hs2, hs3, hs4, hs5, hs6, hs7⟩ := hSw; go_simp⟩) hSx ?_
      try simp only [Act.put]
      refine wpAnyH_take (i := 11) (v := .pointer (some ⟨pg, po + 3, none⟩)) rfl (by kernel_rfl) (by kernel_rfl) (by kernel_rfl) (fun _ _ _ h => h) (Or.inl ⟨by rfl, fun w' hSw => by (try dsimp only at hSw); obtain ⟨hs0, hs1, hs2, hs3, hs4, hs5, hs6, hs7⟩ := hSw; go_simp⟩) hSx ?_
      try simp only [Act.put]
      refine wpAnyH_take (i := 12) (v := .int .i64 (p3 : Int)) rfl (by kernel_rfl) (by kernel_rfl) (by kernel_rfl) (fun _ _ _ h => h) (Or.inl ⟨by rfl, fun w' hSw => by (try dsimp only at hSw); obtain ⟨hs0, hs1, hs2, hs3, hs4, hs5, hs6, hs7⟩ := hSw; go_simp⟩) hSx ?_
      try simp only [Act.put]
      refine wpAnyH_ready (rs := [13]) (by kernel_rfl) (by simp) ?_
      refine (AllReadyH.cons rfl (fun J hJ => ?_) AllReadyH.nil)
      go_simp
      refine ((HALL.out _ r0.drew).1).mono ?_
      rintro e v0 ⟨rfl, bv0⟩
      have r1 : Below wr.heap.size wr v0 := Below.next r0.drew bv0
      go_wp2_with fail
      refine hJ.out _ _ (hS.out _ r1) (fun hSx => ?_)
      clear hJ J
      try simp only [Act.put, List.setIfInBounds_toArray, List.set_cons_zero, List.set_cons_succ]
      refine wpAnyH_ready (rs := [14]) (by kernel_rfl) (by simp) ?_
      refine (AllReadyH.cons rfl (fun J hJ => ?_) AllReadyH.nil)
      go_simp
      refine hJ.out _ _ (hS.out _ r1) (fun hSx => ?_)
      clear hJ J
      try simp only [Act.put, List.setIfInBounds_toArray, List.set_cons_zero, List.set_cons_succ]
      refine wpAnyH_done (by kernel_rfl) ?_ _
      refine NoPanic.normal ?_
      clear hSx
      go_wp2
      refine wp_region_noPanic ?_
      refine wp_region_held_drew (S := fun W => W.cell? ⟨g, 0, none⟩ = some (.int .i64 (v : Int)) ∧ W.cell? ⟨g, 1, none⟩ = some (.slice (some ⟨bb, off, none⟩) un uc) ∧ W.cell? ⟨pg, po, none⟩ = some (.int .i64 (p0 : Int)) ∧ W.cell? ⟨pg, po + 1, none⟩ = some (.int .i64 (p1 : Int)) ∧ W.cell? ⟨pg, po + 2, none⟩ = some (.int .i64 (p2 : Int)) ∧ W.cell? ⟨pg, po + 3, none⟩ = some (.int .i64 (p3 : Int)) ∧ W.cell? ⟨pg, po + 4, none⟩ = some (.int .i64 (p4 : Int)) ∧ W.cell? ⟨pg, po + 5, none⟩ = some (.int .i64 (p5 : Int))) (by kernel_rfl) (hS.out _ r1.drew) (fun hSx => ?_)
      refine wpAnyH_take (i := 0) (v := .agg #[.int .i64 (v : Int), .slice (some ⟨bb, off, none⟩) un uc]) rfl (by kernel_rfl) (by kernel_rfl) (by kernel_rfl) (fun _ _ _ h => h) (Or.inl ⟨by rfl, fun w' hSw => by (try dsimp only at hSw); obtain ⟨hs0, hs1, hs2, hs3, hs4, hs5, hs6, hs7⟩ := hSw; go_simp⟩) hSx ?_
      try simp only [Act.put, List.setIfInBounds_toArray]
      refine wpAnyH_take (i := 1) (v := .slice (some ⟨pg, po, none⟩) 6 pc) rfl (by kernel_rfl) (by kernel_rfl) (by kernel_rfl) (fun _ _ _ h => h) (Or.inl ⟨by rfl, fun w' hSw => by (try dsimp only at hSw); obtain ⟨hs0, hs1, hs2, hs3, hs4, hs5, hs6, hs7⟩ := hSw; go_simp⟩) hSx ?_
      try simp only [Act.put]
      refine wpAnyH_take (i := 2) (v := .pointer (some ⟨pg, po, none⟩)) rfl (by kernel_rfl) (by kernel_rfl) (by kernel_rfl) (fun _ _ _ h => h) (Or.inl ⟨by rfl, fun w' hSw => by (try dsimp only at hSw); obtain ⟨hs0, hs1, hs2, hs3, hs4, hs5, hs6, hs7⟩ := hSw; go_simp⟩) hSx ?_
      try simp only [Act.put]
      refine wpAnyH_take (i := 3) (v := .int .i64 (p0 : Int)) rfl (by kernel_rfl) (by kernel_rfl) (by kernel_rfl) (fun _ _ _ h => h) (Or.inl ⟨by rfl, fun w' hSw => by (try dsimp only at hSw); obtain ⟨hs0, hs1, hs2, hs3, hs4, hs5, hs6, hs7⟩ := hSw; go_simp⟩) hSx ?_
      try simp only [Act.put]
      refine wpAnyH_take (i := 4) (v := .slice (some ⟨pg, po, none⟩) 6 pc) rfl (by kernel_rfl) (by kernel_rfl) (by kernel_rfl) (fun _ _ _ h => h) (Or.inl ⟨by rfl, fun w' hSw => by (try dsimp only at hSw); obtain ⟨hs0, hs1, hs2, hs3, hs4, hs5, hs6, hs7⟩ := hSw; go_simp⟩) hSx ?_
      try simp only [Act.put]
      refine wpAnyH_take (i := 5) (v := .pointer (some ⟨pg, po + 5, none⟩)) rfl (by kernel_rfl) (by kernel_rfl) (by kernel_rfl) (fun _ _ _ h => h) (Or.inl ⟨by rfl, fun w' hSw => by (try dsimp only at hSw); obtain ⟨hs0, hs1, hs2, hs3, hs4, hs5, hs6, hs7⟩ := hSw; go_simp⟩) hSx ?_
      try simp only [Act.put]
      refine wpAnyH_take (i := 6) (v := .int .i64 (p5 : Int)) rfl (by kernel_rfl) (by kernel_rfl) (by kernel_rfl) (fun _ _ _ h => h) (Or.inl ⟨by rfl, fun w' hSw => by (try dsimp only at hSw); obtain ⟨hs0, hs1, hs2, hs3, hs4, hs5, hs6, hs7⟩ := hSw; go_simp⟩) hSx ?_
      try simp only [Act.put]
      refine wpAnyH_take (i := 7) (v := .slice (some ⟨pg, po, none⟩) 6 pc) rfl (by kernel_rfl) (by kernel_rfl) (by kernel_rfl) (fun _ _ _ h => h) (Or.inl ⟨by rfl, fun w' hSw => by (try dsimp only at hSw); obtain ⟨hs0, hs1, hs2, hs3, hs4, hs5, hs6, hs7⟩ := hSw; go_simp⟩) hSx ?_
      try simp only [Act.put]
      refine wpAnyH_take (i := 8) (v := .pointer (some ⟨pg, po + 2, none⟩)) rfl (by kernel_rfl) (by kernel_rfl) (by kernel_rfl) (fun _ _ _ h => h) (Or.inl ⟨by rfl, fun w' hSw => by (try dsimp only at hSw); obtain ⟨hs0, hs1, hs2, hs3, hs4, hs5, hs6, hs7⟩ := hSw; go_simp⟩) hSx ?_
      try simp only [Act.put]
      refine wpAnyH_take (i := 9) (v := .int .i64 (p2 : Int)) rfl (by kernel_rfl) (by kernel_rfl) (by kernel_rfl) (fun _ _ _ h => h) (Or.inl ⟨by rfl, fun w' hSw => by (try dsimp only at hSw); obtain ⟨hs0, hs1, hs2, hs3, hs4, hs5, hs6, hs7⟩ := hSw; go_simp⟩) hSx ?_
      try simp only [Act.put]
      refine wpAnyH_take (i := 10) (v := .slice (some ⟨pg, po, none⟩) 6 pc) rfl (by kernel_rfl) (by kernel_rfl) (by kernel_rfl) (fun _ _ _ h => h) (Or.inl ⟨by rfl, fun w' hSw => by (try dsimp only at hSw); obtain ⟨hs0, hs1, hs2, hs3, hs4, hs5, hs6, hs7⟩ := hSw; go_simp⟩) hSx ?_
      try simp only [Act.put]
      refine wpAnyH_take (i := 11) (v := .pointer (some ⟨pg, po + 3, none⟩)) rfl (by kernel_rfl) (by kernel_rfl) (by kernel_rfl) (fun _ _ _ h => h) (Or.inl ⟨by rfl, fun w' hSw => by (try dsimp only at hSw); obtain ⟨hs0, hs1, hs2, hs3, hs4, hs5, hs6, hs7⟩ := hSw; go_simp⟩) hSx ?_
      try simp only [Act.put]
      refine wpAnyH_take (i := 12) (v := .int .i64 (p3 : Int)) rfl (by kernel_rfl) (by kernel_rfl) (by kernel_rfl) (fun _ _ _ h => h) (Or.inl ⟨by rfl, fun w' hSw => by (try dsimp only at hSw); obtain ⟨hs0, hs1, hs2, hs3, hs4, hs5, hs6, hs7⟩ := hSw; go_simp⟩) hSx ?_
      try simp only [Act.put]
      refine wpAnyH_ready (rs := [13]) (by kernel_rfl) (by simp) ?_
      refine (AllReadyH.cons rfl (fun J hJ => ?_) AllReadyH.nil)
      go_simp
      refine ((HALL.out _ r1.drew).2.1).mono ?_
      rintro e v1 ⟨rfl, bv1⟩
      have r2 : Below wr.heap.size wr v1 := Below.next r1.drew bv1
      go_wp2_with fail
      refine hJ.out _ _ (hS.out _ r2) (fun hSx => ?_)
      clear hJ J
      try simp only [Act.put, List.setIfInBounds_toArray, List.set_cons_zero, List.set_cons_succ]
      refine wpAnyH_ready (rs := [14]) (by kernel_rfl) (by simp) ?_
      refine (AllReadyH.cons rfl (fun J hJ => ?_) AllReadyH.nil)
      go_simp
      refine hJ.out _ _ (hS.out _ r2) (fun hSx => ?_)
      clear hJ J
      try simp only [Act.put, List.setIfInBounds_toArray, List.set_cons_zero, List.set_cons_succ]
      refine wpAnyH_done (by kernel_rfl) ?_ _
      refine NoPanic.normal ?_
      clear hSx
      go_wp2
      refine wp_region_noPanic ?_
      refine wp_region_held_drew (S := fun W => W.cell? ⟨g, 0, none⟩ = some (.int .i64 (v : Int)) ∧ W.cell? ⟨g, 1, none⟩ = some (.slice (some ⟨bb, off, none⟩) un uc) ∧ W.cell? ⟨pg, po, none⟩ = some (.int .i64 (p0 : Int)) ∧ W.cell? ⟨pg, po + 1, none⟩ = some (.int .i64 (p1 : Int)) ∧ W.cell? ⟨pg, po + 2, none⟩ = some (.int .i64 (p2 : Int)) ∧ W.cell? ⟨pg, po + 3, none⟩ = some (.int .i64 (p3 : Int)) ∧ W.cell? ⟨pg, po + 4, none⟩ = some (.int .i64 (p4 : Int)) ∧ W.cell? ⟨pg, po + 5, none⟩ = some (.int .i64 (p5 : Int))) (by kernel_rfl) (hS.out _ r2.drew) (fun hSx => ?_)
      refine wpAnyH_take (i := 0) (v := .agg #[.int .i64 (v : Int), .slice (some ⟨bb, off, none⟩) un uc]) rfl (by kernel_rfl) (by kernel_rfl) (by kernel_rfl) (fun _ _ _ h => h) (Or.inl ⟨by rfl, fun w' hSw => by (try dsimp only at hSw); obtain ⟨hs0, hs1, hs2, hs3, hs4, hs5, hs6, hs7⟩ := hSw; go_simp⟩) hSx ?_
      try simp only [Act.put, List.setIfInBounds_toArray]
      refine wpAnyH_take (i := 1) (v := .slice (some ⟨pg, po, none⟩) 6 pc) rfl (by kernel_rfl) (by kernel_rfl) (by kernel_rfl) (fun _ _ _ h => h) (Or.inl ⟨by rfl, fun w' hSw => by (try dsimp only at hSw); obtain ⟨hs0, hs1, hs2, hs3, hs4, hs5, hs6, hs7⟩ := hSw; go_simp⟩) hSx ?_
      try simp only [Act.put]
      refine wpAnyH_take (i := 2) (v := .pointer (some ⟨pg, po + 1, none⟩)) rfl (by kernel_rfl) (by kernel_rfl) (by kernel_rfl) (fun _ _ _ h => h) (Or.inl ⟨by rfl, fun w' hSw => by (try dsimp only at hSw); obtain ⟨hs0, hs1, hs2, hs3, hs4, hs5, hs6, hs7⟩ := hSw; go_simp⟩) hSx ?_
      try simp only [Act.put]
      refine wpAnyH_take (i := 3) (v := .int .i64 (p1 : Int)) rfl (by kernel_rfl) (by kernel_rfl) (by kernel_rfl) (fun _ _ _ h => h) (Or.inl ⟨by rfl, fun w' hSw => by (try dsimp only at hSw); obtain ⟨hs0, hs1, hs2, hs3, hs4, hs5, hs6, hs7⟩ := hSw; go_simp⟩) hSx ?_
      try simp only [Act.put]
      refine wpAnyH_take (i := 4) (v := .slice (some ⟨pg, po, none⟩) 6 pc) rfl (by kernel_rfl) (by kernel_rfl) (by kernel_rfl) (fun _ _ _ h => h) (Or.inl ⟨by rfl, fun w' hSw => by (try dsimp only at hSw); obtain ⟨hs0, hs1, hs2, hs3, hs4, hs5, hs6, hs7⟩ := hSw; go_simp⟩) hSx ?_
      try simp only [Act.put]
      refine wpAnyH_take (i := 5) (v := .pointer (some ⟨pg, po + 5, none⟩)) rfl (by kernel_rfl) (by kernel_rfl) (by kernel_rfl) (fun _ _ _ h => h) (Or.inl ⟨by rfl, fun w' hSw => by (try dsimp only at hSw); obtain ⟨hs0, hs1, hs2, hs3, hs4, hs5, hs6, hs7⟩ := hSw; go_simp⟩) hSx ?_
      try simp only [Act.put]
      refine wpAnyH_take (i := 6) (v := .int .i64 (p5 : Int)) rfl (by kernel_rfl) (by kernel_rfl) (by kernel_rfl) (fun _ _ _ h => h) (Or.inl ⟨by rfl, fun w' hSw => by (try dsimp only at hSw); obtain ⟨hs0, hs1, hs2, hs3, hs4, hs5, hs6, hs7⟩ := hSw; go_simp⟩) hSx ?_
      try simp only [Act.put]
      refine wpAnyH_take (i := 7) (v := .slice (some ⟨pg, po, none⟩) 6 pc) rfl (by kernel_rfl) (by kernel_rfl) (by kernel_rfl) (fun _ _ _ h => h) (Or.inl ⟨by rfl, fun w' hSw => by (try dsimp only at hSw); obtain ⟨hs0, hs1, hs2, hs3, hs4, hs5, hs6, hs7⟩ := hSw; go_simp⟩) hSx ?_
      try simp only [Act.put]
      refine wpAnyH_take (i := 8) (v := .pointer (some ⟨pg, po + 2, none⟩)) rfl (by kernel_rfl) (by kernel_rfl) (by kernel_rfl) (fun _ _ _ h => h) (Or.inl ⟨by rfl, fun w' hSw => by (try dsimp only at hSw); obtain ⟨hs0, hs1, hs2, hs3, hs4, hs5, hs6, hs7⟩ := hSw; go_simp⟩) hSx ?_
      try simp only [Act.put]
      refine wpAnyH_take (i := 9) (v := .int .i64 (p2 : Int)) rfl (by kernel_rfl) (by kernel_rfl) (by kernel_rfl) (fun _ _ _ h => h) (Or.inl ⟨by rfl, fun w' hSw => by (try dsimp only at hSw); obtain ⟨hs0, hs1, hs2, hs3, hs4, hs5, hs6, hs7⟩ := hSw; go_simp⟩) hSx ?_
      try simp only [Act.put]
      refine wpAnyH_take (i := 10) (v := .slice (some ⟨pg, po, none⟩) 6 pc) rfl (by kernel_rfl) (by kernel_rfl) (by kernel_rfl) (fun _ _ _ h => h) (Or.inl ⟨by rfl, fun w' hSw => by (try dsimp only at hSw); obtain ⟨hs0, hs1, hs2, hs3, hs4, hs5, hs6, hs7⟩ := hSw; go_simp⟩) hSx ?_
      try simp only [Act.put]
      refine wpAnyH_take (i := 11) (v := .pointer (some ⟨pg, po + 4, none⟩)) rfl (by kernel_rfl) (by kernel_rfl) (by kernel_rfl) (fun _ _ _ h => h) (Or.inl ⟨by rfl, fun w' hSw => by (try dsimp only at hSw); obtain ⟨hs0, hs1, hs2, hs3, hs4, hs5, hs6, hs7⟩ := hSw; go_simp⟩) hSx ?_
      try simp only [Act.put]
      refine wpAnyH_take (i := 12) (v := .int .i64 (p4 : Int)) rfl (by kernel_rfl) (by kernel_rfl) (by kernel_rfl) (fun _ _ _ h => h) (Or.inl ⟨by rfl, fun w' hSw => by (try dsimp only at hSw); obtain ⟨hs0, hs1, hs2, hs3, hs4, hs5, hs6, hs7⟩ := hSw; go_simp⟩) hSx ?_
      try simp only [Act.put]
      refine wpAnyH_ready (rs := [13]) (by kernel_rfl) (by simp) ?_
      refine (AllReadyH.cons rfl (fun J hJ => ?_) AllReadyH.nil)
      go_simp
      refine ((HALL.out _ r2.drew).2.2.1).mono ?_
      rintro e v2 ⟨rfl, bv2⟩
      have r3 : Below wr.heap.size wr v2 := Below.next r2.drew bv2
      go_wp2_with fail
      refine hJ.out _ _ (hS.out _ r3) (fun hSx => ?_)
      clear hJ J
      try simp only [Act.put, List.setIfInBounds_toArray, List.set_cons_zero, List.set_cons_succ]
      refine wpAnyH_ready (rs := [14]) (by kernel_rfl) (by simp) ?_
      refine (AllReadyH.cons rfl (fun J hJ => ?_) AllReadyH.nil)
      go_simp
      refine hJ.out _ _ (hS.out _ r3) (fun hSx => ?_)
      clear hJ J
      try simp only [Act.put, List.setIfInBounds_toArray, List.set_cons_zero, List.set_cons_succ]
      refine wpAnyH_done (by kernel_rfl) ?_ _
      refine NoPanic.normal ?_
      clear hSx
      obtain ⟨z0, z1, -⟩ := hS.out _ r3
      have CI := (HALL.out _ r3).2.2.2
      have ga : decide ((a : Int) < 0) = false := by simp
      have gb : decide ((b : Int) < 0) = false := by simp
      have gc : decide ((c : Int) < 0) = false := by simp
      clear hS HALL
      go_wp2_with (go_at_call 29; refine CI.mono ?_; rintro e v3 ⟨rfl, bv3⟩; clear CI)
      go_ret
      exact ⟨rfl, Below.next HBW.out (Below.next r3 bv3)⟩

end Go.Proofs.YtgpkhfpejopacaaDoor
