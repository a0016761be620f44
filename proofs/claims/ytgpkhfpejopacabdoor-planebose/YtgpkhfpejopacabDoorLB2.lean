/- The law PlaneBose, whole. -/
import Derived.Test.YtgpkhfpejopacabDoorK8
import Derived.Test.YtgpkhfpejopacabDoorM6
import Derived.Test.YtgpkhfpejopacabDoorDPart
import Derived.Test.YtgpkhfpejopacabDoorPlB
/- The four planes, as the program asks of them. -/
namespace Go.Proofs.YtgpkhfpejopacabDoor
open Go.RowKit

def plpB (v : Nat) (B : List (List Nat)) : Bool := ((List.range B.length).all fun i => (List.range i).all fun j => mt (B.getD i []) (B.getD j []) == 1) && (List.range v).all fun x => (List.range x).all fun y => nb B [y, x] == 1
theorem plp_of {v : Nat} {B : List (List Nat)} {s : List Nat} (h : plpB v B = true) (hv : 4 ≤ v) (hs : s.Pairwise (· < ·) ∧ ∀ x ∈ s, 0 ≤ x ∧ x < v) (h4 : s.length = 4) (hl : liB B s = false) : PlP v B := by
  unfold plpB at h
  rw [Bool.and_eq_true] at h
  refine ⟨fun i j b c hji hb hc => ?_, fun x y hy hx => beq_iff_eq.1 (ra (ra h.2 hx) hy), hv, s, rs_iff.2 hs, h4, hl⟩
  have := beq_iff_eq.1 (ra (ra h.1 (at_lt hb)) hji)
  rw [List.getD_eq_getElem?_getD, hb, List.getD_eq_getElem?_getD, hc] at this
  exact this
theorem plp_q {q : Nat} (h : Q4 q) : PlP (vq q) (bq q) := by
  rcases h with rfl | rfl | rfl | rfl
  · exact plp_of (s := [0, 1, 3, 6]) (by decide +kernel) (by decide) (by decide) rfl (by decide +kernel)
  · exact plp_of (s := [0, 1, 4, 8]) (by decide +kernel) (by decide) (by decide) rfl (by decide +kernel)
  · exact plp_of (s := [0, 1, 5, 10]) (by decide +kernel) (by decide) (by decide) rfl (by decide +kernel)
  · exact plp_of (s := [0, 1, 6, 12]) (by decide +kernel) (by decide) (by decide) rfl (by decide +kernel)
theorem good_q {q : Nat} (h : Q4 q) : GoodD (vq q) (bq q) := by
  have key : ∀ {v : Nat} {B : List (List Nat)}, (∀ b ∈ B, b.Pairwise (· < ·) ∧ ∀ x ∈ b, 0 ≤ x ∧ x < v) → ∀ b ∈ B, Rs v 0 b := fun h b hb => rs_iff.2 (h b hb)
  rcases h with rfl | rfl | rfl | rfl
  · exact ⟨by decide, by decide, by decide, key (by decide +kernel)⟩
  · exact ⟨by decide, by decide, by decide, key (by decide +kernel)⟩
  · exact ⟨by decide, by decide, by decide, key (by decide +kernel)⟩
  · exact ⟨by decide, by decide, by decide, key (by decide +kernel)⟩
theorem dF_q {q : Nat} (h : Q4 q) : dF ((vq q : Nat) : Int) (toZ (bq q)) = 0 := by
  rcases h with rfl | rfl | rfl | rfl <;> decide +kernel
theorem prp_q {q : Nat} (h : Q4 q) : PrP (vq q) (bq q) (q + 1) := by
  obtain ⟨k, hk⟩ := (plp_q h).prp (good_q h).bls
  have e : k = q + 1 := by
    rcases h with rfl | rfl | rfl | rfl
    · exact (hk.size [1, 3, 5] (by decide)).symm
    · exact (hk.size ((bq 3).getD 0 []) (by decide)).symm
    · exact (hk.size ((bq 4).getD 0 []) (by decide)).symm
    · exact (hk.size ((bq 5).getD 0 []) (by decide)).symm
  rw [← e]; exact hk
theorem len_q {q : Nat} (h : Q4 q) : (bq q).length = vq q := by
  rcases h with rfl | rfl | rfl | rfl <;> decide
theorem dual_q {q : Nat} (h : Q4 q) : dual (vq q) (bq q) = bq q := by
  rcases h with rfl | rfl | rfl | rfl <;> decide +kernel
theorem cq_li {q : Nat} (h : Q4 q) : liB (bq q) (cq q) = false ∧ (cq q).length = q + 1 ∧ bF ((vq q : Nat) : Int) ((cq q).map Int.ofNat) = 0 := by
  rcases h with rfl | rfl | rfl | rfl <;> exact ⟨by decide +kernel, by decide, by decide +kernel⟩
end Go.Proofs.YtgpkhfpejopacabDoor
namespace Go.Proofs.YtgpkhfpejopacabDoor.Fd
theorem fact1_yes : goodAt 2 1 0 := fun e h1 h2 b hb hz => by omega
theorem fact1_ord : ordZ 2 1 = 2 := by decide +kernel
theorem fact1_least {q d : Int} {l : List Int} {z : Int} (h : LeastIs 2 1 q d l z) : q = 2 ∧ d = 1 ∧ l = digL 0 2 1 ∧ z = 0 :=
  h.one (.inr ⟨2, 1, rfl, rfl, by rw [fact1_ord]; decide, .inl ⟨0, by decide, fact1_yes, fun m h => by omega, rfl, rfl, rfl, rfl⟩⟩)
theorem fact1_good : GoodF 2 1 (digL 0 2 1) := by
  have hin : inL (2 : Int) (digL 0 2 1) := fun j hj => by
    rw [digL_length] at hj
    rw [digL_at _ _ _ _ hj]; exact digF_in 0 2 (by omega) j
  have hirr : irrP (monL (digL 0 2 1)) 1 2 := by rw [monL_dig 0 2 1 (by decide) (by decide)]; exact fact1_yes
  have hF : FaultIs ((2 : Nat) : Int) ((1 : Nat) : Int) (digL 0 2 1) 0 := .inr (.inr (.inr (.inr ⟨by rw [show ((2 : Nat) : Int) = 2 from rfl, show ((1 : Nat) : Int) = 1 from rfl, fact1_ord]; decide, by rw [digL_length], hin, hirr, rfl⟩)))
  obtain ⟨P, K, e1, e2, hG⟩ := good_of hF
  obtain rfl : 2 = P := by omega
  obtain rfl : 1 = K := by omega
  exact hG
end Go.Proofs.YtgpkhfpejopacabDoor.Fd
namespace Go.Proofs.YtgpkhfpejopacabDoor
open Go.RowKit

theorem fbx (W : World) (a b c : Value) : ∀ W', Below (W.alloc (.cells #[a, b, c] 27)).heap.size (W.alloc (.cells #[a, b, c] 27)) W' → W'.cell? ⟨W.heap.size, 0, none⟩ = some a ∧ W'.cell? ⟨W.heap.size, 1, none⟩ = some b ∧ W'.cell? ⟨W.heap.size, 2, none⟩ = some c := fBoxM a b c W
set_option maxRecDepth 100000 in
set_option maxHeartbeats 8000000 in
theorem planeFact_any (w : World) (hT : Tab w) (hF : Fd.Tab w) :
    Calls Tryd.prog 4 #[] w fun e w' => e = .returned (.bool true) ∧ Below w.heap.size w w' := by
  have C1 : Calls Tryd.prog 10 #[.int .i64 2, .int .i64 1] w fun e w' => ∃ a n c, e = .returned (.tuple #[.agg #[.int .i64 2, .int .i64 1, .slice a n c], .int .i64 0]) ∧ Hid (Sl w' (.slice a n c) (Fd.digL 0 2 1)) ∧ Below w.heap.size w w' := by
    refine (Fd.least_any 2 1 w hF).mono ?_
    rintro e w' ⟨q, d, v, l, z, rfl, hS, hL, b⟩
    obtain ⟨rfl, rfl, rfl, rfl⟩ := Fd.fact1_least hL
    obtain ⟨a, c, rfl, _⟩ := id hS
    exact ⟨a, _, c, rfl, hS, b⟩
  have H2 : Hid (∀ (W : World) (v : Value), Below w.heap.size w W → Sl W v (Fd.digL 0 2 1) → Calls Tryd.prog 8 #[.agg #[.int .i64 2, .int .i64 1, v]] W fun e w' => ∃ xa xn xc, e = .returned (.tuple #[.agg #[.int .i64 7, .slice xa xn xc], .int .i64 0]) ∧ Hid (Rw w' (.slice xa xn xc) (toZ (bq 2))) ∧ Below W.heap.size W w') := fun W v hW hS => by
    refine (Make_good 2 1 _ v W (hF.below hW) hS (by rw [Fd.digL_length]; decide) Fd.fact1_good (by decide)).mono ?_
    rintro e w' ⟨xa, xn, xc, rfl, hO, b⟩
    exact ⟨xa, xn, xc, rfl, hO.rw, b⟩
  have H3 : Hid (∀ (W : World) (u : Value), Below w.heap.size w W → Rw W u (toZ (bq 2)) → Calls Tryd.prog 6 #[.agg #[.int .i64 7, u]] W fun e w' => e = .returned (.tuple #[.int .i64 2, .int .i64 0]) ∧ Below W.heap.size W w') := fun W u hW hu =>
    PCheck_yes 7 3 (bq 2) u W (hT.next hW) (good_q (.inl rfl)) (dF_q (.inl rfl)) hu (prp_q (.inl rfl))
  have HFB : Hid (∀ (W W' : World) (u : Value), Below (W.alloc (.cells #[.int .i64 2, .int .i64 1, u] 27)).heap.size (W.alloc (.cells #[.int .i64 2, .int .i64 1, u] 27)) W' → W'.cell? ⟨W.heap.size, 0, none⟩ = some (.int .i64 2) ∧ W'.cell? ⟨W.heap.size, 1, none⟩ = some (.int .i64 1) ∧ W'.cell? ⟨W.heap.size, 2, none⟩ = some u) := fun W W' u h => fbx W _ _ _ W' h
  have HDB : Hid (∀ (W W' : World) (u : Value), Below (W.alloc (.cells #[.int .i64 7, u] 24)).heap.size (W.alloc (.cells #[.int .i64 7, u] 24)) W' → W'.cell? ⟨W.heap.size, 0, none⟩ = some (.int .i64 7) ∧ W'.cell? ⟨W.heap.size, 1, none⟩ = some u) := fun W W' u h => des_box 7 _ W W' h
  go_enter Tryd.func4, Tryd.ntmps4
  go_wp2_with (first
    | (go_at_call 10; refine C1.mono ?_; rintro e w1 ⟨a, n, c, rfl, HS1, b1⟩; clear C1; have c1 := balloc w1 (.cells #[.int .i64 2, .int .i64 1, .slice a n c] 27); obtain ⟨x0, x1, x2⟩ := HFB.out w1 (w1.alloc (.cells #[.int .i64 2, .int .i64 1, .slice a n c] 27)) (.slice a n c) (Below.refl _ _); replace b1 := Below.next b1 c1; have C2 := H2.out (w1.alloc (.cells #[.int .i64 2, .int .i64 1, .slice a n c] 27)) _ b1 (HS1.out.below c1))
    | (go_at_call 8; refine C2.mono ?_; rintro e w2 ⟨xa, xn, xc, rfl, HR2, b2⟩; clear C2; have c2 := balloc w2 (.cells #[.int .i64 7, .slice xa xn xc] 24); obtain ⟨d0, d1⟩ := HDB.out w2 (w2.alloc (.cells #[.int .i64 7, .slice xa xn xc] 24)) (.slice xa xn xc) (Below.refl _ _); replace b2 := Below.next (Below.next b1 b2) c2; have C3 := H3.out (w2.alloc (.cells #[.int .i64 7, .slice xa xn xc] 24)) _ b2 (HR2.out.below c2))
    | (go_at_call 6; refine C3.mono ?_; rintro e w3 ⟨rfl, b3⟩; clear C3; obtain ⟨f0, f1⟩ := HDB.out w2 w3 (.slice xa xn xc) b3; replace b3 := Below.next b2 b3))
  go_ret
  exact ⟨rfl, b3⟩

end Go.Proofs.YtgpkhfpejopacabDoor

/- The law PlaneBose. -/
namespace Go.Proofs.YtgpkhfpejopacabDoor
open Go.RowKit

/-- Bose's bound, as the program asks it. -/
theorem bose_le {v k : Nat} {B : List (List Nat)} {s : List Nat} (hB : Bls v B) (hk : PrP v B k) (hs : Pts v s) (hl : liB B s = false) : s.length ≤ k + 1 ∧ ((k - 1) % 2 = 1 → s.length ≤ k) := by
  have H := (hk.plp hB).pln hB
  have A : ArcP v B.length (inc B) s := ⟨hs.nd, hs.lt, fun i hi => by
    obtain ⟨b, hb⟩ := at_of hi
    have h := liB_false hl (List.mem_of_getElem? hb)
    unfold mt at h
    rw [show (fun x => inc B x i) = fun x => b.contains x from funext fun x => inc_at hb x]
    exact h⟩
  obtain ⟨i, hi⟩ := H.line
  obtain ⟨b, hb⟩ := at_of hi
  have hz : szP v (inc B) i = k := (sz_len hB hb).trans (hk.size b (List.mem_of_getElem? hb))
  have h1 := H.bose A hi
  rw [hz] at h1
  refine ⟨h1, fun ho => Nat.le_of_not_lt fun h2 => ?_⟩
  have h3 := H.bose_odd A hi (by rw [hz]; omega)
  have := hk.big
  omega
theorem bxB (w : World) (d0 d1 f0 f1 f2 : Value) : ∀ W, Below ((w.alloc (.cells #[d0, d1] 24)).alloc (.cells #[f0, f1, f2] 27)).heap.size ((w.alloc (.cells #[d0, d1] 24)).alloc (.cells #[f0, f1, f2] 27)) W →
    W.cell? ⟨w.heap.size, 0, none⟩ = some d0 ∧ W.cell? ⟨w.heap.size, 1, none⟩ = some d1 ∧ W.cell? ⟨w.heap.size + 1, 0, none⟩ = some f0 ∧ W.cell? ⟨w.heap.size + 1, 1, none⟩ = some f1 ∧ W.cell? ⟨w.heap.size + 1, 2, none⟩ = some f2 := fun W hW => by
  have e1 : (w.alloc (.cells #[d0, d1] 24)).heap.size = w.heap.size + 1 := by simp
  have e2 : ((w.alloc (.cells #[d0, d1] 24)).alloc (.cells #[f0, f1, f2] 27)).heap.size = w.heap.size + 1 + 1 := by simp
  have b1 := balloc (w.alloc (.cells #[d0, d1] 24)) (.cells #[f0, f1, f2] 27)
  have k1 : ((w.alloc (.cells #[d0, d1] 24)).alloc (.cells #[f0, f1, f2] 27)).heap[w.heap.size + 1]? = some (.cells #[f0, f1, f2] 27 (0, 0)) := by
    rw [← e1]
    exact heap_alloc_new (w.alloc (.cells #[d0, d1] 24)) _
  have h0 := (hW.block w.heap.size (by omega)).trans ((b1.block w.heap.size (by omega)).trans (heap_alloc_new w _))
  have h1 := (hW.block (w.heap.size + 1) (by omega)).trans k1
  exact ⟨by rw [cell_of_row W _ 0 _ _ _ h0]; rfl, by rw [cell_of_row W _ 1 _ _ _ h0]; rfl, by rw [cell_of_row W _ 0 _ _ _ h1]; rfl, by rw [cell_of_row W _ 1 _ _ _ h1]; rfl, by rw [cell_of_row W _ 2 _ _ _ h1]; rfl⟩
set_option maxRecDepth 100000 in
set_option maxHeartbeats 8000000 in
theorem LB_ag (p fp fk : Int) (ln : Nat) (u lv fv : Value) (w : World) (hu : ∃ a n c, u = .slice a n c) (hl : ∃ a c, lv = .slice a ln c) (hv : ∃ a n c, fv = .slice a n c)
    (h0 : ∀ W, Below w.heap.size w W → Calls Tryd.prog 4 #[] W fun e w' => e = .returned (.bool true) ∧ Below W.heap.size W w')
    (nn : Nat) (hnn : nn ≤ 99) (hle : ln ≤ nn + 2) (hodd : nn % 2 = 1 → ln ≤ nn + 1)
    (h1 : ∀ W, Below w.heap.size w W → Calls Tryd.prog 5 #[.agg #[.int .i64 p, u], lv] W fun e w' => e = .returned (.tuple #[.bool true, .int .i64 0]) ∧ Below W.heap.size W w')
    (h2 : ∀ W, Below w.heap.size w W → Calls Tryd.prog 6 #[.agg #[.int .i64 p, u]] W fun e w' => e = .returned (.tuple #[.int .i64 (nn : Int), .int .i64 0]) ∧ Below W.heap.size W w')
    (vv qq : Nat) (hqq : qq ≤ 5) (BB : List (List Nat)) (CC : List Nat) (hCC : CC.length = qq + 1)
    (h3 : ∀ W, Below w.heap.size w W → Calls Tryd.prog 7 #[.agg #[.int .i64 fp, .int .i64 fk, fv]] W fun e w' => ∃ xa xc, e = .returned (.tuple #[.slice xa (qq + 1) xc, .int .i64 0]) ∧ Hid (Sl w' (.slice xa (qq + 1) xc) (CC.map Int.ofNat)) ∧ Below W.heap.size W w')
    (h4 : ∀ W, Below w.heap.size w W → Calls Tryd.prog 8 #[.agg #[.int .i64 fp, .int .i64 fk, fv]] W fun e w' => ∃ xa xn xc, e = .returned (.tuple #[.agg #[.int .i64 (vv : Int), .slice xa xn xc], .int .i64 0]) ∧ Hid (Rw w' (.slice xa xn xc) (toZ BB)) ∧ Below W.heap.size W w')
    (h5 : ∀ (W : World) (b c : Value), Below w.heap.size w W → Rw W b (toZ BB) → Sl W c (CC.map Int.ofNat) → Calls Tryd.prog 5 #[.agg #[.int .i64 (vv : Int), b], c] W fun e w' => e = .returned (.tuple #[.bool true, .int .i64 0]) ∧ Below W.heap.size W w')
    (h6 : ∀ W : World, Calls Tryd.prog 9 #[.agg #[.int .i64 fp, .int .i64 fk, fv]] W fun e w' => e = .returned (.int .i64 (qq : Int)) ∧ Below W.heap.size W w') :
    Calls Tryd.prog 3 #[.agg #[.int .i64 p, u], lv, .agg #[.int .i64 fp, .int .i64 fk, fv]] w fun e w' => e = .returned (.bool true) ∧ Below w.heap.size w w' := by
  obtain ⟨ua, un, uc, rfl⟩ := hu
  obtain ⟨la, lc, rfl⟩ := hl
  obtain ⟨fa, fn, fc, rfl⟩ := hv
  have HX : Hid (∀ W, Below ((w.alloc (.cells #[.int .i64 p, .slice ua un uc] 24)).alloc (.cells #[.int .i64 fp, .int .i64 fk, .slice fa fn fc] 27)).heap.size ((w.alloc (.cells #[.int .i64 p, .slice ua un uc] 24)).alloc (.cells #[.int .i64 fp, .int .i64 fk, .slice fa fn fc] 27)) W → _) := bxB w (.int .i64 p) (.slice ua un uc) (.int .i64 fp) (.int .i64 fk) (.slice fa fn fc)
  have b0 := Below.next (balloc w (.cells #[.int .i64 p, .slice ua un uc] 24)) (balloc _ (.cells #[.int .i64 fp, .int .i64 fk, .slice fa fn fc] 27))
  have C0 := h0 _ b0
  have H1 : Hid (∀ W, Below w.heap.size w W → _) := h1
  have H2 : Hid (∀ W, Below w.heap.size w W → _) := h2
  have H3 : Hid (∀ W, Below w.heap.size w W → _) := h3
  have H4 : Hid (∀ W, Below w.heap.size w W → _) := h4
  have H5 : Hid (∀ (W : World) (b c : Value), Below w.heap.size w W → Rw W b (toZ BB) → Sl W c (CC.map Int.ofNat) → Calls Tryd.prog 5 #[.agg #[.int .i64 (vv : Int), b], c] W fun e w' => e = .returned (.tuple #[.bool true, .int .i64 0]) ∧ Below W.heap.size W w') := h5
  have H6 : Hid (∀ W : World, _) := h6
  have HDB : Hid (∀ (W W' : World) (u : Value), Below (W.alloc (.cells #[.int .i64 (vv : Int), u] 24)).heap.size (W.alloc (.cells #[.int .i64 (vv : Int), u] 24)) W' → W'.cell? ⟨W.heap.size, 0, none⟩ = some (.int .i64 (vv : Int)) ∧ W'.cell? ⟨W.heap.size, 1, none⟩ = some u) := fun W W' u h => des_box vv _ W W' h
  have g1 : ((qq : Int) + 1 == (qq : Int) + 1) = true := by simp
  clear h0 h1 h3 h2 h4 h5 h6
  have k1 : decide ((nn : Int) + 2 < (ln : Int)) = false := by simp; omega
  have k1' : ¬ (nn : Int) + 2 < (ln : Int) := by omega
  by_cases ho : nn % 2 = 1
  · have k2 : (nn : Int).tmod 2 = 1 := by rw [Int.tmod_eq_emod_of_nonneg (by omega)]; omega
    have k3 : decide ((nn : Int) + 1 < (ln : Int)) = false := by have := hodd ho; simp; omega
    have k3' : ¬ (nn : Int) + 1 < (ln : Int) := by have := hodd ho; omega
    clear hodd ho
    go_enter Tryd.func3, Tryd.ntmps3
    go_wp2_with (first
      | (go_at_call 4; refine C0.mono ?_; rintro e w0 ⟨rfl, b1⟩; clear C0; obtain ⟨x0, x1, _, _, _⟩ := HX.out _ b1; have a1 := b1; replace b1 := Below.next b0 b1; have C1 := H1.out _ b1)
      | (go_at_call 5; refine C1.mono ?_; rintro e w1 ⟨rfl, b2⟩; clear C1; have a2 := Below.next a1 b2; obtain ⟨y0, y1, _, _, _⟩ := HX.out _ a2; replace b2 := Below.next b1 b2; have C2 := H2.out _ b2)
      | (go_at_call 6; refine C2.mono ?_; rintro e w2 ⟨rfl, b3⟩; clear C2; have a3 := Below.next a2 b3; obtain ⟨_, _, z2, z3, z4⟩ := HX.out _ a3; replace b3 := Below.next b2 b3; have C3 := H3.out _ b3)
      | (go_at_call 7; refine C3.mono ?_; rintro e w3 ⟨ca, cc, rfl, HS3, b4⟩; clear C3; have a4 := Below.next a3 b4; obtain ⟨_, _, s2, s3, s4⟩ := HX.out _ a4; replace b4 := Below.next b3 b4; have C4 := H4.out _ b4)
      | (go_at_call 8; refine C4.mono ?_; rintro e w4 ⟨xa, xn, xc, rfl, HR4, b5⟩; clear C4; have c4 := balloc w4 (.cells #[.int .i64 (vv : Int), .slice xa xn xc] 24); obtain ⟨d0, d1⟩ := HDB.out w4 (w4.alloc (.cells #[.int .i64 (vv : Int), .slice xa xn xc] 24)) (.slice xa xn xc) (Below.refl _ _); have b45 := Below.next b5 c4; have a5 := Below.next a4 b45; replace b5 := Below.next b4 b45; have C5 := H5.out (w4.alloc (.cells #[.int .i64 (vv : Int), .slice xa xn xc] 24)) _ _ b5 (HR4.out.below c4) (HS3.out.below b45))
      | (go_at_call 5; refine C5.mono ?_; rintro e w5 ⟨rfl, b6⟩; clear C5; have a6 := Below.next a5 b6; obtain ⟨_, _, t2, t3, t4⟩ := HX.out _ a6; replace b6 := Below.next b5 b6; have C6 := H6.out w5)
      | (go_at_call 9; refine C6.mono ?_; rintro e w6 ⟨rfl, b7⟩; clear C6; replace b7 := Below.next b6 b7))
    go_ret
    exact ⟨rfl, b7⟩
  · have k2 : (nn : Int).tmod 2 = 0 := by rw [Int.tmod_eq_emod_of_nonneg (by omega)]; omega
    clear hodd ho
    go_enter Tryd.func3, Tryd.ntmps3
    go_wp2_with (first
      | (go_at_call 4; refine C0.mono ?_; rintro e w0 ⟨rfl, b1⟩; clear C0; obtain ⟨x0, x1, _, _, _⟩ := HX.out _ b1; have a1 := b1; replace b1 := Below.next b0 b1; have C1 := H1.out _ b1)
      | (go_at_call 5; refine C1.mono ?_; rintro e w1 ⟨rfl, b2⟩; clear C1; have a2 := Below.next a1 b2; obtain ⟨y0, y1, _, _, _⟩ := HX.out _ a2; replace b2 := Below.next b1 b2; have C2 := H2.out _ b2)
      | (go_at_call 6; refine C2.mono ?_; rintro e w2 ⟨rfl, b3⟩; clear C2; have a3 := Below.next a2 b3; obtain ⟨_, _, z2, z3, z4⟩ := HX.out _ a3; replace b3 := Below.next b2 b3; have C3 := H3.out _ b3)
      | (go_at_call 7; refine C3.mono ?_; rintro e w3 ⟨ca, cc, rfl, HS3, b4⟩; clear C3; have a4 := Below.next a3 b4; obtain ⟨_, _, s2, s3, s4⟩ := HX.out _ a4; replace b4 := Below.next b3 b4; have C4 := H4.out _ b4)
      | (go_at_call 8; refine C4.mono ?_; rintro e w4 ⟨xa, xn, xc, rfl, HR4, b5⟩; clear C4; have c4 := balloc w4 (.cells #[.int .i64 (vv : Int), .slice xa xn xc] 24); obtain ⟨d0, d1⟩ := HDB.out w4 (w4.alloc (.cells #[.int .i64 (vv : Int), .slice xa xn xc] 24)) (.slice xa xn xc) (Below.refl _ _); have b45 := Below.next b5 c4; have a5 := Below.next a4 b45; replace b5 := Below.next b4 b45; have C5 := H5.out (w4.alloc (.cells #[.int .i64 (vv : Int), .slice xa xn xc] 24)) _ _ b5 (HR4.out.below c4) (HS3.out.below b45))
      | (go_at_call 5; refine C5.mono ?_; rintro e w5 ⟨rfl, b6⟩; clear C5; have a6 := Below.next a5 b6; obtain ⟨_, _, t2, t3, t4⟩ := HX.out _ a6; replace b6 := Below.next b5 b6; have C6 := H6.out w5)
      | (go_at_call 9; refine C6.mono ?_; rintro e w6 ⟨rfl, b7⟩; clear C6; replace b7 := Below.next b6 b7))
    go_ret
    exact ⟨rfl, b7⟩
set_option maxRecDepth 100000 in
set_option maxHeartbeats 8000000 in
theorem LB_ab (p fp fk : Int) (ln : Nat) (u lv fv : Value) (w : World) (hu : ∃ a n c, u = .slice a n c) (hl : ∃ a c, lv = .slice a ln c) (hv : ∃ a n c, fv = .slice a n c)
    (h0 : ∀ W, Below w.heap.size w W → Calls Tryd.prog 4 #[] W fun e w' => e = .returned (.bool true) ∧ Below W.heap.size W w')
    (nn : Nat) (hnn : nn ≤ 99) (hle : ln ≤ nn + 2) (hodd : nn % 2 = 1 → ln ≤ nn + 1)
    (h1 : ∀ W, Below w.heap.size w W → Calls Tryd.prog 5 #[.agg #[.int .i64 p, u], lv] W fun e w' => e = .returned (.tuple #[.bool true, .int .i64 0]) ∧ Below W.heap.size W w')
    (h2 : ∀ W, Below w.heap.size w W → Calls Tryd.prog 6 #[.agg #[.int .i64 p, u]] W fun e w' => e = .returned (.tuple #[.int .i64 (nn : Int), .int .i64 0]) ∧ Below W.heap.size W w')
    (r : Int) (hr : r ≠ 0)
    (h3 : ∀ W, Below w.heap.size w W → Calls Tryd.prog 7 #[.agg #[.int .i64 fp, .int .i64 fk, fv]] W fun e w' => e = .returned (.tuple #[.slice none 0 0, .int .i64 r]) ∧ Below W.heap.size W w') :
    Calls Tryd.prog 3 #[.agg #[.int .i64 p, u], lv, .agg #[.int .i64 fp, .int .i64 fk, fv]] w fun e w' => e = .returned (.bool true) ∧ Below w.heap.size w w' := by
  obtain ⟨ua, un, uc, rfl⟩ := hu
  obtain ⟨la, lc, rfl⟩ := hl
  obtain ⟨fa, fn, fc, rfl⟩ := hv
  have HX : Hid (∀ W, Below ((w.alloc (.cells #[.int .i64 p, .slice ua un uc] 24)).alloc (.cells #[.int .i64 fp, .int .i64 fk, .slice fa fn fc] 27)).heap.size ((w.alloc (.cells #[.int .i64 p, .slice ua un uc] 24)).alloc (.cells #[.int .i64 fp, .int .i64 fk, .slice fa fn fc] 27)) W → _) := bxB w (.int .i64 p) (.slice ua un uc) (.int .i64 fp) (.int .i64 fk) (.slice fa fn fc)
  have b0 := Below.next (balloc w (.cells #[.int .i64 p, .slice ua un uc] 24)) (balloc _ (.cells #[.int .i64 fp, .int .i64 fk, .slice fa fn fc] 27))
  have C0 := h0 _ b0
  have H1 : Hid (∀ W, Below w.heap.size w W → _) := h1
  have H2 : Hid (∀ W, Below w.heap.size w W → _) := h2
  have H3 : Hid (∀ W, Below w.heap.size w W → _) := h3
  clear h0 h1 h3 h2
  have hr1 : (r != 0) = true := by simpa using hr
  have k1 : decide ((nn : Int) + 2 < (ln : Int)) = false := by simp; omega
  have k1' : ¬ (nn : Int) + 2 < (ln : Int) := by omega
  by_cases ho : nn % 2 = 1
  · have k2 : (nn : Int).tmod 2 = 1 := by rw [Int.tmod_eq_emod_of_nonneg (by omega)]; omega
    have k3 : decide ((nn : Int) + 1 < (ln : Int)) = false := by have := hodd ho; simp; omega
    have k3' : ¬ (nn : Int) + 1 < (ln : Int) := by have := hodd ho; omega
    clear hodd ho
    go_enter Tryd.func3, Tryd.ntmps3
    go_wp2_with (first
      | (go_at_call 4; refine C0.mono ?_; rintro e w0 ⟨rfl, b1⟩; clear C0; obtain ⟨x0, x1, _, _, _⟩ := HX.out _ b1; have a1 := b1; replace b1 := Below.next b0 b1; have C1 := H1.out _ b1)
      | (go_at_call 5; refine C1.mono ?_; rintro e w1 ⟨rfl, b2⟩; clear C1; have a2 := Below.next a1 b2; obtain ⟨y0, y1, _, _, _⟩ := HX.out _ a2; replace b2 := Below.next b1 b2; have C2 := H2.out _ b2)
      | (go_at_call 6; refine C2.mono ?_; rintro e w2 ⟨rfl, b3⟩; clear C2; have a3 := Below.next a2 b3; obtain ⟨_, _, z2, z3, z4⟩ := HX.out _ a3; replace b3 := Below.next b2 b3; have C3 := H3.out _ b3)
      | (go_at_call 7; refine C3.mono ?_; rintro e w3 ⟨rfl, b4⟩; clear C3; replace b4 := Below.next b3 b4))
    go_ret
    exact ⟨rfl, b4⟩
  · have k2 : (nn : Int).tmod 2 = 0 := by rw [Int.tmod_eq_emod_of_nonneg (by omega)]; omega
    clear hodd ho
    go_enter Tryd.func3, Tryd.ntmps3
    go_wp2_with (first
      | (go_at_call 4; refine C0.mono ?_; rintro e w0 ⟨rfl, b1⟩; clear C0; obtain ⟨x0, x1, _, _, _⟩ := HX.out _ b1; have a1 := b1; replace b1 := Below.next b0 b1; have C1 := H1.out _ b1)
      | (go_at_call 5; refine C1.mono ?_; rintro e w1 ⟨rfl, b2⟩; clear C1; have a2 := Below.next a1 b2; obtain ⟨y0, y1, _, _, _⟩ := HX.out _ a2; replace b2 := Below.next b1 b2; have C2 := H2.out _ b2)
      | (go_at_call 6; refine C2.mono ?_; rintro e w2 ⟨rfl, b3⟩; clear C2; have a3 := Below.next a2 b3; obtain ⟨_, _, z2, z3, z4⟩ := HX.out _ a3; replace b3 := Below.next b2 b3; have C3 := H3.out _ b3)
      | (go_at_call 7; refine C3.mono ?_; rintro e w3 ⟨rfl, b4⟩; clear C3; replace b4 := Below.next b3 b4))
    go_ret
    exact ⟨rfl, b4⟩
set_option maxRecDepth 100000 in
set_option maxHeartbeats 8000000 in
theorem LB_ng (p fp fk : Int) (ln : Nat) (u lv fv : Value) (w : World) (hu : ∃ a n c, u = .slice a n c) (hl : ∃ a c, lv = .slice a ln c) (hv : ∃ a n c, fv = .slice a n c)
    (h0 : ∀ W, Below w.heap.size w W → Calls Tryd.prog 4 #[] W fun e w' => e = .returned (.bool true) ∧ Below W.heap.size W w')
    (q : Bool) (z : Nat) (hz : z = 0 → q = false)
    (h1 : ∀ W, Below w.heap.size w W → Calls Tryd.prog 5 #[.agg #[.int .i64 p, u], lv] W fun e w' => e = .returned (.tuple #[.bool q, .int .i64 (z : Int)]) ∧ Below W.heap.size W w')
    (vv qq : Nat) (hqq : qq ≤ 5) (BB : List (List Nat)) (CC : List Nat) (hCC : CC.length = qq + 1)
    (h3 : ∀ W, Below w.heap.size w W → Calls Tryd.prog 7 #[.agg #[.int .i64 fp, .int .i64 fk, fv]] W fun e w' => ∃ xa xc, e = .returned (.tuple #[.slice xa (qq + 1) xc, .int .i64 0]) ∧ Hid (Sl w' (.slice xa (qq + 1) xc) (CC.map Int.ofNat)) ∧ Below W.heap.size W w')
    (h4 : ∀ W, Below w.heap.size w W → Calls Tryd.prog 8 #[.agg #[.int .i64 fp, .int .i64 fk, fv]] W fun e w' => ∃ xa xn xc, e = .returned (.tuple #[.agg #[.int .i64 (vv : Int), .slice xa xn xc], .int .i64 0]) ∧ Hid (Rw w' (.slice xa xn xc) (toZ BB)) ∧ Below W.heap.size W w')
    (h5 : ∀ (W : World) (b c : Value), Below w.heap.size w W → Rw W b (toZ BB) → Sl W c (CC.map Int.ofNat) → Calls Tryd.prog 5 #[.agg #[.int .i64 (vv : Int), b], c] W fun e w' => e = .returned (.tuple #[.bool true, .int .i64 0]) ∧ Below W.heap.size W w')
    (h6 : ∀ W : World, Calls Tryd.prog 9 #[.agg #[.int .i64 fp, .int .i64 fk, fv]] W fun e w' => e = .returned (.int .i64 (qq : Int)) ∧ Below W.heap.size W w') :
    Calls Tryd.prog 3 #[.agg #[.int .i64 p, u], lv, .agg #[.int .i64 fp, .int .i64 fk, fv]] w fun e w' => e = .returned (.bool true) ∧ Below w.heap.size w w' := by
  obtain ⟨ua, un, uc, rfl⟩ := hu
  obtain ⟨la, lc, rfl⟩ := hl
  obtain ⟨fa, fn, fc, rfl⟩ := hv
  have HX : Hid (∀ W, Below ((w.alloc (.cells #[.int .i64 p, .slice ua un uc] 24)).alloc (.cells #[.int .i64 fp, .int .i64 fk, .slice fa fn fc] 27)).heap.size ((w.alloc (.cells #[.int .i64 p, .slice ua un uc] 24)).alloc (.cells #[.int .i64 fp, .int .i64 fk, .slice fa fn fc] 27)) W → _) := bxB w (.int .i64 p) (.slice ua un uc) (.int .i64 fp) (.int .i64 fk) (.slice fa fn fc)
  have b0 := Below.next (balloc w (.cells #[.int .i64 p, .slice ua un uc] 24)) (balloc _ (.cells #[.int .i64 fp, .int .i64 fk, .slice fa fn fc] 27))
  have C0 := h0 _ b0
  have H1 : Hid (∀ W, Below w.heap.size w W → _) := h1
  have H3 : Hid (∀ W, Below w.heap.size w W → _) := h3
  have H4 : Hid (∀ W, Below w.heap.size w W → _) := h4
  have H5 : Hid (∀ (W : World) (b c : Value), Below w.heap.size w W → Rw W b (toZ BB) → Sl W c (CC.map Int.ofNat) → Calls Tryd.prog 5 #[.agg #[.int .i64 (vv : Int), b], c] W fun e w' => e = .returned (.tuple #[.bool true, .int .i64 0]) ∧ Below W.heap.size W w') := h5
  have H6 : Hid (∀ W : World, _) := h6
  have HDB : Hid (∀ (W W' : World) (u : Value), Below (W.alloc (.cells #[.int .i64 (vv : Int), u] 24)).heap.size (W.alloc (.cells #[.int .i64 (vv : Int), u] 24)) W' → W'.cell? ⟨W.heap.size, 0, none⟩ = some (.int .i64 (vv : Int)) ∧ W'.cell? ⟨W.heap.size, 1, none⟩ = some u) := fun W W' u h => des_box vv _ W W' h
  have g1 : ((qq : Int) + 1 == (qq : Int) + 1) = true := by simp
  clear h0 h1 h3 h4 h5 h6
  by_cases hz0 : z = 0
  · obtain rfl := hz hz0
    subst hz0
    clear hz
    go_enter Tryd.func3, Tryd.ntmps3
    go_wp2_with (first
      | (go_at_call 4; refine C0.mono ?_; rintro e w0 ⟨rfl, b1⟩; clear C0; obtain ⟨x0, x1, _, _, _⟩ := HX.out _ b1; have a1 := b1; replace b1 := Below.next b0 b1; have C1 := H1.out _ b1)
      | (go_at_call 5; refine C1.mono ?_; rintro e w2 ⟨rfl, b3⟩; clear C1; have a3 := Below.next a1 b3; obtain ⟨_, _, z2, z3, z4⟩ := HX.out _ a3; replace b3 := Below.next b1 b3; have C3 := H3.out _ b3)
      | (go_at_call 7; refine C3.mono ?_; rintro e w3 ⟨ca, cc, rfl, HS3, b4⟩; clear C3; have a4 := Below.next a3 b4; obtain ⟨_, _, s2, s3, s4⟩ := HX.out _ a4; replace b4 := Below.next b3 b4; have C4 := H4.out _ b4)
      | (go_at_call 8; refine C4.mono ?_; rintro e w4 ⟨xa, xn, xc, rfl, HR4, b5⟩; clear C4; have c4 := balloc w4 (.cells #[.int .i64 (vv : Int), .slice xa xn xc] 24); obtain ⟨d0, d1⟩ := HDB.out w4 (w4.alloc (.cells #[.int .i64 (vv : Int), .slice xa xn xc] 24)) (.slice xa xn xc) (Below.refl _ _); have b45 := Below.next b5 c4; have a5 := Below.next a4 b45; replace b5 := Below.next b4 b45; have C5 := H5.out (w4.alloc (.cells #[.int .i64 (vv : Int), .slice xa xn xc] 24)) _ _ b5 (HR4.out.below c4) (HS3.out.below b45))
      | (go_at_call 5; refine C5.mono ?_; rintro e w5 ⟨rfl, b6⟩; clear C5; have a6 := Below.next a5 b6; obtain ⟨_, _, t2, t3, t4⟩ := HX.out _ a6; replace b6 := Below.next b5 b6; have C6 := H6.out w5)
      | (go_at_call 9; refine C6.mono ?_; rintro e w6 ⟨rfl, b7⟩; clear C6; replace b7 := Below.next b6 b7))
    go_ret
    exact ⟨rfl, b7⟩
  · have k1 : ¬ (z : Int) = 0 := by omega
    have k2 : ((z : Int) == 0) = false := by simpa using k1
    clear hz
    go_enter Tryd.func3, Tryd.ntmps3
    go_wp2_with (first
      | (go_at_call 4; refine C0.mono ?_; rintro e w0 ⟨rfl, b1⟩; clear C0; obtain ⟨x0, x1, _, _, _⟩ := HX.out _ b1; have a1 := b1; replace b1 := Below.next b0 b1; have C1 := H1.out _ b1)
      | (go_at_call 5; refine C1.mono ?_; rintro e w2 ⟨rfl, b3⟩; clear C1; have a3 := Below.next a1 b3; obtain ⟨_, _, z2, z3, z4⟩ := HX.out _ a3; replace b3 := Below.next b1 b3; have C3 := H3.out _ b3)
      | (go_at_call 7; refine C3.mono ?_; rintro e w3 ⟨ca, cc, rfl, HS3, b4⟩; clear C3; have a4 := Below.next a3 b4; obtain ⟨_, _, s2, s3, s4⟩ := HX.out _ a4; replace b4 := Below.next b3 b4; have C4 := H4.out _ b4)
      | (go_at_call 8; refine C4.mono ?_; rintro e w4 ⟨xa, xn, xc, rfl, HR4, b5⟩; clear C4; have c4 := balloc w4 (.cells #[.int .i64 (vv : Int), .slice xa xn xc] 24); obtain ⟨d0, d1⟩ := HDB.out w4 (w4.alloc (.cells #[.int .i64 (vv : Int), .slice xa xn xc] 24)) (.slice xa xn xc) (Below.refl _ _); have b45 := Below.next b5 c4; have a5 := Below.next a4 b45; replace b5 := Below.next b4 b45; have C5 := H5.out (w4.alloc (.cells #[.int .i64 (vv : Int), .slice xa xn xc] 24)) _ _ b5 (HR4.out.below c4) (HS3.out.below b45))
      | (go_at_call 5; refine C5.mono ?_; rintro e w5 ⟨rfl, b6⟩; clear C5; have a6 := Below.next a5 b6; obtain ⟨_, _, t2, t3, t4⟩ := HX.out _ a6; replace b6 := Below.next b5 b6; have C6 := H6.out w5)
      | (go_at_call 9; refine C6.mono ?_; rintro e w6 ⟨rfl, b7⟩; clear C6; replace b7 := Below.next b6 b7))
    go_ret
    exact ⟨rfl, b7⟩
set_option maxRecDepth 100000 in
set_option maxHeartbeats 8000000 in
theorem LB_nb (p fp fk : Int) (ln : Nat) (u lv fv : Value) (w : World) (hu : ∃ a n c, u = .slice a n c) (hl : ∃ a c, lv = .slice a ln c) (hv : ∃ a n c, fv = .slice a n c)
    (h0 : ∀ W, Below w.heap.size w W → Calls Tryd.prog 4 #[] W fun e w' => e = .returned (.bool true) ∧ Below W.heap.size W w')
    (q : Bool) (z : Nat) (hz : z = 0 → q = false)
    (h1 : ∀ W, Below w.heap.size w W → Calls Tryd.prog 5 #[.agg #[.int .i64 p, u], lv] W fun e w' => e = .returned (.tuple #[.bool q, .int .i64 (z : Int)]) ∧ Below W.heap.size W w')
    (r : Int) (hr : r ≠ 0)
    (h3 : ∀ W, Below w.heap.size w W → Calls Tryd.prog 7 #[.agg #[.int .i64 fp, .int .i64 fk, fv]] W fun e w' => e = .returned (.tuple #[.slice none 0 0, .int .i64 r]) ∧ Below W.heap.size W w') :
    Calls Tryd.prog 3 #[.agg #[.int .i64 p, u], lv, .agg #[.int .i64 fp, .int .i64 fk, fv]] w fun e w' => e = .returned (.bool true) ∧ Below w.heap.size w w' := by
  obtain ⟨ua, un, uc, rfl⟩ := hu
  obtain ⟨la, lc, rfl⟩ := hl
  obtain ⟨fa, fn, fc, rfl⟩ := hv
  have HX : Hid (∀ W, Below ((w.alloc (.cells #[.int .i64 p, .slice ua un uc] 24)).alloc (.cells #[.int .i64 fp, .int .i64 fk, .slice fa fn fc] 27)).heap.size ((w.alloc (.cells #[.int .i64 p, .slice ua un uc] 24)).alloc (.cells #[.int .i64 fp, .int .i64 fk, .slice fa fn fc] 27)) W → _) := bxB w (.int .i64 p) (.slice ua un uc) (.int .i64 fp) (.int .i64 fk) (.slice fa fn fc)
  have b0 := Below.next (balloc w (.cells #[.int .i64 p, .slice ua un uc] 24)) (balloc _ (.cells #[.int .i64 fp, .int .i64 fk, .slice fa fn fc] 27))
  have C0 := h0 _ b0
  have H1 : Hid (∀ W, Below w.heap.size w W → _) := h1
  have H3 : Hid (∀ W, Below w.heap.size w W → _) := h3
  clear h0 h1 h3
  have hr1 : (r != 0) = true := by simpa using hr
  by_cases hz0 : z = 0
  · obtain rfl := hz hz0
    subst hz0
    clear hz
    go_enter Tryd.func3, Tryd.ntmps3
    go_wp2_with (first
      | (go_at_call 4; refine C0.mono ?_; rintro e w0 ⟨rfl, b1⟩; clear C0; obtain ⟨x0, x1, _, _, _⟩ := HX.out _ b1; have a1 := b1; replace b1 := Below.next b0 b1; have C1 := H1.out _ b1)
      | (go_at_call 5; refine C1.mono ?_; rintro e w2 ⟨rfl, b3⟩; clear C1; have a3 := Below.next a1 b3; obtain ⟨_, _, z2, z3, z4⟩ := HX.out _ a3; replace b3 := Below.next b1 b3; have C3 := H3.out _ b3)
      | (go_at_call 7; refine C3.mono ?_; rintro e w3 ⟨rfl, b4⟩; clear C3; replace b4 := Below.next b3 b4))
    go_ret
    exact ⟨rfl, b4⟩
  · have k1 : ¬ (z : Int) = 0 := by omega
    have k2 : ((z : Int) == 0) = false := by simpa using k1
    clear hz
    go_enter Tryd.func3, Tryd.ntmps3
    go_wp2_with (first
      | (go_at_call 4; refine C0.mono ?_; rintro e w0 ⟨rfl, b1⟩; clear C0; obtain ⟨x0, x1, _, _, _⟩ := HX.out _ b1; have a1 := b1; replace b1 := Below.next b0 b1; have C1 := H1.out _ b1)
      | (go_at_call 5; refine C1.mono ?_; rintro e w2 ⟨rfl, b3⟩; clear C1; have a3 := Below.next a1 b3; obtain ⟨_, _, z2, z3, z4⟩ := HX.out _ a3; replace b3 := Below.next b1 b3; have C3 := H3.out _ b3)
      | (go_at_call 7; refine C3.mono ?_; rintro e w3 ⟨rfl, b4⟩; clear C3; replace b4 := Below.next b3 b4))
    go_ret
    exact ⟨rfl, b4⟩

end Go.Proofs.YtgpkhfpejopacabDoor

namespace Go.Proofs.YtgpkhfpejopacabDoor
open Go.RowKit

theorem faultB (p k : Int) (l : List Int) : ∃ z, Fd.FaultIs p k l z := by
  unfold Fd.FaultIs
  by_cases h1 : Fd.ordZ p k = 0
  · exact ⟨1, .inl ⟨h1, rfl⟩⟩
  · by_cases h2 : (l.length : Int) = k
    · by_cases h3 : Fd.inL p l
      · by_cases h4 : Fd.irrP (Fd.monL l) k.toNat p.toNat
        · exact ⟨0, .inr (.inr (.inr (.inr ⟨h1, h2, h3, h4, rfl⟩)))⟩
        · exact ⟨4, .inr (.inr (.inr (.inl ⟨h1, h2, h3, h4, rfl⟩)))⟩
      · exact ⟨1, .inr (.inr (.inl ⟨h1, h2, h3, rfl⟩))⟩
    · exact ⟨2, .inr (.inl ⟨h1, h2, rfl⟩)⟩
theorem field_twoB (p k : Int) (l : List Int) : (∃ z, Fd.FaultIs p k l z ∧ pfZ p k z ≠ 0) ∨ (∃ P K : Nat, p = P ∧ k = K ∧ Fd.GoodF P K l ∧ P ^ K ≤ 5) := by
  obtain ⟨z, hz⟩ := faultB p k l
  by_cases h : pfZ p k z = 0
  · have h0 : z = 0 := by
      refine Classical.byContradiction fun hn => ?_
      unfold pfZ at h
      rw [if_pos hn] at h
      exact hn h
    subst h0
    obtain ⟨P, K, rfl, rfl, hG⟩ := Fd.good_of hz
    refine .inr ⟨P, K, rfl, rfl, hG, ?_⟩
    refine Nat.le_of_not_lt fun hn => ?_
    unfold pfZ at h
    rw [if_neg (by simp), hG.ord, if_pos (by omega)] at h
    cases h
  · exact .inl ⟨z, hz, h⟩
/-- What the program tells of an arc: an arc with its order, or anything else. -/
theorem arc_two (p : Int) (ls : List (List Int)) (b : List Int) (u lv : Value) (w : World) (hT : Tab w) (hu : Rw w u ls) (hll : ∀ l ∈ ls, l.length ≤ maxLen) (hlm : ls.length ≤ maxLen) (hl : Sl w lv b) (hbl : b.length ≤ maxLen) :
    (∃ nn : Nat, nn ≤ 99 ∧ b.length ≤ nn + 2 ∧ (nn % 2 = 1 → b.length ≤ nn + 1) ∧ (∀ W, Below w.heap.size w W → Calls Tryd.prog 5 #[.agg #[.int .i64 p, u], lv] W fun e w' => e = .returned (.tuple #[.bool true, .int .i64 0]) ∧ Below W.heap.size W w') ∧ (∀ W, Below w.heap.size w W → Calls Tryd.prog 6 #[.agg #[.int .i64 p, u]] W fun e w' => e = .returned (.tuple #[.int .i64 (nn : Int), .int .i64 0]) ∧ Below W.heap.size W w')) ∨
    (∃ (q : Bool) (z : Nat), (z = 0 → q = false) ∧ (∀ W, Below w.heap.size w W → Calls Tryd.prog 5 #[.agg #[.int .i64 p, u], lv] W fun e w' => e = .returned (.tuple #[.bool q, .int .i64 (z : Int)]) ∧ Below W.heap.size W w')) := by
  by_cases hd : dF p ls = 0
  · obtain ⟨v, B, rfl, rfl, G⟩ := dF_ok hd
    by_cases hp : PlP v B
    · obtain ⟨k, hk⟩ := hp.prp G.bls
      by_cases hz : bF (v : Int) b = 0 ∧ aqB v B b = true
      · obtain ⟨hz1, hz2⟩ := hz
        obtain ⟨s, rfl, _, hs⟩ := bF_nat G.pos G.le hz1
        have hli : liB B s = false := by
          unfold aqB at hz2
          rw [if_pos hz1, toNat_ofNat] at hz2
          simpa using hz2
        obtain ⟨q1, q2⟩ := bose_le G.bls hk hs hli
        have hbig := hk.big
        have hk40 : k ≤ 40 := by
          obtain ⟨i, _, hi⟩ := hk.more
          obtain ⟨c, hc⟩ := at_of hi
          rw [← hk.size c (List.mem_of_getElem? hc)]
          exact G.len (List.mem_of_getElem? hc)
        refine .inl ⟨k - 1, by omega, by rw [List.length_map]; omega, fun ho => by rw [List.length_map]; have := q2 ho; omega, fun W hW => ?_, fun W hW => ?_⟩
        · have h := Arc_any v k B _ u lv W (hT.next hW) G hd (hu.below hW) (hl.below hW) hbl hk
          rw [hz1, hz2] at h
          exact h
        · have h := PCheck_yes v k B u W (hT.next hW) G hd (hu.below hW) hk
          rw [show (k : Int) - 1 = ((k - 1 : Nat) : Int) by omega] at h
          exact h
      · exact .inr ⟨aqB v B b, bF (v : Int) b, fun e => Bool.eq_false_iff.2 fun h => hz ⟨e, h⟩, fun W hW => Arc_any v k B b u lv W (hT.next hW) G hd (hu.below hW) (hl.below hW) hbl hk⟩
    · exact .inr ⟨false, 4, fun h => by omega, fun W hW => Arc_bad _ _ 4 u lv W (hT.next hW) (hu.below hW) hlm hll (.inr ⟨v, B, rfl, rfl, G, hd, hp, rfl⟩)⟩
  · exact .inr ⟨false, dF p ls, fun h => absurd h hd, fun W hW => Arc_bad _ _ _ u lv W (hT.next hW) (hu.below hW) hlm hll (.inl ⟨hd, rfl⟩)⟩
theorem PlaneBose_law (p : Int) (ls : List (List Int)) (b : List Int) (fp fk : Int) (l : List Int) (u lv fv : Value) (w : World) (hT : Tab w) (hF : Fd.Tab w) (hu : Rw w u ls) (hll : ∀ l ∈ ls, l.length ≤ maxLen) (hlm : ls.length ≤ maxLen) (hl : Sl w lv b) (hbl : b.length ≤ maxLen) (hf : Sl w fv l) (hfl : l.length ≤ maxLen) :
    Calls Tryd.prog 3 #[.agg #[.int .i64 p, u], lv, .agg #[.int .i64 fp, .int .i64 fk, fv]] w fun e w' => e = .returned (.bool true) ∧ Below w.heap.size w w' := by
  have hus : ∃ a n c, u = .slice a n c := by obtain ⟨a, c, e, _⟩ := hu; exact ⟨a, _, c, e⟩
  have hls : ∃ a c, lv = .slice a b.length c := by obtain ⟨a, c, e, _⟩ := hl; exact ⟨a, c, e⟩
  have hfs : ∃ a n c, fv = .slice a n c := by obtain ⟨a, c, e, _⟩ := hf; exact ⟨a, _, c, e⟩
  have P0 := fun W (hW : Below w.heap.size w W) => planeFact_any W (hT.next hW) (hF.below hW)
  have A := arc_two p ls b u lv w hT hu hll hlm hl hbl
  rcases field_twoB fp fk l with ⟨z, hz, hr⟩ | ⟨P, K, rfl, rfl, hG, h5⟩
  · have P3 := fun W (hW : Below w.heap.size w W) => Conic_bad fp fk z l fv W (hF.below hW) (hf.below hW) hfl hz hr
    rcases A with ⟨nn, n1, n2, n3, n4, n5⟩ | ⟨q, z, n1, n2⟩
    · exact LB_ab p fp fk b.length u lv fv w hus hls hfs P0 nn n1 n2 n3 n4 n5 _ hr P3
    · exact LB_nb p fp fk b.length u lv fv w hus hls hfs P0 q z n1 n2 _ hr P3
  · obtain ⟨hq, _⟩ := plane_five hG h5
    obtain ⟨c1, c2, c3⟩ := cq_li hq
    have P3 : ∀ W, Below w.heap.size w W → Calls Tryd.prog 7 #[.agg #[.int .i64 (P : Int), .int .i64 (K : Int), fv]] W fun e w' => ∃ xa xc, e = .returned (.tuple #[.slice xa (P ^ K + 1) xc, .int .i64 0]) ∧ Hid (Sl w' (.slice xa (P ^ K + 1) xc) ((cq (P ^ K)).map Int.ofNat)) ∧ Below W.heap.size W w' := fun W hW => by
      refine (Conic_good P K l fv W (hF.below hW) (hf.below hW) hfl hG h5).mono ?_
      rintro e w' ⟨xa, xn, xc, rfl, hO, bW⟩
      have hS := hO.sl
      obtain ⟨a', c', e', _⟩ := id hS
      rw [List.length_map, c2] at e'
      simp only [Value.slice.injEq] at e'
      obtain ⟨-, rfl, -⟩ := e'
      exact ⟨xa, xc, rfl, hS, bW⟩
    have P4 : ∀ W, Below w.heap.size w W → Calls Tryd.prog 8 #[.agg #[.int .i64 (P : Int), .int .i64 (K : Int), fv]] W fun e w' => ∃ xa xn xc, e = .returned (.tuple #[.agg #[.int .i64 (vq (P ^ K) : Int), .slice xa xn xc], .int .i64 0]) ∧ Hid (Rw w' (.slice xa xn xc) (toZ (bq (P ^ K)))) ∧ Below W.heap.size W w' := fun W hW => by
      refine (Make_good P K l fv W (hF.below hW) (hf.below hW) hfl hG h5).mono ?_
      rintro e w' ⟨xa, xn, xc, rfl, hO, b⟩
      exact ⟨xa, xn, xc, rfl, hO.rw, b⟩
    have P5 : ∀ (W : World) (b c : Value), Below w.heap.size w W → Rw W b (toZ (bq (P ^ K))) → Sl W c ((cq (P ^ K)).map Int.ofNat) → Calls Tryd.prog 5 #[.agg #[.int .i64 (vq (P ^ K) : Int), b], c] W fun e w' => e = .returned (.tuple #[.bool true, .int .i64 0]) ∧ Below W.heap.size W w' := fun W b c hW hb hc => by
      have h := Arc_any (vq (P ^ K)) (P ^ K + 1) (bq (P ^ K)) _ b c W (hT.next hW) (good_q hq) (dF_q hq) hb hc (by rw [List.length_map, c2]; unfold maxLen; omega) (prp_q hq)
      have e : aqB (vq (P ^ K)) (bq (P ^ K)) ((cq (P ^ K)).map Int.ofNat) = true := by unfold aqB; rw [if_pos c3, toNat_ofNat, c1]; rfl
      rw [e, c3] at h
      exact h
    have P6 : ∀ W : World, Calls Tryd.prog 9 #[.agg #[.int .i64 (P : Int), .int .i64 (K : Int), fv]] W fun e w' => e = .returned (.int .i64 ((P ^ K : Nat) : Int)) ∧ Below W.heap.size W w' := fun W => by
      have h := Fd.size_any P K fv W
      rw [hG.ord] at h
      exact h
    rcases A with ⟨nn, n1, n2, n3, n4, n5⟩ | ⟨q, z, n1, n2⟩
    · exact LB_ag p P K b.length u lv fv w hus hls hfs P0 nn n1 n2 n3 n4 n5 (vq (P ^ K)) (P ^ K) h5 (bq (P ^ K)) (cq (P ^ K)) c2 P3 P4 P5 P6
    · exact LB_ng p P K b.length u lv fv w hus hls hfs P0 q z n1 n2 (vq (P ^ K)) (P ^ K) h5 (bq (P ^ K)) (cq (P ^ K)) c2 P3 P4 P5 P6

end Go.Proofs.YtgpkhfpejopacabDoor
