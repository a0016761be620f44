/- The walk of the document's PlaneOf. -/
import Derived.Test.YtgpkhfpejopacaaDoorWG
import Derived.Test.YtgpkhfpejopacaaDoorPA6
import Derived.Deep.RegionHeld3
import Derived.Deep.MidRow
/- The walk of the document's PlaneFault. -/
/- The walk of the document's ConicOf. -/
namespace Go.Proofs.YtgpkhfpejopacaaDoor
open Go.RowKit

theorem trL_in {q k : Nat} {t : List Nat} (h : t ∈ trL q k) : ∃ n, n < k ∧ t = [n / (q * q), n / q % q, n % q] := by
  unfold trL at h
  obtain ⟨n, hn, ht⟩ := List.mem_flatMap.1 h
  unfold tr1 at ht
  split at ht
  · exact ⟨n, List.mem_range.1 hn, by simpa using ht⟩
  · cases ht
/-- The j-th number of the i-th triple. -/
def tA (T : List (List Nat)) (i j : Nat) : Nat := (T.getD i []).getD j 0
theorem trL_at {q i : Nat} (hq : 2 ≤ q) (hi : i < (trL q (q * q * q)).length) : ∃ x y z, (trL q (q * q * q))[i]? = some [x, y, z] ∧ x < q ∧ y < q ∧ z < q := by
  have e := List.getElem?_eq_getElem hi
  obtain ⟨n, hn, ht⟩ := trL_in (List.getElem_mem hi)
  refine ⟨_, _, _, by rw [e, ht], Nat.div_lt_of_lt_mul hn, Nat.mod_lt _ (by omega), Nat.mod_lt _ (by omega)⟩
theorem tA_of {T : List (List Nat)} {i x y z : Nat} (h : T[i]? = some [x, y, z]) : tA T i 0 = x ∧ tA T i 1 = y ∧ tA T i 2 = z := by
  unfold tA
  rw [List.getD_eq_getElem?_getD (l := T), h]
  exact ⟨rfl, rfl, rfl⟩
/-- The points of the conic. -/
def cnL (mu : Nat → Nat → Nat) (T : List (List Nat)) (k : Nat) : List Nat := (List.range k).filter fun i => mu (tA T i 1) (tA T i 1) == mu (tA T i 0) (tA T i 2)
theorem cnL_up (mu : Nat → Nat → Nat) (T : List (List Nat)) (k : Nat) : cnL mu T (k + 1) = cnL mu T k ++ (if (mu (tA T k 1) (tA T k 1) == mu (tA T k 0) (tA T k 2)) = true then [k] else []) := by
  unfold cnL
  rw [List.range_succ, List.filter_append]
  congr 1
  by_cases h : (mu (tA T k 1) (tA T k 1) == mu (tA T k 0) (tA T k 2)) = true
  · rw [if_pos h]; simp only [List.filter_cons, h, if_true, List.filter_nil]
  · rw [if_neg h]; simp only [List.filter_cons, h, List.filter_nil]; simp
theorem cnL_len (mu : Nat → Nat → Nat) (T : List (List Nat)) (k : Nat) : (cnL mu T k).length ≤ k := Nat.le_trans (List.length_filter_le _ _) (by simp)
/-- A triple among rows of one's own, as it lies. -/
theorem OR.three {w : World} {base : Nat} {v : Value} {T : List (List Nat)} {i x y z : Nat} (h : OR w base v T) (hi : T[i]? = some [x, y, z]) : ∃ tb tc rb rc, v = .slice (some ⟨tb, 0, none⟩) T.length tc ∧ w.cell? ⟨tb, i, none⟩ = some (.slice (some ⟨rb, 0, none⟩) 3 rc) ∧
    w.cell? ⟨rb, 0, none⟩ = some (.int .i64 (x : Int)) ∧ w.cell? ⟨rb, 1, none⟩ = some (.int .i64 (y : Int)) ∧ w.cell? ⟨rb, 2, none⟩ = some (.int .i64 (z : Int)) := by
  obtain ⟨vals, h1, h2⟩ := h
  have hl := (List.getElem?_eq_some_iff.1 hi).1
  have hlen : vals.length = T.length := by have := h1.1; omega
  obtain ⟨u, hu⟩ : ∃ u, vals[i]? = some u := ⟨_, List.getElem?_eq_getElem (by omega)⟩
  have hr := h2 i u _ hu hi
  obtain ⟨_, ⟨_, h0⟩ | ⟨tb, tc, cur, rfl, _, hg, _, _, _, ht⟩⟩ := h1
  · omega
  · obtain ⟨_, ⟨_, h0⟩ | ⟨rb, rc, rcur, rfl, _, rg, _, _, _, rt⟩⟩ := hr
    · simp at h0
    · refine ⟨tb, tc, rb, rc, rfl, ?_, ?_⟩
      · rw [cell_of_row w tb i cur _ (0, 0) hg, ← Array.getElem?_toList]
        have e : (cur.toList.take (T.length * 1))[i]? = vals[i]? := by rw [ht]
        rw [List.getElem?_take, if_pos (by omega)] at e
        rw [e, hu]
        rfl
      · have key : ∀ j, j < 3 → w.cell? ⟨rb, j, none⟩ = ((([x, y, z] : List Nat).map Int.ofNat).map (Value.int .i64))[j]? := fun j hj => by
          rw [cell_of_row w rb j rcur 3 (0, 0) rg, ← rt, List.getElem?_take, if_pos (by simpa using hj)]
          simp
        exact ⟨key 0 (by omega), key 1 (by omega), key 2 (by omega)⟩
theorem fBox (a b c : Value) (w : World) : ∀ W, Below (w.alloc (.cells #[a, b, c] 24)).heap.size (w.alloc (.cells #[a, b, c] 24)) W → W.cell? ⟨w.heap.size, 0, none⟩ = some a ∧ W.cell? ⟨w.heap.size, 1, none⟩ = some b ∧ W.cell? ⟨w.heap.size, 2, none⟩ = some c := fun W hW => by
  have h := (hW.block w.heap.size (by simp)).trans (heap_alloc_new w _)
  exact ⟨by rw [cell_of_row W _ 0 _ _ _ h]; rfl, by rw [cell_of_row W _ 1 _ _ _ h]; rfl, by rw [cell_of_row W _ 2 _ _ _ h]; rfl⟩
set_option maxRecDepth 100000 in
set_option maxHeartbeats 16000000 in
theorem ConicOf_any (P K : Nat) (l : List Int) (v : Value) (w : World) (hl : Sl w v l) (hG : Fd.GoodF P K l) (h5 : P ^ K ≤ 5) :
    Calls Tryd.prog 14 #[.agg #[.int .i64 (P : Int), .int .i64 (K : Int), v]] w fun e w' => ∃ x, e = .returned x ∧ ORow w' w.heap.size x (cnL (Fd.mulQ P K (Fd.monL l)) (trL (P ^ K) (P ^ K * P ^ K * P ^ K)) (trL (P ^ K) (P ^ K * P ^ K * P ^ K)).length) ∧ Below w.heap.size w w' := by
  obtain ⟨i3, hi3, hz0, hz1, hz2⟩ := info3
  have hq2 : 2 ≤ P ^ K := by
    have h1 := hG.field.two
    have h2 := hG.field.one
    calc 2 ≤ P := h1
      _ = P ^ 1 := (Nat.pow_one P).symm
      _ ≤ P ^ K := Nat.pow_le_pow_right (by omega) h2
  have HSZ : Hid (∀ W : World, Calls Tryd.prog 25 #[.agg #[.int .i64 (P : Int), .int .i64 (K : Int), v]] W fun e w' => e = .returned (.int .i64 ((P ^ K : Nat) : Int)) ∧ Below W.heap.size W w') := fun W => by
    have h := Fd.size_any P K v W
    rw [hG.ord] at h
    exact h
  have HTM : Hid (∀ (W : World) (a b : Nat), Below w.heap.size w W → a < P ^ K → b < P ^ K → Calls Tryd.prog 36 #[.agg #[.int .i64 (P : Int), .int .i64 (K : Int), v], .int .i64 (a : Int), .int .i64 (b : Int)] W fun e w' => e = .returned (.int .i64 ((Fd.mulQ P K (Fd.monL l) a b : Nat) : Int)) ∧ Below W.heap.size W w') := fun W a b hW ha hb => Fd.TimesG P K a b l v W (hl.below hW) hG ha hb
  have HTR : Hid (∀ W : World, Calls Tryd.prog 35 #[.int .i64 ((P ^ K : Nat) : Int)] W fun e w' => ∃ x, e = .returned x ∧ OR w' W.heap.size x (trL (P ^ K) (P ^ K * P ^ K * P ^ K)) ∧ Below W.heap.size W w') := fun W => triples_any (P ^ K) W hq2 h5
  have HAT : Hid (∀ i, i < (trL (P ^ K) (P ^ K * P ^ K * P ^ K)).length → ∃ x y z, (trL (P ^ K) (P ^ K * P ^ K * P ^ K))[i]? = some [x, y, z] ∧ x < P ^ K ∧ y < P ^ K ∧ z < P ^ K) := fun i hi => trL_at hq2 hi
  have hT125 : (trL (P ^ K) (P ^ K * P ^ K * P ^ K)).length ≤ 125 := Nat.le_trans (trL_len _ _) (Nat.mul_le_mul (Nat.mul_le_mul h5 h5) h5)
  obtain ⟨q, Hqq⟩ : ∃ q, Hid (P ^ K = q) := ⟨_, rfl⟩
  rw [Hqq.out] at HSZ HTM HTR HAT hT125 h5 ⊢
  obtain ⟨mu, Hmu⟩ : ∃ mu : Nat → Nat → Nat, Hid (Fd.mulQ P K (Fd.monL l) = mu) := ⟨_, rfl⟩
  have HML : Hid (∀ a b, a < q → b < q → mu a b < q) := fun a b ha hb => by
    rw [← Hmu.out, ← Hqq.out]
    exact Fd.mulQ_lt hG.field.toRing1 a b
  rw [Hmu.out] at HTM ⊢
  obtain ⟨T, HT⟩ : ∃ T, Hid (trL q (q * q * q) = T) := ⟨_, rfl⟩
  rw [HT.out] at HTR HAT hT125 ⊢
  have HCU : Hid (∀ k, cnL mu T (k + 1) = cnL mu T k ++ (if (mu (tA T k 1) (tA T k 1) == mu (tA T k 0) (tA T k 2)) = true then [k] else [])) := fun k => cnL_up mu T k
  have HCL : Hid (∀ k, (cnL mu T k).length ≤ k) := fun k => cnL_len mu T k
  have HC0 : Hid (cnL mu T 0 = []) := rfl
  obtain ⟨CL, HCC⟩ : ∃ CL : Nat → List Nat, Hid (cnL mu T = CL) := ⟨_, rfl⟩
  rw [HCC.out] at HCU HCL HC0 ⊢
  obtain ⟨fa, fc, rfl, _⟩ := id hl
  obtain ⟨fn, Hfn⟩ : ∃ fn, Hid (l.length = fn) := ⟨_, rfl⟩
  rw [Hfn.out] at HSZ HTM ⊢
  have HFB : Hid (∀ W, Below (w.alloc (.cells #[.int .i64 (P : Int), .int .i64 (K : Int), .slice fa fn fc] 24)).heap.size (w.alloc (.cells #[.int .i64 (P : Int), .int .i64 (K : Int), .slice fa fn fc] 24)) W → W.cell? ⟨w.heap.size, 0, none⟩ = some (.int .i64 (P : Int)) ∧ W.cell? ⟨w.heap.size, 1, none⟩ = some (.int .i64 (K : Int)) ∧ W.cell? ⟨w.heap.size, 2, none⟩ = some (.slice fa fn fc)) := fBox _ _ _ w
  obtain ⟨w0, Hw0⟩ : ∃ w0, Hid (w0 = w.alloc (.cells #[.int .i64 (P : Int), .int .i64 (K : Int), .slice fa fn fc] 24)) := ⟨_, rfl⟩
  rw [← Hw0.out] at HFB
  have HB0 : Hid (Below w.heap.size w w0) := by rw [Hw0.out]; exact balloc _ _
  obtain ⟨x0, x1, x2⟩ := HFB.out _ (Below.refl _ _)
  rw [Hw0.out] at x0 x1 x2
  clear hl hG hq2
  go_enter Tryd.func14, Tryd.ntmps14
  go_wp2_with (first
    | (go_at_call 25; refine (HSZ.out _).mono ?_; rintro e w1 ⟨rfl, b1⟩; clear HSZ; rw [← Hw0.out] at b1)
    | (go_at_call 35; refine (HTR.out _).mono ?_; rintro e w2 ⟨tv, rfl, hT2, b2⟩; clear HTR; have hB2 := Below.next b1 b2; obtain ⟨ta, tc, rfl⟩ := hT2.cap; have HT2 : Hid (OR w2 w1.heap.size (.slice ta T.length tc) T) := hT2; clear hT2 b1 b2))
  obtain ⟨tn, Htn⟩ : ∃ tn, Hid (T.length = tn) := ⟨_, rfl⟩
  rw [Htn.out] at HT2 HAT hT125 ⊢
  obtain ⟨B, HB⟩ : ∃ B, Hid (w2.heap.size = B) := ⟨_, rfl⟩
  have HBB : Hid (∀ W, Below B w2 W → Below w0.heap.size w0 W) := fun W h => hB2.trans (h.mono (by rw [← HB.out]; exact hB2.size))
  have HBS : Hid (∀ W, Below B w2 W → B ≤ W.heap.size) := fun W h => by rw [← HB.out]; exact h.size
  have HWB : Hid (w.heap.size ≤ B) := (show w.heap.size ≤ B by rw [← HB.out]; exact Nat.le_trans HB0.out.size hB2.size)
  have HTW : Hid (∀ (W : World) (i x y z : Nat), Below B w2 W → T[i]? = some [x, y, z] → ∃ tb rb rc, ta = some ⟨tb, 0, none⟩ ∧ W.cell? ⟨tb, i, none⟩ = some (.slice (some ⟨rb, 0, none⟩) 3 rc) ∧ W.cell? ⟨rb, 0, none⟩ = some (.int .i64 (x : Int)) ∧ W.cell? ⟨rb, 1, none⟩ = some (.int .i64 (y : Int)) ∧ W.cell? ⟨rb, 2, none⟩ = some (.int .i64 (z : Int))) := fun W i x y z hW h => by
    obtain ⟨tb, tc', rb, rc, e, k1⟩ := (HT2.out.below (by rw [HB.out]; exact hW)).three h
    simp only [Value.slice.injEq] at e
    exact ⟨tb, rb, rc, e.1, k1⟩
  have h0 : Below B w2 w2 := Below.refl _ _
  clear x0 x1 x2 hB2
  go_loopw [5, 6] (fun ov iv wr => ∃ (i : Nat) (oa : Option Addr) (on oc : Nat), iv = .int .i64 (i : Int) ∧ i ≤ tn ∧ ov = .slice oa on oc ∧ Hid ((CL i).length = on) ∧ Hid (ORow wr B (.slice oa on oc) (CL i)) ∧ Below B w2 wr) (fun _ iv _ => (tn - intOf iv).toNat)
  case atStart => exact ⟨0, none, 0, 0, rfl, by omega, rfl, (show (CL 0).length = 0 by rw [HC0.out]; rfl), (show ORow _ _ _ (CL 0) by rw [HC0.out]; exact World.ownsRow_nil _ _ _ _), h0⟩
  case round =>
    clear h0
    obtain ⟨i, oa, on, oc, rfl, hi, rfl, HON, HOR, hB⟩ := hrel
    have hBw0 := HBB.out _ hB
    by_cases hlt : i < tn
    · have hdi : decide ((i : Int) < (tn : Int)) = true := by simp; omega
      have hii : (i : Int) < (tn : Int) := by omega
      obtain ⟨x, y, z, hxyz, hx, hy, hz⟩ := HAT.out i hlt
      obtain ⟨tb, rb, rc, rfl, -⟩ := HTW.out wr i x y z hB hxyz
      have HCE : Hid (∀ W, Below B w2 W → ∃ rb rc, W.cell? ⟨tb, i, none⟩ = some (.slice (some ⟨rb, 0, none⟩) 3 rc) ∧ W.cell? ⟨rb, 0, none⟩ = some (.int .i64 (x : Int)) ∧ W.cell? ⟨rb, 1, none⟩ = some (.int .i64 (y : Int)) ∧ W.cell? ⟨rb, 2, none⟩ = some (.int .i64 (z : Int))) := fun W hW => by
        obtain ⟨tb', rb, rc, e, k⟩ := HTW.out W i x y z hW hxyz
        simp only [Option.some.injEq, Addr.mk.injEq] at e
        rw [← e.1] at k
        exact ⟨rb, rc, k⟩
      obtain ⟨t0, t1, t2⟩ := tA_of hxyz
      have hcu := HCU.out i
      rw [t0, t1, t2] at hcu
      have hcl := HCL.out i
      rw [HON.out] at hcl
      obtain ⟨rb, rc, r0, r1, r2, r3⟩ := HCE.out wr hB
      have hS : Hid (∀ W, Below wr.heap.size wr W → W.cell? ⟨w.heap.size, 0, none⟩ = some (.int .i64 (P : Int)) ∧ W.cell? ⟨w.heap.size, 1, none⟩ = some (.int .i64 (K : Int)) ∧ W.cell? ⟨w.heap.size, 2, none⟩ = some (.slice fa fn fc) ∧ W.cell? ⟨tb, i, none⟩ = some (.slice (some ⟨rb, 0, none⟩) 3 rc) ∧ W.cell? ⟨rb, 0, none⟩ = some (.int .i64 (x : Int)) ∧ W.cell? ⟨rb, 1, none⟩ = some (.int .i64 (y : Int)) ∧ W.cell? ⟨rb, 2, none⟩ = some (.int .i64 (z : Int))) := fun W hW => by
        obtain ⟨y0, y1, y2⟩ := HFB.out _ (Below.next hBw0 hW)
        exact ⟨y0, y1, y2, (hW.cell (World.block_lt_of_cell? _ _ r0)).trans r0, (hW.cell (World.block_lt_of_cell? _ _ r1)).trans r1, (hW.cell (World.block_lt_of_cell? _ _ r2)).trans r2, (hW.cell (World.block_lt_of_cell? _ _ r3)).trans r3⟩
      have HBr : Hid (∀ W, Below wr.heap.size wr W → Below w.heap.size w W) := fun W hW => Below.next HB0.out (Below.next hBw0 hW)
      have CA := fun W (hW : Below wr.heap.size wr W) => HTM.out W y y (HBr.out W hW) hy hy
      have CB := fun W (hW : Below wr.heap.size wr W) => HTM.out W x z (HBr.out W hW) hx hz
      have hma := HML.out y y hy hy
      have hmb := HML.out x z hx hz
      obtain ⟨ma, Hma⟩ : ∃ ma, Hid (mu y y = ma) := ⟨_, rfl⟩
      obtain ⟨mb, Hmb⟩ : ∃ mb, Hid (mu x z = mb) := ⟨_, rfl⟩
      rw [Hma.out] at CA hcu hma
      rw [Hmb.out] at CB hcu hmb
      have HU : Hid (CL (i + 1) = CL i ++ (if (ma == mb) = true then [i] else [])) := hcu
      clear hcu r0 r1 r2 r3 t0 t1 t2 HCE hBw0
      go_wp2
      have p0 : Below wr.heap.size wr wr := Below.refl _ _
      refine wp_region_noPanic ?_
      refine wp_region_held_drew (S := fun w_ => w_.cell? ⟨w.heap.size, 0, none⟩ = some (.int .i64 (P : Int)) ∧ w_.cell? ⟨w.heap.size, 1, none⟩ = some (.int .i64 (K : Int)) ∧ w_.cell? ⟨w.heap.size, 2, none⟩ = some (.slice fa fn fc) ∧ w_.cell? ⟨tb, i, none⟩ = some (.slice (some ⟨rb, 0, none⟩) 3 rc) ∧ w_.cell? ⟨rb, 0, none⟩ = some (.int .i64 (x : Int)) ∧ w_.cell? ⟨rb, 1, none⟩ = some (.int .i64 (y : Int)) ∧ w_.cell? ⟨rb, 2, none⟩ = some (.int .i64 (z : Int))) (by kernel_rfl) (hS.out _ p0.drew) (fun hSx => ?_)
      refine wpAnyH_take (i := 0) (v := .agg #[.int .i64 (P : Int), .int .i64 (K : Int), .slice fa fn fc]) rfl (by kernel_rfl) (by kernel_rfl) (by kernel_rfl) (fun _ _ _ h => h) (Or.inl ⟨by rfl, fun w' hSw => by (try dsimp only at hSw); obtain ⟨hs0, hs1, hs2, hs3, hs4, hs5, hs6⟩ := hSw; go_simp⟩) hSx ?_
      try simp only [Act.put, List.setIfInBounds_toArray]
      refine wpAnyH_take (i := 1) (v := .slice (some ⟨tb, 0, none⟩) tn tc) rfl (by kernel_rfl) (by kernel_rfl) (by kernel_rfl) (fun _ _ _ h => h) (Or.inl ⟨by rfl, fun w' hSw => by (try dsimp only at hSw); obtain ⟨hs0, hs1, hs2, hs3, hs4, hs5, hs6⟩ := hSw; go_simp⟩) hSx ?_
      try simp only [Act.put]
      refine wpAnyH_take (i := 2) (v := .int .i64 (i : Int)) rfl (by kernel_rfl) (by kernel_rfl) (by kernel_rfl) (fun _ _ _ h => h) (Or.inl ⟨by rfl, fun w' hSw => by (try dsimp only at hSw); obtain ⟨hs0, hs1, hs2, hs3, hs4, hs5, hs6⟩ := hSw; go_simp⟩) hSx ?_
      try simp only [Act.put]
      refine wpAnyH_take (i := 3) (v := .pointer (some ⟨tb, i, none⟩)) rfl (by kernel_rfl) (by kernel_rfl) (by kernel_rfl) (fun _ _ _ h => h) (Or.inl ⟨by rfl, fun w' hSw => by (try dsimp only at hSw); obtain ⟨hs0, hs1, hs2, hs3, hs4, hs5, hs6⟩ := hSw; go_simp⟩) hSx ?_
      try simp only [Act.put]
      refine wpAnyH_take (i := 4) (v := .slice (some ⟨rb, 0, none⟩) 3 rc) rfl (by kernel_rfl) (by kernel_rfl) (by kernel_rfl) (fun _ _ _ h => h) (Or.inl ⟨by rfl, fun w' hSw => by (try dsimp only at hSw); obtain ⟨hs0, hs1, hs2, hs3, hs4, hs5, hs6⟩ := hSw; go_simp⟩) hSx ?_
      try simp only [Act.put]
      refine wpAnyH_take (i := 5) (v := .pointer (some ⟨rb, 1, none⟩)) rfl (by kernel_rfl) (by kernel_rfl) (by kernel_rfl) (fun _ _ _ h => h) (Or.inl ⟨by rfl, fun w' hSw => by (try dsimp only at hSw); obtain ⟨hs0, hs1, hs2, hs3, hs4, hs5, hs6⟩ := hSw; go_simp⟩) hSx ?_
      try simp only [Act.put]
      refine wpAnyH_take (i := 6) (v := .int .i64 (y : Int)) rfl (by kernel_rfl) (by kernel_rfl) (by kernel_rfl) (fun _ _ _ h => h) (Or.inl ⟨by rfl, fun w' hSw => by (try dsimp only at hSw); obtain ⟨hs0, hs1, hs2, hs3, hs4, hs5, hs6⟩ := hSw; go_simp⟩) hSx ?_
      try simp only [Act.put]
      refine wpAnyH_take (i := 7) (v := .slice (some ⟨tb, 0, none⟩) tn tc) rfl (by kernel_rfl) (by kernel_rfl) (by kernel_rfl) (fun _ _ _ h => h) (Or.inl ⟨by rfl, fun w' hSw => by (try dsimp only at hSw); obtain ⟨hs0, hs1, hs2, hs3, hs4, hs5, hs6⟩ := hSw; go_simp⟩) hSx ?_
      try simp only [Act.put]
      refine wpAnyH_take (i := 8) (v := .int .i64 (i : Int)) rfl (by kernel_rfl) (by kernel_rfl) (by kernel_rfl) (fun _ _ _ h => h) (Or.inl ⟨by rfl, fun w' hSw => by (try dsimp only at hSw); obtain ⟨hs0, hs1, hs2, hs3, hs4, hs5, hs6⟩ := hSw; go_simp⟩) hSx ?_
      try simp only [Act.put]
      refine wpAnyH_take (i := 9) (v := .pointer (some ⟨tb, i, none⟩)) rfl (by kernel_rfl) (by kernel_rfl) (by kernel_rfl) (fun _ _ _ h => h) (Or.inl ⟨by rfl, fun w' hSw => by (try dsimp only at hSw); obtain ⟨hs0, hs1, hs2, hs3, hs4, hs5, hs6⟩ := hSw; go_simp⟩) hSx ?_
      try simp only [Act.put]
      refine wpAnyH_take (i := 10) (v := .slice (some ⟨rb, 0, none⟩) 3 rc) rfl (by kernel_rfl) (by kernel_rfl) (by kernel_rfl) (fun _ _ _ h => h) (Or.inl ⟨by rfl, fun w' hSw => by (try dsimp only at hSw); obtain ⟨hs0, hs1, hs2, hs3, hs4, hs5, hs6⟩ := hSw; go_simp⟩) hSx ?_
      try simp only [Act.put]
      refine wpAnyH_take (i := 11) (v := .pointer (some ⟨rb, 1, none⟩)) rfl (by kernel_rfl) (by kernel_rfl) (by kernel_rfl) (fun _ _ _ h => h) (Or.inl ⟨by rfl, fun w' hSw => by (try dsimp only at hSw); obtain ⟨hs0, hs1, hs2, hs3, hs4, hs5, hs6⟩ := hSw; go_simp⟩) hSx ?_
      try simp only [Act.put]
      refine wpAnyH_take (i := 12) (v := .int .i64 (y : Int)) rfl (by kernel_rfl) (by kernel_rfl) (by kernel_rfl) (fun _ _ _ h => h) (Or.inl ⟨by rfl, fun w' hSw => by (try dsimp only at hSw); obtain ⟨hs0, hs1, hs2, hs3, hs4, hs5, hs6⟩ := hSw; go_simp⟩) hSx ?_
      try simp only [Act.put]
      refine wpAnyH_ready (rs := [13]) (by kernel_rfl) (by simp) ?_
      refine (AllReadyH.cons rfl (fun J hJ => ?_) AllReadyH.nil)
      go_simp
      refine (CA _ p0.drew).mono ?_
      rintro e v1 ⟨rfl, bbv1⟩
      have p1 : Below wr.heap.size wr v1 := Below.next p0.drew bbv1
      go_wp2_with fail
      refine hJ.out _ _ (hS.out _ p1) (fun hSx => ?_)
      clear hJ J
      try simp only [Act.put, List.setIfInBounds_toArray, List.set_cons_zero, List.set_cons_succ]
      refine wpAnyH_ready (rs := [14]) (by kernel_rfl) (by simp) ?_
      refine (AllReadyH.cons rfl (fun J hJ => ?_) AllReadyH.nil)
      go_simp
      refine hJ.out _ _ (hS.out _ p1) (fun hSx => ?_)
      clear hJ J
      try simp only [Act.put, List.setIfInBounds_toArray, List.set_cons_zero, List.set_cons_succ]
      refine wpAnyH_done (by kernel_rfl) ?_ _
      refine NoPanic.normal ?_
      clear hSx
      go_wp2
      refine wp_region_noPanic ?_
      refine wp_region_held_drew (S := fun w_ => w_.cell? ⟨w.heap.size, 0, none⟩ = some (.int .i64 (P : Int)) ∧ w_.cell? ⟨w.heap.size, 1, none⟩ = some (.int .i64 (K : Int)) ∧ w_.cell? ⟨w.heap.size, 2, none⟩ = some (.slice fa fn fc) ∧ w_.cell? ⟨tb, i, none⟩ = some (.slice (some ⟨rb, 0, none⟩) 3 rc) ∧ w_.cell? ⟨rb, 0, none⟩ = some (.int .i64 (x : Int)) ∧ w_.cell? ⟨rb, 1, none⟩ = some (.int .i64 (y : Int)) ∧ w_.cell? ⟨rb, 2, none⟩ = some (.int .i64 (z : Int))) (by kernel_rfl) (hS.out _ p1.drew) (fun hSx => ?_)
      refine wpAnyH_take (i := 0) (v := .agg #[.int .i64 (P : Int), .int .i64 (K : Int), .slice fa fn fc]) rfl (by kernel_rfl) (by kernel_rfl) (by kernel_rfl) (fun _ _ _ h => h) (Or.inl ⟨by rfl, fun w' hSw => by (try dsimp only at hSw); obtain ⟨hs0, hs1, hs2, hs3, hs4, hs5, hs6⟩ := hSw; go_simp⟩) hSx ?_
      try simp only [Act.put, List.setIfInBounds_toArray]
      refine wpAnyH_take (i := 1) (v := .slice (some ⟨tb, 0, none⟩) tn tc) rfl (by kernel_rfl) (by kernel_rfl) (by kernel_rfl) (fun _ _ _ h => h) (Or.inl ⟨by rfl, fun w' hSw => by (try dsimp only at hSw); obtain ⟨hs0, hs1, hs2, hs3, hs4, hs5, hs6⟩ := hSw; go_simp⟩) hSx ?_
      try simp only [Act.put]
      refine wpAnyH_take (i := 2) (v := .int .i64 (i : Int)) rfl (by kernel_rfl) (by kernel_rfl) (by kernel_rfl) (fun _ _ _ h => h) (Or.inl ⟨by rfl, fun w' hSw => by (try dsimp only at hSw); obtain ⟨hs0, hs1, hs2, hs3, hs4, hs5, hs6⟩ := hSw; go_simp⟩) hSx ?_
      try simp only [Act.put]
      refine wpAnyH_take (i := 3) (v := .pointer (some ⟨tb, i, none⟩)) rfl (by kernel_rfl) (by kernel_rfl) (by kernel_rfl) (fun _ _ _ h => h) (Or.inl ⟨by rfl, fun w' hSw => by (try dsimp only at hSw); obtain ⟨hs0, hs1, hs2, hs3, hs4, hs5, hs6⟩ := hSw; go_simp⟩) hSx ?_
      try simp only [Act.put]
      refine wpAnyH_take (i := 4) (v := .slice (some ⟨rb, 0, none⟩) 3 rc) rfl (by kernel_rfl) (by kernel_rfl) (by kernel_rfl) (fun _ _ _ h => h) (Or.inl ⟨by rfl, fun w' hSw => by (try dsimp only at hSw); obtain ⟨hs0, hs1, hs2, hs3, hs4, hs5, hs6⟩ := hSw; go_simp⟩) hSx ?_
      try simp only [Act.put]
      refine wpAnyH_take (i := 5) (v := .pointer (some ⟨rb, 0, none⟩)) rfl (by kernel_rfl) (by kernel_rfl) (by kernel_rfl) (fun _ _ _ h => h) (Or.inl ⟨by rfl, fun w' hSw => by (try dsimp only at hSw); obtain ⟨hs0, hs1, hs2, hs3, hs4, hs5, hs6⟩ := hSw; go_simp⟩) hSx ?_
      try simp only [Act.put]
      refine wpAnyH_take (i := 6) (v := .int .i64 (x : Int)) rfl (by kernel_rfl) (by kernel_rfl) (by kernel_rfl) (fun _ _ _ h => h) (Or.inl ⟨by rfl, fun w' hSw => by (try dsimp only at hSw); obtain ⟨hs0, hs1, hs2, hs3, hs4, hs5, hs6⟩ := hSw; go_simp⟩) hSx ?_
      try simp only [Act.put]
      refine wpAnyH_take (i := 7) (v := .slice (some ⟨tb, 0, none⟩) tn tc) rfl (by kernel_rfl) (by kernel_rfl) (by kernel_rfl) (fun _ _ _ h => h) (Or.inl ⟨by rfl, fun w' hSw => by (try dsimp only at hSw); obtain ⟨hs0, hs1, hs2, hs3, hs4, hs5, hs6⟩ := hSw; go_simp⟩) hSx ?_
      try simp only [Act.put]
      refine wpAnyH_take (i := 8) (v := .int .i64 (i : Int)) rfl (by kernel_rfl) (by kernel_rfl) (by kernel_rfl) (fun _ _ _ h => h) (Or.inl ⟨by rfl, fun w' hSw => by (try dsimp only at hSw); obtain ⟨hs0, hs1, hs2, hs3, hs4, hs5, hs6⟩ := hSw; go_simp⟩) hSx ?_
      try simp only [Act.put]
      refine wpAnyH_take (i := 9) (v := .pointer (some ⟨tb, i, none⟩)) rfl (by kernel_rfl) (by kernel_rfl) (by kernel_rfl) (fun _ _ _ h => h) (Or.inl ⟨by rfl, fun w' hSw => by (try dsimp only at hSw); obtain ⟨hs0, hs1, hs2, hs3, hs4, hs5, hs6⟩ := hSw; go_simp⟩) hSx ?_
      try simp only [Act.put]
      refine wpAnyH_take (i := 10) (v := .slice (some ⟨rb, 0, none⟩) 3 rc) rfl (by kernel_rfl) (by kernel_rfl) (by kernel_rfl) (fun _ _ _ h => h) (Or.inl ⟨by rfl, fun w' hSw => by (try dsimp only at hSw); obtain ⟨hs0, hs1, hs2, hs3, hs4, hs5, hs6⟩ := hSw; go_simp⟩) hSx ?_
      try simp only [Act.put]
      refine wpAnyH_take (i := 11) (v := .pointer (some ⟨rb, 2, none⟩)) rfl (by kernel_rfl) (by kernel_rfl) (by kernel_rfl) (fun _ _ _ h => h) (Or.inl ⟨by rfl, fun w' hSw => by (try dsimp only at hSw); obtain ⟨hs0, hs1, hs2, hs3, hs4, hs5, hs6⟩ := hSw; go_simp⟩) hSx ?_
      try simp only [Act.put]
      refine wpAnyH_take (i := 12) (v := .int .i64 (z : Int)) rfl (by kernel_rfl) (by kernel_rfl) (by kernel_rfl) (fun _ _ _ h => h) (Or.inl ⟨by rfl, fun w' hSw => by (try dsimp only at hSw); obtain ⟨hs0, hs1, hs2, hs3, hs4, hs5, hs6⟩ := hSw; go_simp⟩) hSx ?_
      try simp only [Act.put]
      refine wpAnyH_ready (rs := [13]) (by kernel_rfl) (by simp) ?_
      refine (AllReadyH.cons rfl (fun J hJ => ?_) AllReadyH.nil)
      go_simp
      refine (CB _ p1.drew).mono ?_
      rintro e v2 ⟨rfl, bbv2⟩
      have p2 : Below wr.heap.size wr v2 := Below.next p1.drew bbv2
      go_wp2_with fail
      refine hJ.out _ _ (hS.out _ p2) (fun hSx => ?_)
      clear hJ J
      try simp only [Act.put, List.setIfInBounds_toArray, List.set_cons_zero, List.set_cons_succ]
      refine wpAnyH_ready (rs := [14]) (by kernel_rfl) (by simp) ?_
      refine (AllReadyH.cons rfl (fun J hJ => ?_) AllReadyH.nil)
      go_simp
      refine hJ.out _ _ (hS.out _ p2) (fun hSx => ?_)
      clear hJ J
      try simp only [Act.put, List.setIfInBounds_toArray, List.set_cons_zero, List.set_cons_succ]
      refine wpAnyH_done (by kernel_rfl) ?_ _
      refine NoPanic.normal ?_
      clear hSx CA CB hS
      have hB2 : Below B w2 v2 := hB.trans (p2.mono (HBS.out _ hB))
      have hsz := HBS.out _ hB2
      have HOR2 : Hid (ORow v2 B (.slice oa on oc) (CL i)) := HOR.out.below p2
      by_cases hab : ma = mb
      · have hab1 : ((ma : Int) == (mb : Int)) = true := by simp; omega
        have HU2 : Hid (CL (i + 1) = CL i ++ [i]) := (show CL (i + 1) = CL i ++ [i] by rw [HU.out, if_pos (by simpa using hab)])
        have hown : v2.ownsRow B 3 1 (.slice oa on oc) on (((CL i).map Int.ofNat).map (Value.int .i64)) := by
          have h := HOR2.out
          unfold ORow at h
          rwa [HON.out] at h
        subst hab
        clear HU HOR
        go_wp2_with (first
          | (at_builtin; refine wpList_append_own _ rfl _ _ 22 rfl B 3 i3 (.int .i64 0) 1 8 und22 hi3 hz0 hz1 hz2 rfl (by decide) _ _ _ rfl (hown.alloc _) ⟨v2.heap.size, 0, none⟩ 1 1 [.int .i64 (i : Int)] rfl rfl (fun j u hj => by (match j, hj with | 0, hj => simp at hj; subst hj; simp [Addr.add])) (fun u hu => by (simp at hu; subst hu; rfl)) (by (unfold maxLen; omega)) (by omega) (by (simp; omega)) ?_; intro v' w8 hown' hgrow _
             have hb8 : Below B w2 w8 := (hB2.alloc hsz _).grown hgrow (by simp; omega) (fun k hk => (hown.lt k hk).1)
             obtain ⟨va', vc', rfl⟩ := own_form2 hown'
             have HO8 : Hid (ORow w8 B (.slice va' (on + 1) vc') (CL (i + 1))) := (show ORow w8 B (.slice va' (on + 1) vc') (CL (i + 1)) by unfold ORow; rw [HU2.out, List.length_append, HON.out, List.map_append, List.map_append]; exact hown')
             have HL8 : Hid ((CL (i + 1)).length = on + 1) := (show (CL (i + 1)).length = on + 1 by rw [HU2.out, List.length_append, HON.out]; rfl)
             clear hown hgrow hown')
          | go_in)
        go_roundw
        case rel => exact ⟨i + 1, va', on + 1, vc', by go_num, by omega, rfl, HL8, HO8, hb8⟩
        case measure => simp [intOf]; omega
      · have hab1 : ((ma : Int) == (mb : Int)) = false := by simp; omega
        have hab2 : ¬ (ma : Int) = (mb : Int) := by omega
        have HU2 : Hid (CL (i + 1) = CL i) := (show CL (i + 1) = CL i by rw [HU.out, if_neg (by simpa using hab), List.append_nil])
        have HO8 : Hid (ORow v2 B (.slice oa on oc) (CL (i + 1))) := (show ORow v2 B (.slice oa on oc) (CL (i + 1)) by rw [HU2.out]; exact HOR2.out)
        have HL8 : Hid ((CL (i + 1)).length = on) := (show (CL (i + 1)).length = on by rw [HU2.out]; exact HON.out)
        clear HU HOR
        go_wp2
        go_roundw
        case rel => exact ⟨i + 1, oa, on, oc, by go_num, by omega, rfl, HL8, HO8, hB2⟩
        case measure => simp [intOf]; omega
    · have hdi : decide ((i : Int) < (tn : Int)) = false := by simp; omega
      obtain rfl : i = tn := by omega
      have HFIN : Hid (ORow wr w.heap.size (.slice oa on oc) (CL i)) := (show ORow wr w.heap.size (.slice oa on oc) (CL i) from ⟨HOR.out.1, HOR.out.2.imp id fun ⟨g', c', cur, e, hb, r⟩ => ⟨g', c', cur, e, Nat.le_trans HWB.out hb, r⟩⟩)
      have HBF : Hid (Below w.heap.size w wr) := Below.next HB0.out hBw0
      go_wp2
      go_ret
      exact ⟨.slice oa on oc, rfl, by rw [Htn.out]; exact HFIN.out, HBF.out⟩

end Go.Proofs.YtgpkhfpejopacaaDoor

namespace Go.Proofs.YtgpkhfpejopacaaDoor
open Go.RowKit

set_option maxHeartbeats 4000000 in
theorem PlaneFault_walk (p k : Int) (l : List Int) (z s r : Int) (v : Value) (w : World) (hl : Sl w v l)
    (h1 : ∀ W, Below w.heap.size w W → Calls Tryd.prog 30 #[.agg #[.int .i64 p, .int .i64 k, v]] W fun e w' => e = .returned (.int .i64 z) ∧ Below W.heap.size W w')
    (h2 : ∀ W : World, Calls Tryd.prog 25 #[.agg #[.int .i64 p, .int .i64 k, v]] W fun e w' => e = .returned (.int .i64 s) ∧ Below W.heap.size W w')
    (hr : r = if z ≠ 0 then z else if 5 < s then 3 else 0) :
    Calls Tryd.prog 9 #[.agg #[.int .i64 p, .int .i64 k, v]] w fun e w' => e = .returned (.int .i64 r) ∧ Below w.heap.size w w' := by
  obtain ⟨fa, fc, rfl, _⟩ := hl
  have H1 : Hid (∀ W, Below w.heap.size w W → Calls Tryd.prog 30 #[.agg #[.int .i64 p, .int .i64 k, .slice fa l.length fc]] W fun e w' => e = .returned (.int .i64 z) ∧ Below W.heap.size W w') := h1
  have H2 : Hid (∀ W : World, Calls Tryd.prog 25 #[.agg #[.int .i64 p, .int .i64 k, .slice fa l.length fc]] W fun e w' => e = .returned (.int .i64 s) ∧ Below W.heap.size W w') := h2
  have HFB := fBox (.int .i64 p) (.int .i64 k) (.slice fa l.length fc) w
  have HF : Hid (∀ W, Below (w.alloc (.cells #[.int .i64 p, .int .i64 k, .slice fa l.length fc] 24)).heap.size (w.alloc (.cells #[.int .i64 p, .int .i64 k, .slice fa l.length fc] 24)) W → W.cell? ⟨w.heap.size, 0, none⟩ = some (.int .i64 p) ∧ W.cell? ⟨w.heap.size, 1, none⟩ = some (.int .i64 k) ∧ W.cell? ⟨w.heap.size, 2, none⟩ = some (.slice fa l.length fc)) := HFB
  obtain ⟨x0, x1, x2⟩ := HFB _ (Below.refl _ _)
  have b0 := balloc w (.cells #[.int .i64 p, .int .i64 k, .slice fa l.length fc] 24)
  generalize l.length = fn at *
  clear h1 h2 HFB
  by_cases hz : z = 0
  · subst hz
    rw [if_neg (by simp)] at hr
    by_cases hs : 5 < s
    · rw [if_pos hs] at hr
      subst hr
      have hd : decide (5 < s) = true := decide_eq_true hs
      go_enter Tryd.func9, Tryd.ntmps9
      go_wp2_with (first
        | (go_at_call 30; refine (H1.out _ b0).mono ?_; rintro e w1 ⟨rfl, b1⟩; clear H1; obtain ⟨y0, y1, y2⟩ := HF.out _ b1; replace b1 := Below.next b0 b1)
        | (go_at_call 25; refine (H2.out _).mono ?_; rintro e w2 ⟨rfl, b2⟩; clear H2; replace b2 := Below.next b1 b2))
      go_ret
      exact ⟨rfl, b2⟩
    · rw [if_neg hs] at hr
      subst hr
      have hd : decide (5 < s) = false := decide_eq_false hs
      go_enter Tryd.func9, Tryd.ntmps9
      go_wp2_with (first
        | (go_at_call 30; refine (H1.out _ b0).mono ?_; rintro e w1 ⟨rfl, b1⟩; clear H1; obtain ⟨y0, y1, y2⟩ := HF.out _ b1; replace b1 := Below.next b0 b1)
        | (go_at_call 25; refine (H2.out _).mono ?_; rintro e w2 ⟨rfl, b2⟩; clear H2; replace b2 := Below.next b1 b2))
      go_ret
      exact ⟨rfl, b2⟩
  · rw [if_pos hz] at hr
    subst hr
    have hz1 : (r != 0) = true := by simpa using hz
    go_enter Tryd.func9, Tryd.ntmps9
    go_wp2_with (go_at_call 30; refine (H1.out _ b0).mono ?_; rintro e w1 ⟨rfl, b1⟩; clear H1; replace b1 := Below.next b0 b1)
    go_ret
    exact ⟨rfl, b1⟩

end Go.Proofs.YtgpkhfpejopacaaDoor

namespace Go.Proofs.YtgpkhfpejopacaaDoor
open Go.RowKit

/-- The first k products of two triples, added. -/
def dtN (ad mu : Nat → Nat → Nat) (T : List (List Nat)) (i j : Nat) : Nat → Nat
  | 0 => 0
  | k + 1 => ad (dtN ad mu T i j k) (mu (tA T i k) (tA T j k))
/-- The points of the i-th block, below j. -/
def lnL (ad mu : Nat → Nat → Nat) (T : List (List Nat)) (i j : Nat) : List Nat := (List.range j).filter fun x => dtN ad mu T i x 3 == 0
theorem lnL_up (ad mu : Nat → Nat → Nat) (T : List (List Nat)) (i j : Nat) : lnL ad mu T i (j + 1) = lnL ad mu T i j ++ (if (dtN ad mu T i j 3 == 0) = true then [j] else []) := by
  unfold lnL
  rw [List.range_succ, List.filter_append]
  congr 1
  by_cases h : (dtN ad mu T i j 3 == 0) = true
  · rw [if_pos h]; simp only [List.filter_cons, h, if_true, List.filter_nil]
  · rw [if_neg h]; simp only [List.filter_cons, h, List.filter_nil]; simp
theorem lnL_len (ad mu : Nat → Nat → Nat) (T : List (List Nat)) (i j : Nat) : (lnL ad mu T i j).length ≤ j := Nat.le_trans (List.length_filter_le _ _) (by simp)
/-- The blocks of a field's plane. -/
def plL (ad mu : Nat → Nat → Nat) (T : List (List Nat)) (i : Nat) : List (List Nat) := (List.range i).map fun x => lnL ad mu T x T.length
theorem plL_up (ad mu : Nat → Nat → Nat) (T : List (List Nat)) (i : Nat) : plL ad mu T (i + 1) = plL ad mu T i ++ [lnL ad mu T i T.length] := by
  unfold plL
  rw [List.range_succ, List.map_append]
  rfl
theorem plL_len (ad mu : Nat → Nat → Nat) (T : List (List Nat)) (i : Nat) : (plL ad mu T i).length = i := by simp [plL]
theorem OR.three' {w : World} {base : Nat} {v : Value} {T : List (List Nat)} {i x y z : Nat} (h : OR w base v T) (hi : T[i]? = some [x, y, z]) : ∃ tb tc rb rc, v = .slice (some ⟨tb, 0, none⟩) T.length tc ∧ w.cell? ⟨tb, i, none⟩ = some (.slice (some ⟨rb, 0, none⟩) 3 rc) ∧ ∀ k, k < 3 → w.cell? ⟨rb, k, none⟩ = some (.int .i64 (tA T i k : Int)) := by
  obtain ⟨tb, tc, rb, rc, e, k0, k1, k2, k3⟩ := h.three hi
  obtain ⟨t0, t1, t2⟩ := tA_of hi
  refine ⟨tb, tc, rb, rc, e, k0, fun k hk => ?_⟩
  rcases (show k = 0 ∨ k = 1 ∨ k = 2 by omega) with rfl | rfl | rfl
  · rw [t0]; exact k1
  · rw [t1]; exact k2
  · rw [t2]; exact k3
theorem bsetRw' {B g : Nat} {w0 w : World} (hb : Below B w0 w) (hBg : B ≤ g) (cs : Array Value) : Below B w0 (w.setRow g cs) :=
  ⟨hb.os, hb.tape, hb.output, by simpa using hb.size, fun k hk => (setRow_other w g k cs (by omega)).trans (hb.block k hk)⟩
theorem inf24' (x y : Value) : (Tryd.prog.info? 29).map (·.size) = some (#[x, y] : Array Value).size := by kernel_rfl
theorem one2s (z : Int) (a : Option Addr) (n c : Nat) : (#[.int .i64 z, .slice a n c] : Array Value).all (·.oneCell') = true := by
  have h1 : ∀ z : Int, (Value.int .i64 z).oneCell' = true := fun _ => rfl
  have h2 : ∀ (a : Option Addr) (n c : Nat), (Value.slice a n c).oneCell' = true := fun _ _ _ => rfl
  simp [h1, h2]
set_option maxRecDepth 100000 in
set_option maxHeartbeats 32000000 in
theorem PlaneOf_any (P K : Nat) (l : List Int) (v : Value) (w : World) (hl : Sl w v l) (hG : Fd.GoodF P K l) (h5 : P ^ K ≤ 5) :
    Calls Tryd.prog 13 #[.agg #[.int .i64 (P : Int), .int .i64 (K : Int), v]] w fun e w' => ∃ x, e = .returned (.agg #[.int .i64 ((trL (P ^ K) (P ^ K * P ^ K * P ^ K)).length : Int), x]) ∧ OR w' w.heap.size x (plL (Fd.addQ P K) (Fd.mulQ P K (Fd.monL l)) (trL (P ^ K) (P ^ K * P ^ K * P ^ K)) (trL (P ^ K) (P ^ K * P ^ K * P ^ K)).length) ∧ Below w.heap.size w w' := by
  obtain ⟨i3, hi3, hz0, hz1, hz2⟩ := info3
  obtain ⟨i27, ji3, jz0, jz1, jz2⟩ := info36
  have hq2 : 2 ≤ P ^ K := by
    have h1 := hG.field.two
    have h2 := hG.field.one
    calc 2 ≤ P := h1
      _ = P ^ 1 := (Nat.pow_one P).symm
      _ ≤ P ^ K := Nat.pow_le_pow_right (by omega) h2
  have HSZ : Hid (∀ W : World, Calls Tryd.prog 25 #[.agg #[.int .i64 (P : Int), .int .i64 (K : Int), v]] W fun e w' => e = .returned (.int .i64 ((P ^ K : Nat) : Int)) ∧ Below W.heap.size W w') := fun W => by
    have h := Fd.size_any P K v W
    rw [hG.ord] at h
    exact h
  have HTM : Hid (∀ (W : World) (a b : Nat), Below w.heap.size w W → a < P ^ K → b < P ^ K → Calls Tryd.prog 36 #[.agg #[.int .i64 (P : Int), .int .i64 (K : Int), v], .int .i64 (a : Int), .int .i64 (b : Int)] W fun e w' => e = .returned (.int .i64 ((Fd.mulQ P K (Fd.monL l) a b : Nat) : Int)) ∧ Below W.heap.size W w') := fun W a b hW ha hb => Fd.TimesG P K a b l v W (hl.below hW) hG ha hb
  have HSM : Hid (∀ (W : World) (a b : Nat), Below w.heap.size w W → a < P ^ K → b < P ^ K → Calls Tryd.prog 37 #[.agg #[.int .i64 (P : Int), .int .i64 (K : Int), v], .int .i64 (a : Int), .int .i64 (b : Int)] W fun e w' => e = .returned (.int .i64 ((Fd.addQ P K a b : Nat) : Int)) ∧ Below W.heap.size W w') := fun W a b hW ha hb => Fd.SumG P K a b l v W (hl.below hW) hG ha hb
  have HTR : Hid (∀ W : World, Calls Tryd.prog 35 #[.int .i64 ((P ^ K : Nat) : Int)] W fun e w' => ∃ x, e = .returned x ∧ OR w' W.heap.size x (trL (P ^ K) (P ^ K * P ^ K * P ^ K)) ∧ Below W.heap.size W w') := fun W => triples_any (P ^ K) W hq2 h5
  have HAT : Hid (∀ i, i < (trL (P ^ K) (P ^ K * P ^ K * P ^ K)).length → ∃ x y z, (trL (P ^ K) (P ^ K * P ^ K * P ^ K))[i]? = some [x, y, z] ∧ x < P ^ K ∧ y < P ^ K ∧ z < P ^ K) := fun i hi => trL_at hq2 hi
  have hT125 : (trL (P ^ K) (P ^ K * P ^ K * P ^ K)).length ≤ 125 := Nat.le_trans (trL_len _ _) (Nat.mul_le_mul (Nat.mul_le_mul h5 h5) h5)
  obtain ⟨q, Hqq⟩ : ∃ q, Hid (P ^ K = q) := ⟨_, rfl⟩
  rw [Hqq.out] at HSZ HTM HSM HTR HAT hT125 h5 hq2 ⊢
  obtain ⟨mu, Hmu⟩ : ∃ mu : Nat → Nat → Nat, Hid (Fd.mulQ P K (Fd.monL l) = mu) := ⟨_, rfl⟩
  obtain ⟨ad, Had⟩ : ∃ ad : Nat → Nat → Nat, Hid (Fd.addQ P K = ad) := ⟨_, rfl⟩
  have HML : Hid (∀ a b, a < q → b < q → mu a b < q) := fun a b ha hb => by
    rw [← Hmu.out, ← Hqq.out]
    exact Fd.mulQ_lt hG.field.toRing1 a b
  have HAL : Hid (∀ a b, a < q → b < q → ad a b < q) := fun a b ha hb => by
    rw [← Had.out, ← Hqq.out]
    exact Fd.addQ_lt hG.field.toRing1 a b
  rw [Hmu.out] at HTM ⊢
  rw [Had.out] at HSM ⊢
  obtain ⟨T, HT⟩ : ∃ T, Hid (trL q (q * q * q) = T) := ⟨_, rfl⟩
  rw [HT.out] at HTR HAT hT125 ⊢
  have HDT : Hid (∀ i j k, dtN ad mu T i j (k + 1) = ad (dtN ad mu T i j k) (mu (tA T i k) (tA T j k))) := fun i j k => rfl
  have HTQ : Hid (∀ i k, i < T.length → k < 3 → tA T i k < q) := fun i k hi hk => by
    obtain ⟨x, y, z, h, hx, hy, hz⟩ := HAT.out i hi
    obtain ⟨t0, t1, t2⟩ := tA_of h
    rcases (show k = 0 ∨ k = 1 ∨ k = 2 by omega) with rfl | rfl | rfl
    · rw [t0]; exact hx
    · rw [t1]; exact hy
    · rw [t2]; exact hz
  have HDQ : Hid (∀ i j k, i < T.length → j < T.length → k ≤ 3 → dtN ad mu T i j k < q) := fun i j k hi hj hk => by
    induction k with
    | zero => show 0 < q; omega
    | succ k ih => exact HAL.out _ _ (ih (by omega)) (HML.out _ _ (HTQ.out i k hi (by omega)) (HTQ.out j k hj (by omega)))
  have HLU : Hid (∀ i j, lnL ad mu T i (j + 1) = lnL ad mu T i j ++ (if (dtN ad mu T i j 3 == 0) = true then [j] else [])) := fun i j => lnL_up ad mu T i j
  have HLL : Hid (∀ i j, (lnL ad mu T i j).length ≤ j) := fun i j => lnL_len ad mu T i j
  have HPU : Hid (∀ i, plL ad mu T (i + 1) = plL ad mu T i ++ [lnL ad mu T i T.length]) := fun i => plL_up ad mu T i
  have HPL : Hid (∀ i, (plL ad mu T i).length = i) := fun i => plL_len ad mu T i
  obtain ⟨DT, HDD⟩ : ∃ DT : Nat → Nat → Nat → Nat, Hid (dtN ad mu T = DT) := ⟨_, rfl⟩
  obtain ⟨LN, HLN⟩ : ∃ LN : Nat → Nat → List Nat, Hid (lnL ad mu T = LN) := ⟨_, rfl⟩
  obtain ⟨PL, HPP⟩ : ∃ PL : Nat → List (List Nat), Hid (plL ad mu T = PL) := ⟨_, rfl⟩
  have HD0 : Hid (∀ i j, DT i j 0 = 0) := fun i j => by rw [← HDD.out]; rfl
  have HL0 : Hid (∀ i, LN i 0 = []) := fun i => by rw [← HLN.out]; rfl
  have HP0 : Hid (PL 0 = []) := by show PL 0 = []; rw [← HPP.out]; rfl
  rw [HLN.out, HPP.out] at HPU
  rw [HDD.out] at HDT HDQ HLU
  rw [HLN.out] at HLU HLL
  rw [HPP.out] at HPL ⊢
  obtain ⟨fa, fc, rfl, _⟩ := id hl
  obtain ⟨fn, Hfn⟩ : ∃ fn, Hid (l.length = fn) := ⟨_, rfl⟩
  rw [Hfn.out] at HSZ HTM HSM ⊢
  have HFB : Hid (∀ W, Below (w.alloc (.cells #[.int .i64 (P : Int), .int .i64 (K : Int), .slice fa fn fc] 24)).heap.size (w.alloc (.cells #[.int .i64 (P : Int), .int .i64 (K : Int), .slice fa fn fc] 24)) W → W.cell? ⟨w.heap.size, 0, none⟩ = some (.int .i64 (P : Int)) ∧ W.cell? ⟨w.heap.size, 1, none⟩ = some (.int .i64 (K : Int)) ∧ W.cell? ⟨w.heap.size, 2, none⟩ = some (.slice fa fn fc)) := fBox _ _ _ w
  obtain ⟨w0, Hw0⟩ : ∃ w0, Hid (w0 = w.alloc (.cells #[.int .i64 (P : Int), .int .i64 (K : Int), .slice fa fn fc] 24)) := ⟨_, rfl⟩
  rw [← Hw0.out] at HFB
  have HB0 : Hid (Below w.heap.size w w0) := by rw [Hw0.out]; exact balloc _ _
  have hB00 : Below w0.heap.size w0 (w0.alloc (.cells #[.int .i64 0, .slice none 0 0] 29)) := balloc _ _
  obtain ⟨x0, x1, x2⟩ := HFB.out _ hB00
  rw [Hw0.out] at x0 x1 x2
  clear hl hG
  go_enter Tryd.func13, Tryd.ntmps13
  go_wp2_with (first
    | (go_at_call 25; refine (HSZ.out _).mono ?_; rintro e w1 ⟨rfl, b1⟩; clear HSZ; rw [← Hw0.out] at b1)
    | (go_at_call 35; refine (HTR.out _).mono ?_; rintro e w2 ⟨tv, rfl, hT2, b2⟩; clear HTR; have hB2 := Below.next b1 b2; obtain ⟨ta, tc, rfl⟩ := hT2.cap; have HT2 : Hid (OR w2 w1.heap.size (.slice ta T.length tc) T) := hT2; clear hT2))
  obtain ⟨tn, Htn⟩ : ∃ tn, Hid (T.length = tn) := ⟨_, rfl⟩
  rw [Htn.out] at HT2 HAT HTQ HDQ HPU hT125 ⊢
  obtain ⟨g, Hg⟩ : ∃ g, Hid (w2.heap.size = g) := ⟨_, rfl⟩
  have HBB : Hid (∀ W, Below g w2 W → Below w0.heap.size w0 W) := fun W h => (Below.next hB00 hB2).trans (h.mono (by rw [← Hg.out]; exact (Below.next hB00 hB2).size))
  have HGW : Hid (w.heap.size + 1 + 1 ≤ g) := (show w.heap.size + 1 + 1 ≤ g by
    have h1 := hB2.size
    rw [Hw0.out, World.size_alloc, World.size_alloc] at h1
    rw [← Hg.out]; exact h1)
  have HTW : Hid (∀ (W : World) (i : Nat), Below g w2 W → i < tn → ∃ tb rb rc, ta = some ⟨tb, 0, none⟩ ∧ tb < g ∧ W.cell? ⟨tb, i, none⟩ = some (.slice (some ⟨rb, 0, none⟩) 3 rc) ∧ ∀ k, k < 3 → W.cell? ⟨rb, k, none⟩ = some (.int .i64 (tA T i k : Int))) := fun W i hW hi => by
    obtain ⟨x, y, z, h, _⟩ := HAT.out i hi
    have hO := HT2.out.below (w' := W) (by rw [Hg.out]; exact hW)
    obtain ⟨tb, tc', rb, rc, e, k1, k2⟩ := hO.three' h
    simp only [Value.slice.injEq] at e
    have hlt : tb < g := by
      obtain ⟨tb', tc2, rb', rc', e', k1', _⟩ := HT2.out.three' h
      simp only [Value.slice.injEq] at e'
      have e3 := e.1.symm.trans e'.1
      simp only [Option.some.injEq, Addr.mk.injEq] at e3
      rw [e3.1, ← Hg.out]
      exact World.block_lt_of_cell? _ _ k1'
    exact ⟨tb, rb, rc, e.1, hlt, k1, k2⟩
  have hbx0 : (w2.alloc (.cells #[.int .i64 (tn : Int), .slice none 0 0] 29)).heap[g]? = some (.cells #[.int .i64 (tn : Int), .slice none 0 0] 29 (0, 0)) := by rw [← Hg.out]; exact heap_alloc_new w2 _
  have hb3 : Below g w2 (w2.alloc (.cells #[.int .i64 (tn : Int), .slice none 0 0] 29)) := by rw [← Hg.out]; exact balloc _ _
  have hs3 : g + 1 ≤ (w2.alloc (.cells #[.int .i64 (tn : Int), .slice none 0 0] 29)).heap.size := by rw [World.size_alloc, Hg.out]; exact Nat.le_refl _
  have HRES : Hid (∀ W, Below g w2 W → W.heap[w.heap.size + 1]? = some (.cells #[.int .i64 0, .slice none 0 0] 29 (0, 0))) := fun W hW => by
    have e0 : w0.heap.size = w.heap.size + 1 := by rw [Hw0.out]; simp
    have h1 := heap_alloc_new w0 (.cells #[.int .i64 0, .slice none 0 0] 29)
    rw [e0] at h1
    have h2 := (hB2.block (w.heap.size + 1) (by rw [World.size_alloc, e0]; omega)).trans h1
    exact (hW.block (w.heap.size + 1) (by have := HGW.out; omega)).trans h2
  clear x0 x1 x2 hB2 hB00 b1 b2
  rw [Hg.out]
  go_loopw [6] (fun iv wr => ∃ (i : Nat) (oa : Option Addr) (oc : Nat), iv = .int .i64 (i : Int) ∧ i ≤ tn ∧ wr.heap[g]? = some (.cells #[.int .i64 (tn : Int), .slice oa i oc] 29 (0, 0)) ∧ Hid (OR wr (g + 1) (.slice oa i oc) (PL i)) ∧ Below g w2 wr ∧ g + 1 ≤ wr.heap.size) (fun iv _ => (tn - intOf iv).toNat)
  case atStart => exact ⟨0, none, 0, rfl, by omega, hbx0, (show OR _ _ _ (PL 0) by rw [HP0.out]; exact OR.nil _ _), hb3, hs3⟩
  case round =>
    clear hbx0 hb3 hs3
    obtain ⟨i, oa, oc, rfl, hi, hbx, HOR, hB, hgs⟩ := hrel
    by_cases hlt : i < tn
    · have hdi : decide ((i : Int) < (tn : Int)) = true := by simp; omega
      have hii : (i : Int) < (tn : Int) := by omega
      obtain ⟨C, HC⟩ : ∃ C, Hid (wr.heap.size = C) := ⟨_, rfl⟩
      obtain ⟨wo, Hwo⟩ : ∃ wo, Hid (wo = wr) := ⟨_, rfl⟩
      have HBX : Hid (wo.heap[g]? = some (.cells #[.int .i64 (tn : Int), .slice oa i oc] 29 (0, 0))) := by rw [Hwo.out]; exact hbx
      have HOR2 : Hid (OR wo (g + 1) (.slice oa i oc) (PL i)) := (show OR wo (g + 1) (.slice oa i oc) (PL i) by rw [Hwo.out]; exact HOR.out)
      have HBO : Hid (Below g w2 wo) := by rw [Hwo.out]; exact hB
      have HCO : Hid (wo.heap.size = C) := by rw [Hwo.out]; exact HC.out
      have hCg : g + 1 ≤ C := by rw [← HC.out]; exact hgs
      have hw0 : Below C wo wr := by rw [Hwo.out]; exact Below.refl _ _
      have HG2 : Hid (∀ W, Below C wo W → Below g w2 W) := fun W h => HBO.out.trans (h.mono (by omega))
      have HSC : Hid (∀ W, Below C wo W → C ≤ W.heap.size) := fun W h => by rw [← HCO.out]; exact h.size
      obtain ⟨tb, rb0, rc0, rfl, htb, -⟩ := HTW.out wr i hB hlt
      have HTE : Hid (∀ (W : World) (j : Nat), Below g w2 W → j < tn → ∃ rb rc, W.cell? ⟨tb, j, none⟩ = some (.slice (some ⟨rb, 0, none⟩) 3 rc) ∧ ∀ k, k < 3 → W.cell? ⟨rb, k, none⟩ = some (.int .i64 (tA T j k : Int))) := fun W j hW hj => by
        obtain ⟨tb', rb, rc, e, _, k⟩ := HTW.out W j hW hj
        simp only [Option.some.injEq, Addr.mk.injEq] at e
        rw [← e.1] at k
        exact ⟨rb, rc, k⟩
      clear hbx HOR hB hgs htb
      go_wp2
      go_loopw [7, 8] (fun bv jv wr => ∃ (j : Nat) (ba : Option Addr) (bn bc : Nat), jv = .int .i64 (j : Int) ∧ j ≤ tn ∧ bv = .slice ba bn bc ∧ Hid ((LN i j).length = bn) ∧ Hid (ORow wr C (.slice ba bn bc) (LN i j)) ∧ Below C wo wr) (fun _ jv _ => (tn - intOf jv).toNat)
      case atStart => exact ⟨0, none, 0, 0, rfl, by omega, rfl, (show (LN i 0).length = 0 by rw [HL0.out]; rfl), (show ORow _ _ _ (LN i 0) by rw [HL0.out]; exact World.ownsRow_nil _ _ _ _), hw0⟩
      case round =>
        clear hw0
        obtain ⟨j, ba, bn, bc, rfl, hj, rfl, HBN, HBR, hB⟩ := hrel
        by_cases hlj : j < tn
        · have hdj : decide ((j : Int) < (tn : Int)) = true := by simp; omega
          have hji : (j : Int) < (tn : Int) := by omega
          obtain ⟨wm, Hwm⟩ : ∃ wm, Hid (wm = wr) := ⟨_, rfl⟩
          have HBM : Hid (Below C wo wm) := by rw [Hwm.out]; exact hB
          have HBR2 : Hid (ORow wm C (.slice ba bn bc) (LN i j)) := (show ORow wm C (.slice ba bn bc) (LN i j) by rw [Hwm.out]; exact HBR.out)
          have hw1 : Below wm.heap.size wm wr := by rw [Hwm.out]; exact Below.refl _ _
          clear hB HBR
          go_wp2
          go_loopw [9, 10] (fun sv kv wr => ∃ k : Nat, kv = .int .i64 (k : Int) ∧ k ≤ 3 ∧ sv = .int .i64 ((DT i j k : Nat) : Int) ∧ Below wm.heap.size wm wr) (fun _ kv _ => (3 - intOf kv).toNat)
          case atStart => exact ⟨0, rfl, by omega, by rw [HD0.out]; rfl, hw1⟩
          case round =>
            clear hw1
            obtain ⟨k, rfl, hk, rfl, hB⟩ := hrel
            by_cases hlk : k < 3
            · have hdk : decide ((k : Int) < 3) = true := by simp; omega
              have hki : (k : Int) < 3 := by omega
              have hBg : Below g w2 wr := HG2.out _ (HBM.out.trans (hB.mono (HSC.out _ HBM.out)))
              obtain ⟨ra, rca, ra0, ra1⟩ := HTE.out wr i hBg hlt
              obtain ⟨rb, rcb, rb0', rb1⟩ := HTE.out wr j hBg hlj
              have hak := ra1 k hlk
              have hbk := rb1 k hlk
              have haq := HTQ.out i k hlt hlk
              have hbq := HTQ.out j k hlj hlk
              have hdq := HDQ.out i j k hlt hlj (by omega)
              have hdt := HDT.out i j k
              obtain ⟨x, Hx⟩ : ∃ x, Hid (tA T i k = x) := ⟨_, rfl⟩
              obtain ⟨y, Hy⟩ : ∃ y, Hid (tA T j k = y) := ⟨_, rfl⟩
              rw [Hx.out] at hak haq hdt
              rw [Hy.out] at hbk hbq hdt
              have hmq := HML.out x y haq hbq
              obtain ⟨m, Hm⟩ : ∃ m, Hid (mu x y = m) := ⟨_, rfl⟩
              rw [Hm.out] at hmq hdt
              obtain ⟨d, Hd⟩ : ∃ d, Hid (DT i j k = d) := ⟨_, rfl⟩
              rw [Hd.out] at hdq hdt ⊢
              have HDK : Hid (DT i j (k + 1) = ad d m) := hdt
              have hS : Hid (∀ W, Below wr.heap.size wr W → W.cell? ⟨w.heap.size, 0, none⟩ = some (.int .i64 (P : Int)) ∧ W.cell? ⟨w.heap.size, 1, none⟩ = some (.int .i64 (K : Int)) ∧ W.cell? ⟨w.heap.size, 2, none⟩ = some (.slice fa fn fc) ∧ W.cell? ⟨tb, i, none⟩ = some (.slice (some ⟨ra, 0, none⟩) 3 rca) ∧ W.cell? ⟨tb, j, none⟩ = some (.slice (some ⟨rb, 0, none⟩) 3 rcb) ∧ W.cell? ⟨ra, k, none⟩ = some (.int .i64 (x : Int)) ∧ W.cell? ⟨rb, k, none⟩ = some (.int .i64 (y : Int))) := fun W hW => by
                obtain ⟨y0, y1, y2⟩ := HFB.out _ (Below.next (HBB.out _ hBg) hW)
                exact ⟨y0, y1, y2, (hW.cell (World.block_lt_of_cell? _ _ ra0)).trans ra0, (hW.cell (World.block_lt_of_cell? _ _ rb0')).trans rb0', (hW.cell (World.block_lt_of_cell? _ _ hak)).trans hak, (hW.cell (World.block_lt_of_cell? _ _ hbk)).trans hbk⟩
              have HBr : Hid (∀ W, Below wr.heap.size wr W → Below w.heap.size w W) := fun W hW => Below.next HB0.out (Below.next (HBB.out _ hBg) hW)
              have CA := fun W (hW : Below wr.heap.size wr W) => HTM.out W x y (HBr.out W hW) haq hbq
              have CB := fun W (hW : Below wr.heap.size wr W) => HSM.out W d m (HBr.out W hW) hdq hmq
              rw [Hm.out] at CA
              have hadq := HAL.out d m hdq hmq
              obtain ⟨s2, Hs2⟩ : ∃ s2, Hid (ad d m = s2) := ⟨_, rfl⟩
              rw [Hs2.out] at CB hadq HDK
              clear hdt ra0 rb0' ra1 rb1 hak hbk
              go_wp2
              have p0 : Below wr.heap.size wr wr := Below.refl _ _
              refine wp_region_noPanic ?_
              refine wp_region_held_drew (S := fun w_ => w_.cell? ⟨w.heap.size, 0, none⟩ = some (.int .i64 (P : Int)) ∧ w_.cell? ⟨w.heap.size, 1, none⟩ = some (.int .i64 (K : Int)) ∧ w_.cell? ⟨w.heap.size, 2, none⟩ = some (.slice fa fn fc) ∧ w_.cell? ⟨tb, i, none⟩ = some (.slice (some ⟨ra, 0, none⟩) 3 rca) ∧ w_.cell? ⟨tb, j, none⟩ = some (.slice (some ⟨rb, 0, none⟩) 3 rcb) ∧ w_.cell? ⟨ra, k, none⟩ = some (.int .i64 (x : Int)) ∧ w_.cell? ⟨rb, k, none⟩ = some (.int .i64 (y : Int))) (by kernel_rfl) (hS.out _ p0.drew) (fun hSx => ?_)
              refine wpAnyH_take (i := 0) (v := .agg #[.int .i64 (P : Int), .int .i64 (K : Int), .slice fa fn fc]) rfl (by kernel_rfl) (by kernel_rfl) (by kernel_rfl) (fun _ _ _ h => h) (Or.inl ⟨by rfl, fun w' hSw => by (try dsimp only at hSw); obtain ⟨hs0, hs1, hs2, hs3, hs4, hs5, hs6⟩ := hSw; go_simp⟩) hSx ?_
              try simp only [Act.put, List.setIfInBounds_toArray]
              refine wpAnyH_take (i := 1) (v := .slice (some ⟨tb, 0, none⟩) tn tc) rfl (by kernel_rfl) (by kernel_rfl) (by kernel_rfl) (fun _ _ _ h => h) (Or.inl ⟨by rfl, fun w' hSw => by (try dsimp only at hSw); obtain ⟨hs0, hs1, hs2, hs3, hs4, hs5, hs6⟩ := hSw; go_simp⟩) hSx ?_
              try simp only [Act.put]
              refine wpAnyH_take (i := 2) (v := .int .i64 (i : Int)) rfl (by kernel_rfl) (by kernel_rfl) (by kernel_rfl) (fun _ _ _ h => h) (Or.inl ⟨by rfl, fun w' hSw => by (try dsimp only at hSw); obtain ⟨hs0, hs1, hs2, hs3, hs4, hs5, hs6⟩ := hSw; go_simp⟩) hSx ?_
              try simp only [Act.put]
              refine wpAnyH_take (i := 3) (v := .pointer (some ⟨tb, i, none⟩)) rfl (by kernel_rfl) (by kernel_rfl) (by kernel_rfl) (fun _ _ _ h => h) (Or.inl ⟨by rfl, fun w' hSw => by (try dsimp only at hSw); obtain ⟨hs0, hs1, hs2, hs3, hs4, hs5, hs6⟩ := hSw; go_simp⟩) hSx ?_
              try simp only [Act.put]
              refine wpAnyH_take (i := 4) (v := .slice (some ⟨ra, 0, none⟩) 3 rca) rfl (by kernel_rfl) (by kernel_rfl) (by kernel_rfl) (fun _ _ _ h => h) (Or.inl ⟨by rfl, fun w' hSw => by (try dsimp only at hSw); obtain ⟨hs0, hs1, hs2, hs3, hs4, hs5, hs6⟩ := hSw; go_simp⟩) hSx ?_
              try simp only [Act.put]
              refine wpAnyH_take (i := 5) (v := .int .i64 (k : Int)) rfl (by kernel_rfl) (by kernel_rfl) (by kernel_rfl) (fun _ _ _ h => h) (Or.inl ⟨by rfl, fun w' hSw => by (try dsimp only at hSw); obtain ⟨hs0, hs1, hs2, hs3, hs4, hs5, hs6⟩ := hSw; go_simp⟩) hSx ?_
              try simp only [Act.put]
              refine wpAnyH_take (i := 6) (v := .pointer (some ⟨ra, k, none⟩)) rfl (by kernel_rfl) (by kernel_rfl) (by kernel_rfl) (fun _ _ _ h => h) (Or.inl ⟨by rfl, fun w' hSw => by (try dsimp only at hSw); obtain ⟨hs0, hs1, hs2, hs3, hs4, hs5, hs6⟩ := hSw; go_simp⟩) hSx ?_
              try simp only [Act.put]
              refine wpAnyH_take (i := 7) (v := .int .i64 (x : Int)) rfl (by kernel_rfl) (by kernel_rfl) (by kernel_rfl) (fun _ _ _ h => h) (Or.inl ⟨by rfl, fun w' hSw => by (try dsimp only at hSw); obtain ⟨hs0, hs1, hs2, hs3, hs4, hs5, hs6⟩ := hSw; go_simp⟩) hSx ?_
              try simp only [Act.put]
              refine wpAnyH_take (i := 8) (v := .slice (some ⟨tb, 0, none⟩) tn tc) rfl (by kernel_rfl) (by kernel_rfl) (by kernel_rfl) (fun _ _ _ h => h) (Or.inl ⟨by rfl, fun w' hSw => by (try dsimp only at hSw); obtain ⟨hs0, hs1, hs2, hs3, hs4, hs5, hs6⟩ := hSw; go_simp⟩) hSx ?_
              try simp only [Act.put]
              refine wpAnyH_take (i := 9) (v := .int .i64 (j : Int)) rfl (by kernel_rfl) (by kernel_rfl) (by kernel_rfl) (fun _ _ _ h => h) (Or.inl ⟨by rfl, fun w' hSw => by (try dsimp only at hSw); obtain ⟨hs0, hs1, hs2, hs3, hs4, hs5, hs6⟩ := hSw; go_simp⟩) hSx ?_
              try simp only [Act.put]
              refine wpAnyH_take (i := 10) (v := .pointer (some ⟨tb, j, none⟩)) rfl (by kernel_rfl) (by kernel_rfl) (by kernel_rfl) (fun _ _ _ h => h) (Or.inl ⟨by rfl, fun w' hSw => by (try dsimp only at hSw); obtain ⟨hs0, hs1, hs2, hs3, hs4, hs5, hs6⟩ := hSw; go_simp⟩) hSx ?_
              try simp only [Act.put]
              refine wpAnyH_take (i := 11) (v := .slice (some ⟨rb, 0, none⟩) 3 rcb) rfl (by kernel_rfl) (by kernel_rfl) (by kernel_rfl) (fun _ _ _ h => h) (Or.inl ⟨by rfl, fun w' hSw => by (try dsimp only at hSw); obtain ⟨hs0, hs1, hs2, hs3, hs4, hs5, hs6⟩ := hSw; go_simp⟩) hSx ?_
              try simp only [Act.put]
              refine wpAnyH_take (i := 12) (v := .int .i64 (k : Int)) rfl (by kernel_rfl) (by kernel_rfl) (by kernel_rfl) (fun _ _ _ h => h) (Or.inl ⟨by rfl, fun w' hSw => by (try dsimp only at hSw); obtain ⟨hs0, hs1, hs2, hs3, hs4, hs5, hs6⟩ := hSw; go_simp⟩) hSx ?_
              try simp only [Act.put]
              refine wpAnyH_take (i := 13) (v := .pointer (some ⟨rb, k, none⟩)) rfl (by kernel_rfl) (by kernel_rfl) (by kernel_rfl) (fun _ _ _ h => h) (Or.inl ⟨by rfl, fun w' hSw => by (try dsimp only at hSw); obtain ⟨hs0, hs1, hs2, hs3, hs4, hs5, hs6⟩ := hSw; go_simp⟩) hSx ?_
              try simp only [Act.put]
              refine wpAnyH_take (i := 14) (v := .int .i64 (y : Int)) rfl (by kernel_rfl) (by kernel_rfl) (by kernel_rfl) (fun _ _ _ h => h) (Or.inl ⟨by rfl, fun w' hSw => by (try dsimp only at hSw); obtain ⟨hs0, hs1, hs2, hs3, hs4, hs5, hs6⟩ := hSw; go_simp⟩) hSx ?_
              try simp only [Act.put]
              refine wpAnyH_ready (rs := [15]) (by kernel_rfl) (by simp) ?_
              refine (AllReadyH.cons rfl (fun J hJ => ?_) AllReadyH.nil)
              go_simp
              refine (CA _ p0.drew).mono ?_
              rintro e v1 ⟨rfl, bv1⟩
              have p1 : Below wr.heap.size wr v1 := Below.next p0.drew bv1
              go_wp2_with fail
              refine hJ.out _ _ (hS.out _ p1) (fun hSx => ?_)
              clear hJ J
              try simp only [Act.put, List.setIfInBounds_toArray, List.set_cons_zero, List.set_cons_succ]
              refine wpAnyH_ready (rs := [16]) (by kernel_rfl) (by simp) ?_
              refine (AllReadyH.cons rfl (fun J hJ => ?_) AllReadyH.nil)
              go_simp
              refine hJ.out _ _ (hS.out _ p1) (fun hSx => ?_)
              clear hJ J
              try simp only [Act.put, List.setIfInBounds_toArray, List.set_cons_zero, List.set_cons_succ]
              refine wpAnyH_done (by kernel_rfl) ?_ _
              refine NoPanic.normal ?_
              obtain ⟨y0, y1, y2, -⟩ := hS.out _ p1
              have CB1 := CB _ p1
              clear hSx CA CB hS
              go_wp2_with (go_at_call 37; refine CB1.mono ?_; rintro e v2 ⟨rfl, bv2⟩; clear CB1)
              go_roundw
              case rel => exact ⟨k + 1, by go_num, by omega, by rw [HDK.out], Below.next hB (Below.next p1 bv2)⟩
              case measure => simp [intOf]; omega
            · have hdk : decide ((k : Int) < 3) = false := by simp; omega
              obtain rfl : k = 3 := by omega
              have hB2 : Below C wo wr := HBM.out.trans (hB.mono (HSC.out _ HBM.out))
              have hsz := HSC.out _ hB2
              have HBR3 : Hid (ORow wr C (.slice ba bn bc) (LN i j)) := HBR2.out.below hB
              have hlu := HLU.out i j
              have hll := HLL.out i j
              rw [HBN.out] at hll
              obtain ⟨d, Hd⟩ : ∃ d, Hid (DT i j 3 = d) := ⟨_, rfl⟩
              rw [Hd.out] at hlu ⊢
              have HU : Hid (LN i (j + 1) = LN i j ++ (if (d == 0) = true then [j] else [])) := hlu
              clear hlu
              by_cases hd0 : d = 0
              · subst hd0
                have HU2 : Hid (LN i (j + 1) = LN i j ++ [j]) := (show LN i (j + 1) = LN i j ++ [j] by rw [HU.out]; rfl)
                have hown : wr.ownsRow C 3 1 (.slice ba bn bc) bn (((LN i j).map Int.ofNat).map (Value.int .i64)) := by
                  have h := HBR3.out
                  unfold ORow at h
                  rwa [HBN.out] at h
                clear HU
                go_wp2_with (first
                  | (at_builtin; refine wpList_append_own _ rfl _ _ 22 rfl C 3 i3 (.int .i64 0) 1 8 und22 hi3 hz0 hz1 hz2 rfl (by decide) _ _ _ rfl (hown.alloc _) ⟨wr.heap.size, 0, none⟩ 1 1 [.int .i64 (j : Int)] rfl rfl (fun j u hj => by (match j, hj with | 0, hj => simp at hj; subst hj; simp [Addr.add])) (fun u hu => by (simp at hu; subst hu; rfl)) (by (unfold maxLen; omega)) (by omega) (by (simp; omega)) ?_; intro v' w8 hown' hgrow _
                     have hb8 : Below C wo w8 := (hB2.alloc hsz _).grown hgrow (by simp; omega) (fun k hk => (hown.lt k hk).1)
                     obtain ⟨va', vc', rfl⟩ := own_form2 hown'
                     have HO8 : Hid (ORow w8 C (.slice va' (bn + 1) vc') (LN i (j + 1))) := (show ORow w8 C (.slice va' (bn + 1) vc') (LN i (j + 1)) by unfold ORow; rw [HU2.out, List.length_append, HBN.out, List.map_append, List.map_append]; exact hown')
                     have HL8 : Hid ((LN i (j + 1)).length = bn + 1) := (show (LN i (j + 1)).length = bn + 1 by rw [HU2.out, List.length_append, HBN.out]; rfl)
                     clear hown hgrow hown')
                  | go_in)
                go_roundw
                case rel => exact ⟨j + 1, va', bn + 1, vc', by go_num, by omega, rfl, HL8, HO8, hb8⟩
                case measure => simp [intOf]; omega
              · have hd1 : ((d : Int) == 0) = false := by simp; omega
                have hd2 : ¬ (d : Int) = 0 := by omega
                have HU2 : Hid (LN i (j + 1) = LN i j) := (show LN i (j + 1) = LN i j by rw [HU.out, if_neg (by simpa using hd0), List.append_nil])
                have HO8 : Hid (ORow wr C (.slice ba bn bc) (LN i (j + 1))) := (show ORow wr C (.slice ba bn bc) (LN i (j + 1)) by rw [HU2.out]; exact HBR3.out)
                have HL8 : Hid ((LN i (j + 1)).length = bn) := (show (LN i (j + 1)).length = bn by rw [HU2.out]; exact HBN.out)
                clear HU
                go_wp2
                go_roundw
                case rel => exact ⟨j + 1, ba, bn, bc, by go_num, by omega, rfl, HL8, HO8, hB2⟩
                case measure => simp [intOf]; omega
        · have hdj : decide ((j : Int) < (tn : Int)) = false := by simp; omega
          obtain rfl : j = tn := by omega
          have hgl : g < C := by omega
          have hbx : wr.heap[g]? = some (.cells #[.int .i64 (j : Int), .slice oa i oc] 29 (0, 0)) := (hB.block g hgl).trans HBX.out
          have hO : OR wr (g + 1) (.slice oa i oc) (PL i) := HOR2.out.below (by rw [HCO.out]; exact hB)
          have hsz : C ≤ wr.heap.size := HSC.out _ hB
          have y1 : wr.cell? ⟨g, 1, none⟩ = some (.slice oa i oc) := by rw [cell_of_row wr g 1 _ _ _ hbx]; rfl
          obtain ⟨vals, h1, h2⟩ := hO
          have hpl := HPL.out i
          have H1 : Hid (wr.ownsRow (g + 1) 22 1 (.slice oa i oc) (PL i).length vals) := h1
          have H2 : Hid (∀ (m : Nat) (u : Value) (l : List Nat), vals[m]? = some u → (PL i)[m]? = some l → ORow wr (g + 1) u l) := h2
          have HRB : Hid (ORow wr (g + 1) (.slice ba bn bc) (LN i j)) := (show ORow wr (g + 1) (.slice ba bn bc) (LN i j) from ⟨HBR.out.1, HBR.out.2.imp id fun ⟨g', c', cur, e, hb, r⟩ => ⟨g', c', cur, e, Nat.le_trans hCg hb, r⟩⟩)
          rw [hpl] at h1
          have HBg : Hid (Below g w2 wr) := HG2.out _ hB
          have HFIN : Hid (∀ (v' : Value) (w8 : World), w8.ownsRow (g + 1) 22 1 v' (i + 1) (vals ++ [.slice ba bn bc]) → (wr.alloc (.cells #[.slice ba bn bc] 22)).grownBy w8 (Value.slice oa i oc).ownBlock → w8.cell? ⟨g, 1, none⟩ = some (.slice oa i oc) ∧ w8.frozen? ⟨g, 1, none⟩ = false ∧ (w8.setCell ⟨g, 1, none⟩ v').heap[g]? = some (.cells #[.int .i64 (j : Int), v'] 29 (0, 0)) ∧ OR (w8.setCell ⟨g, 1, none⟩ v') (g + 1) v' (PL (i + 1)) ∧ Below g w2 (w8.setCell ⟨g, 1, none⟩ v') ∧ g + 1 ≤ (w8.setCell ⟨g, 1, none⟩ v').heap.size) := fun v' w8 k1 k2 => by
            have bal := balloc wr (.cells #[.slice ba bn bc] 22)
            have hgn : (Value.slice oa i oc).ownBlock ≠ some g := fun e => by have := (H1.out.lt g e).1; omega
            have hbx8 : w8.heap[g]? = some (.cells #[.int .i64 (j : Int), .slice oa i oc] 29 (0, 0)) := (k2.block g (by rw [World.size_alloc]; omega) (fun e => hgn e.symm)).trans ((bal.block g (by omega)).trans hbx)
            have hO8 : OR w8 (g + 1) v' (PL i ++ [LN i j]) := OR.more (own_keep H1.out fun b _ hb => bal.block b hb) (fun m u l e1 e2 => (H2.out m u l e1 e2).below bal) (HRB.out.below bal) (by rw [hpl]; exact k1) k2
            have hb8 : Below g w2 w8 := (HBg.out.alloc (Nat.le_trans (by omega) hsz) _).grown k2 (by rw [World.size_alloc]; omega) (fun k hk => Nat.le_trans (by omega) (H1.out.lt k hk).1)
            have hs8 := k2.size
            rw [World.size_alloc] at hs8
            refine ⟨by rw [cell_of_row w8 g 1 _ _ _ hbx8]; rfl, frozen_of_row w8 g 1 _ _ hbx8, ?_, ?_, hb8.setCell (p := ⟨g, 1, none⟩) (Nat.le_refl _) _, ?_⟩
            · have := heap_setCell_same w8 g 1 _ _ v' hbx8
              simpa using this
            · rw [HPU.out]
              exact hO8.keep fun b hb _ => heap_setCell_other w8 ⟨g, 1, none⟩ b v' (by show b ≠ g; omega)
            · have : (w8.setCell ⟨g, 1, none⟩ v').heap.size = w8.heap.size := by simp
              omega
          clear h2 hbx HBR HBX HOR2 HBO HCO
          go_wp2_with (first
            | (at_builtin; refine wpList_append_own _ rfl _ _ 27 rfl (g + 1) 22 i27 (.slice none 0 0) 1 24 undR ji3 jz0 jz1 jz2 rfl (by decide) _ _ _ rfl (h1.alloc _) ⟨wr.heap.size, 0, none⟩ 1 1 [.slice ba bn bc] rfl rfl (fun j u hj => by (match j, hj with | 0, hj => simp at hj; subst hj; simp [Addr.add])) (fun u hu => by (simp at hu; subst hu; rfl)) (by (unfold maxLen; omega)) (by omega) (by (simp; omega)) ?_; intro v' w8 hown' hgrow _
               obtain ⟨f1, f2, f3⟩ := HFIN.out v' w8 hown' hgrow
               obtain ⟨va', vc', rfl⟩ := own_form2 hown'
               have HF3 : Hid ((w8.setCell ⟨g, 1, none⟩ (.slice va' (i + 1) vc')).heap[g]? = some (.cells #[.int .i64 (j : Int), .slice va' (i + 1) vc'] 29 (0, 0)) ∧ OR (w8.setCell ⟨g, 1, none⟩ (.slice va' (i + 1) vc')) (g + 1) (.slice va' (i + 1) vc') (PL (i + 1)) ∧ Below g w2 (w8.setCell ⟨g, 1, none⟩ (.slice va' (i + 1) vc')) ∧ g + 1 ≤ (w8.setCell ⟨g, 1, none⟩ (.slice va' (i + 1) vc')).heap.size) := f3
               clear f3 hown' hgrow h1 HFIN)
            | go_in)
          go_roundw
          case rel =>
            obtain ⟨g1, g2, g3, g4⟩ := HF3.out
            exact ⟨i + 1, va', vc', by go_num, by omega, g1, g2, g3, g4⟩
          case measure => simp [intOf]; omega
    · have hdi : decide ((i : Int) < (tn : Int)) = false := by simp; omega
      obtain rfl : i = tn := by omega
      have y0 : wr.cell? ⟨g, 0, none⟩ = some (.int .i64 (i : Int)) := by rw [cell_of_row wr g 0 _ _ _ hbx]; rfl
      have y1 : wr.cell? ⟨g, 1, none⟩ = some (.slice oa i oc) := by rw [cell_of_row wr g 1 _ _ _ hbx]; rfl
      have hres := HRES.out _ hB
      have hgw := HGW.out
      have HFO : Hid (OR (wr.setRow (w.heap.size + 1) #[.int .i64 (i : Int), .slice oa i oc]) w.heap.size (.slice oa i oc) (PL i)) := (show OR _ _ _ _ by
        have h := HOR.out.keep (w' := wr.setRow (w.heap.size + 1) #[.int .i64 (i : Int), .slice oa i oc]) fun b hb _ => setRow_other wr (w.heap.size + 1) b _ (by omega)
        obtain ⟨vals, h1, h2⟩ := h
        exact ⟨vals, ⟨h1.1, h1.2.imp id fun ⟨g', c', cur, e, hb, r⟩ => ⟨g', c', cur, e, by omega, r⟩⟩, fun m u l e1 e2 => by
          have hr := h2 m u l e1 e2
          exact ⟨hr.1, hr.2.imp id fun ⟨g', c', cur, e, hb, r⟩ => ⟨g', c', cur, e, by omega, r⟩⟩⟩)
      have HFB2 : Hid (Below w.heap.size w (wr.setRow (w.heap.size + 1) #[.int .i64 (i : Int), .slice oa i oc])) := (show Below _ _ _ from bsetRw' (Below.next HB0.out (HBB.out _ hB)) (by omega) _)
      have hres2 : (wr.setRow (w.heap.size + 1) #[.int .i64 (i : Int), .slice oa i oc]).heap[w.heap.size + 1]? = some (.cells #[.int .i64 (i : Int), .slice oa i oc] 29 (0, 0)) := setRow_heap _ _ _ _ _ _ hres
      have r0 : (wr.setRow (w.heap.size + 1) #[.int .i64 (i : Int), .slice oa i oc]).cell? ⟨w.heap.size + 1, 0, none⟩ = some (.int .i64 (i : Int)) := by rw [cell_of_row _ _ 0 _ _ _ hres2]; rfl
      have r1 : (wr.setRow (w.heap.size + 1) #[.int .i64 (i : Int), .slice oa i oc]).cell? ⟨w.heap.size + 1, 1, none⟩ = some (.slice oa i oc) := by rw [cell_of_row _ _ 1 _ _ _ hres2]; rfl
      clear HOR hbx
      go_wp2_with (refine wpList_store_row rfl 29 _ _ rfl (w.heap.size + 1) #[.int .i64 (i : Int), .slice oa i oc] rfl rfl 29 _ hres (inf24' _ _) rfl (one2s _ _ _ _) ?_)
      exact bodyPost_ret (v := .agg #[.int .i64 (i : Int), .slice oa i oc]) (by simp [results, Tryd.results13, go_sem, r0, r1]) rfl ⟨.slice oa i oc, by rw [Htn.out], by rw [Htn.out]; exact HFO.out, HFB2.out⟩

end Go.Proofs.YtgpkhfpejopacaaDoor
