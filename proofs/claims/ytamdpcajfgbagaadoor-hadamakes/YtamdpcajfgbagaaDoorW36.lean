/- The walk of open: a field is looked at, and elements of it. -/
import Derived.Test.YtamdpcajfgbagaaDoorW52
import Derived.Test.YtamdpcajfgbagaaDoorW40
import Derived.Test.YtamdpcajfgbagaaDoorW42
import Derived.Test.YtamdpcajfgbagaaDoorW16
namespace Go.Proofs.YtamdpcajfgbagaaDoor.Fd
open Go.RowKit

/-- The cells of a field that has been looked at. -/
def ringRow (p k q : Int) (f : Nat → Int) : Array Value := #[.int .i64 p, .int .i64 k, .int .i64 q, .int .i64 (f 0), .int .i64 (f 1), .int .i64 (f 2), .int .i64 (f 3), .int .i64 (f 4), .int .i64 (f 5), .int .i64 (f 6), .int .i64 (f 7), .int .i64 (f 8), .int .i64 (f 9), .int .i64 (f 10)]
def RB (w : World) (g : Nat) (p k q : Int) (f : Nat → Int) : Prop := w.heap[g]? = some (.cells (ringRow p k q f) 66 (0, 0))
theorem RB.lt {w : World} {g : Nat} {p k q : Int} {f : Nat → Int} (h : RB w g p k q f) : g < w.heap.size := (Array.getElem?_eq_some_iff.1 h).1
theorem RB.below {w w' : World} {g : Nat} {p k q : Int} {f : Nat → Int} (h : RB w g p k q f) (hb : Below w.heap.size w w') : RB w' g p k q f := (hb.block g h.lt).trans h
theorem RB.drew {w : World} {g : Nat} {p k q : Int} {f : Nat → Int} (h : RB w g p k q f) : RB w.drew g p k q f := h
theorem RB.made (w : World) (p k q : Int) (f : Nat → Int) : RB (w.alloc (.cells (ringRow p k q f) 66)) w.heap.size p k q f := heap_alloc_new w _
theorem RB.whole {w : World} {g : Nat} {p k q : Int} {f : Nat → Int} (h : RB w g p k q f) (p' k' q' : Int) (f' : Nat → Int) : RB (w.setRow g (ringRow p' k' q' f')) g p' k' q' f' := setRow_heap w g _ _ _ _ h
set_option maxRecDepth 100000 in
theorem inf53 (p k q : Int) (f : Nat → Int) : (Tryd.prog.info? 66).map (·.size) = some (ringRow p k q f).size := by kernel_rfl
theorem ringRow_one (p k q : Int) (f : Nat → Int) : (ringRow p k q f).all (·.oneCell') = true := by
  have h1 : ∀ z : Int, (Value.int .i64 z).oneCell' = true := fun _ => rfl
  simp [ringRow, h1]
set_option maxRecDepth 100000 in
theorem und53 : ∃ fs, Tryd.prog.underlying 66 = some (.struct fs) := by
  have h : (match Tryd.prog.underlying 66 with | some (.struct _) => true | _ => false) = true := by kernel_rfl
  split at h
  · exact ⟨_, by assumption⟩
  · cases h
set_option maxRecDepth 100000 in
theorem post_ring {fn : Func} {R : Ending → World → Prop} {a : Act} {w : World} {g : Nat} {p k q : Int} {f : Nat → Int} {z : Int} (hres : fn.results = #[.cell 4 66, .tmp 5])
    (hp : a.tmps.getD 4 undef = .pointer (some ⟨g, 0, none⟩)) (hz : a.tmps.getD 5 undef = .int .i64 z) (hr : RB w g p k q f) (hd : a.defers = []) (hR : R (.returned (.tuple #[.agg (ringRow p k q f), .int .i64 z])) w) : bodyPost Tryd.prog fn R .ret a w := by
  obtain ⟨fs, hu⟩ := und53
  refine bodyPost_ret ?_ hd hR
  have hp' : a.tmps[4]?.getD undef = .pointer (some ⟨g, 0, none⟩) := by simpa using hp
  have hz' : a.tmps[5]?.getD undef = .int .i64 z := by simpa using hz
  simp [results, hres, hp', hz', asAddr, run_loadVar_row w g 66 66 (ringRow p k q f) (0, 0) _ hr hu rfl (inf53 p k q f)]

/-- What open is to tell of a field and elements. -/
def OpenIs (p k : Int) (l es : List Int) (z : Int) : Prop :=
  (z ≠ 0 ∧ FaultIs p k l z) ∨ (FaultIs p k l 0 ∧ ¬ inL (ordZ p k) es ∧ z = 1) ∨ (FaultIs p k l 0 ∧ inL (ordZ p k) es ∧ z = 0)

set_option maxRecDepth 100000 in
set_option maxHeartbeats 1000000 in
theorem open_any (p k : Int) (l es : List Int) (v u : Value) (w : World) (hT : Tab w) (hl : Sl w v l) (he : Sl w u es) (hll : l.length ≤ maxLen) (hel : es.length ≤ maxLen) :
    Calls Tryd.prog 39 #[.agg #[.int .i64 p, .int .i64 k, v], u] w fun e w' => ∃ (z a b c : Int) (f : Nat → Int), e = .returned (.tuple #[.agg (ringRow a b c f), .int .i64 z]) ∧ OpenIs p k l es z ∧ Hid (z = 0 → a = p ∧ b = k ∧ c = ordZ p k ∧ f = monL l) ∧ Below w.heap.size w w' := by
  obtain ⟨A, ca, rfl, _⟩ := id hl
  have hF0 : FB ((w.alloc (.cells #[.int .i64 p, .int .i64 k, .slice A l.length ca] 51)).alloc (.cells #[.int .i64 0, .int .i64 0, .int .i64 0, .int .i64 0, .int .i64 0, .int .i64 0, .int .i64 0, .int .i64 0, .int .i64 0, .int .i64 0, .int .i64 0, .int .i64 0, .int .i64 0, .int .i64 0] 66)) w.heap.size p k (.slice A l.length ca) := (FB.made w p k _).below ((Below.refl _ _).alloc (Nat.le_refl _) _)
  have hR0 : RB ((w.alloc (.cells #[.int .i64 p, .int .i64 k, .slice A l.length ca] 51)).alloc (.cells #[.int .i64 0, .int .i64 0, .int .i64 0, .int .i64 0, .int .i64 0, .int .i64 0, .int .i64 0, .int .i64 0, .int .i64 0, .int .i64 0, .int .i64 0, .int .i64 0, .int .i64 0, .int .i64 0] 66)) (w.heap.size + 1) 0 0 0 (fun _ => 0) := by
    have h := RB.made (w.alloc (.cells #[.int .i64 p, .int .i64 k, .slice A l.length ca] 51)) 0 0 0 (fun _ => 0)
    simpa [ringRow] using h
  have hB0 : Below w.heap.size w ((w.alloc (.cells #[.int .i64 p, .int .i64 k, .slice A l.length ca] 51)).alloc (.cells #[.int .i64 0, .int .i64 0, .int .i64 0, .int .i64 0, .int .i64 0, .int .i64 0, .int .i64 0, .int .i64 0, .int .i64 0, .int .i64 0, .int .i64 0, .int .i64 0, .int .i64 0, .int .i64 0] 66)) := ((Below.refl _ _).alloc (Nat.le_refl _) _).alloc (by simp) _
  by_cases h0 : ordZ p k = 0
  · have HO : Hid (ordZ p k = 0) := h0
    have hbb : (ordZ p k == 0) = true := by simp [h0]
    clear h0
    go_enter Tryd.func39, Tryd.ntmps39
    go_wp2_with (go_at_call 35; refine (order_any p k _ ((hT.alloc _).alloc _)).mono ?_; rintro e w' ⟨rfl, rfl⟩)
    exact post_ring rfl rfl rfl hR0 rfl ⟨1, 0, 0, 0, fun _ => 0, rfl, .inl ⟨by decide, .inl ⟨HO.out, rfl⟩⟩, (fun h => absurd h (by decide) : (1 : Int) = 0 → _), hB0⟩
  · obtain ⟨P, K, rfl, rfl, hP, hP', hK, hK', hPK, hq⟩ := ord_nat h0
    have HN0 : Hid (ordZ (P : Int) K ≠ 0) := h0
    obtain ⟨Q, HQ⟩ : ∃ Q : Nat, Hid (Q = P ^ K) := ⟨_, rfl⟩
    rw [← HQ.out] at hq
    have hQ64 : Q ≤ 64 := by rw [HQ.out]; exact hPK
    have hQ0 : 0 < Q := by rw [HQ.out]; exact Nat.pow_pos (by omega)
    have hbb : ((Q : Int) == 0) = false := by simp; omega
    have HQZ : Hid (ordZ (P : Int) K = Q) := hq
    clear h0
    by_cases h1 : (l.length : Int) = K
    · have hlK : l.length = K := by omega
      rw [hlK] at hl hF0 hR0 hB0
      rw [hlK]
      have hsl0 := hl.below hB0
      have hel0 := he.below hB0
      have hne : ((K : Int) != K) = false := by simp
      cases hin : inLB (P : Int) l
      · have HIN : Hid (¬ inL (P : Int) l) := fun h => by rw [(inLB_iff _ _).2 h] at hin; cases hin
        go_enter Tryd.func39, Tryd.ntmps39
        go_wp2_with (go_at_call 35; refine (order_any P K _ ((hT.alloc _).alloc _)).mono ?_; rintro e w' ⟨rfl, rfl⟩)
        refine (allBelow_any l _ P _ hsl0 hll).mono ?_
        rintro e w' ⟨rfl, rfl⟩
        go_wp2
        exact post_ring rfl rfl rfl hR0 rfl ⟨1, 0, 0, 0, fun _ => 0, rfl, .inl ⟨by decide, .inr (.inr (.inl ⟨HN0.out, by omega, HIN.out, rfl⟩))⟩, (fun h => absurd h (by decide) : (1 : Int) = 0 → _), hB0⟩
      · have HIN : Hid (inL (P : Int) l) := (inLB_iff _ _).1 hin
        have hmin := monL_in (l := l) (p := (P : Int)) (by omega) HIN.out
        go_enter Tryd.func39, Tryd.ntmps39
        go_wp2_with (go_at_call 35; refine (order_any P K _ ((hT.alloc _).alloc _)).mono ?_; rintro e w' ⟨rfl, rfl⟩)
        refine (allBelow_any l _ P _ hsl0 hll).mono ?_
        rintro e w' ⟨rfl, rfl⟩
        go_wp2_with fail
        refine (monic_any l K _ _ hsl0 hlK hK (by omega)).mono ?_
        rintro e w1 ⟨rfl, hb1⟩
        have hF1 := hF0.below hb1
        have hR1 := hR0.below hb1
        have hel1 := hel0.below hb1
        have hB1 : Below w.heap.size w w1 := hB0.trans (hb1.mono hB0.size)
        have hFc1 := hF1.cells
        have hFl := hR1.lt
        have hnew := Row.made0 w1
        have hbA : Below w1.heap.size w1 ((w1.alloc (.cells #[.int .i64 0, .int .i64 0, .int .i64 0, .int .i64 0, .int .i64 0, .int .i64 0, .int .i64 0, .int .i64 0, .int .i64 0, .int .i64 0, .int .i64 0] 61)).setRow w1.heap.size (prow (monL l))) := bsetRow ((Below.refl _ _).alloc (Nat.le_refl _) _) (Nat.le_refl _) _
        have hFcA := (hF1.below hbA).cells
        go_wp2_with (first
          | (refine wpList_store_row rfl 61 _ _ rfl w1.heap.size (prow (monL l)) rfl rfl 61 _ hnew (inf51 _) (by simp) (prow_one _) ?_)
          | (refine wpList_load_row rfl 61 _ rfl w1.heap.size rfl 61 _ (0, 0) _ (hnew.whole (monL l)) und51 rfl (inf51 _) ?_))
        refine (irreducible_any (monL l) K P _ hP (by omega) hK hPK hmin).mono ?_
        rintro e w2 ⟨r, rfl, hr, hb2⟩
        have hF2 := (hF1.below hbA).below hb2
        have hR2 := (hR1.below hbA).below hb2
        have hM2 := (hnew.whole (monL l)).below hb2
        have hel2 := (hel1.below hbA).below hb2
        have hBA : Below w.heap.size w ((w1.alloc (.cells #[.int .i64 0, .int .i64 0, .int .i64 0, .int .i64 0, .int .i64 0, .int .i64 0, .int .i64 0, .int .i64 0, .int .i64 0, .int .i64 0, .int .i64 0] 61)).setRow w1.heap.size (prow (monL l))) := hB1.trans (hbA.mono hB1.size)
        have hB2 : Below w.heap.size w w2 := hBA.trans (hb2.mono hBA.size)
        have hFc2 := hF2.cells
        have HR : Hid (r = true ↔ irrP (monL l) K P) := hr
        clear hr hnew hbA hBA hFcA hFc1 hF0 hR0 hF1 hR1 hel0 hel1 hB0 hb1 hb2 hsl0 hin
        cases r
        · go_wp2_with (first
            | (refine wpList_store_row rfl 66 _ _ rfl (w.heap.size + 1) (ringRow 0 0 0 fun _ => 0) rfl rfl 66 _ hR2 (inf53 _ _ _ _) rfl (ringRow_one _ _ _ _) ?_))
          refine post_ring rfl rfl rfl (hR2.whole 0 0 0 fun _ => 0) rfl ⟨4, 0, 0, 0, fun _ => 0, rfl, .inl ⟨by decide, .inr (.inr (.inr (.inl ⟨HN0.out, by omega, HIN.out, fun h => ?_, rfl⟩)))⟩, (fun h => absurd h (by decide) : (4 : Int) = 0 → _), bsetRow hB2 (by omega) _⟩
          rw [Int.toNat_natCast, Int.toNat_natCast] at h
          exact absurd (HR.out.2 h) Bool.false_ne_true
        · have hirr : irrP (monL l) K P := HR.out.1 rfl
          have HF : Hid (FaultIs (P : Int) K l 0) := .inr (.inr (.inr (.inr ⟨HN0.out, by omega, HIN.out, by rw [Int.toNat_natCast, Int.toNat_natCast]; exact hirr, rfl⟩)))
          clear hirr
          go_wp2_with fail
          refine (allBelow_any es u Q _ hel2 hel).mono ?_
          rintro e w' ⟨rfl, rfl⟩
          cases hes : inLB (Q : Int) es
          · go_wp2_with (first
              | (refine wpList_store_row rfl 66 _ _ rfl (w.heap.size + 1) (ringRow 0 0 0 fun _ => 0) rfl rfl 66 _ hR2 (inf53 _ _ _ _) rfl (ringRow_one _ _ _ _) ?_))
            refine post_ring rfl rfl rfl (hR2.whole 0 0 0 fun _ => 0) rfl ⟨1, 0, 0, 0, fun _ => 0, rfl, .inr (.inl ⟨HF.out, fun h => ?_, rfl⟩), (fun h => absurd h (by decide) : (1 : Int) = 0 → _), bsetRow hB2 (by omega) _⟩
            rw [HQZ.out] at h
            rw [(inLB_iff _ _).2 h] at hes
            cases hes
          · go_wp2_with (first
              | (refine wpList_load_row rfl 61 _ rfl w1.heap.size rfl 61 #[.int .i64 (monL l 0), .int .i64 (monL l 1), .int .i64 (monL l 2), .int .i64 (monL l 3), .int .i64 (monL l 4), .int .i64 (monL l 5), .int .i64 (monL l 6), .int .i64 (monL l 7), .int .i64 (monL l 8), .int .i64 (monL l 9), .int .i64 (monL l 10)] (0, 0) _ hM2 und51 rfl (inf51 (monL l)) ?_)
              | (refine wpList_store_row rfl 66 _ _ rfl (w.heap.size + 1) (ringRow P K Q (monL l)) rfl rfl 66 _ hR2 (inf53 _ _ _ _) rfl (ringRow_one _ _ _ _) ?_))
            refine post_ring rfl rfl rfl (hR2.whole P K Q (monL l)) rfl ⟨0, P, K, Q, monL l, rfl, .inr (.inr ⟨HF.out, ?_, rfl⟩), (fun _ => ⟨rfl, rfl, HQZ.out.symm, rfl⟩ : (0 : Int) = 0 → _), bsetRow hB2 (by omega) _⟩
            rw [HQZ.out]; exact (inLB_iff _ _).1 hes
    · have hl1 : Hid ((l.length : Int) ≠ K) := h1
      have hne : ((l.length : Int) != (K : Int)) = true := by simpa using h1
      clear h1
      go_enter Tryd.func39, Tryd.ntmps39
      go_wp2_with (go_at_call 35; refine (order_any P K _ ((hT.alloc _).alloc _)).mono ?_; rintro e w' ⟨rfl, rfl⟩)
      exact post_ring rfl rfl rfl hR0 rfl ⟨2, 0, 0, 0, fun _ => 0, rfl, .inl ⟨by decide, .inr (.inl ⟨HN0.out, hl1.out, rfl⟩)⟩, (fun h => absurd h (by decide) : (2 : Int) = 0 → _), hB0⟩

end Go.Proofs.YtamdpcajfgbagaaDoor.Fd
