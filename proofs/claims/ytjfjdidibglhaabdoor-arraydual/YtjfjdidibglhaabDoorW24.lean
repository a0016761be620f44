/- The walk of Inv; Add, Mul and Inv on a true field; the closed fact. -/
import Derived.Test.YtjfjdidibglhaabDoorW52
import Derived.Test.YtjfjdidibglhaabDoorW40
import Derived.Test.YtjfjdidibglhaabDoorW42
import Derived.Test.YtjfjdidibglhaabDoorW16
import Derived.Test.YtjfjdidibglhaabDoorW59
import Derived.Deep.RegionHeld3
import Derived.Deep.DeepCutAuto
import Derived.Test.YtjfjdidibglhaabDoorW46
import Derived.Test.YtjfjdidibglhaabDoorW34
import Derived.Deep.QuietTactic
import Derived.BigQuiet
import Derived.Test.YtjfjdidibglhaabDoorAlgE
import Derived.Test.YtjfjdidibglhaabDoorW17
/- The walks of add and mul. -/
/- The walk of open: a field is looked at, and elements of it. -/
namespace Go.Proofs.YtjfjdidibglhaabDoor.Fd
open Go.RowKit

/-- The cells of a field that has been looked at. -/
def ringRow (p k q : Int) (f : Nat → Int) : Array Value := #[.int .i64 p, .int .i64 k, .int .i64 q, .int .i64 (f 0), .int .i64 (f 1), .int .i64 (f 2), .int .i64 (f 3), .int .i64 (f 4), .int .i64 (f 5), .int .i64 (f 6), .int .i64 (f 7), .int .i64 (f 8), .int .i64 (f 9), .int .i64 (f 10)]
def RB (w : World) (g : Nat) (p k q : Int) (f : Nat → Int) : Prop := w.heap[g]? = some (.cells (ringRow p k q f) 105 (0, 0))
theorem RB.lt {w : World} {g : Nat} {p k q : Int} {f : Nat → Int} (h : RB w g p k q f) : g < w.heap.size := (Array.getElem?_eq_some_iff.1 h).1
theorem RB.below {w w' : World} {g : Nat} {p k q : Int} {f : Nat → Int} (h : RB w g p k q f) (hb : Below w.heap.size w w') : RB w' g p k q f := (hb.block g h.lt).trans h
theorem RB.drew {w : World} {g : Nat} {p k q : Int} {f : Nat → Int} (h : RB w g p k q f) : RB w.drew g p k q f := h
theorem RB.made (w : World) (p k q : Int) (f : Nat → Int) : RB (w.alloc (.cells (ringRow p k q f) 105)) w.heap.size p k q f := heap_alloc_new w _
theorem RB.whole {w : World} {g : Nat} {p k q : Int} {f : Nat → Int} (h : RB w g p k q f) (p' k' q' : Int) (f' : Nat → Int) : RB (w.setRow g (ringRow p' k' q' f')) g p' k' q' f' := setRow_heap w g _ _ _ _ h
set_option maxRecDepth 100000 in
theorem inf53 (p k q : Int) (f : Nat → Int) : (Tryd.prog.info? 105).map (·.size) = some (ringRow p k q f).size := by kernel_rfl
theorem ringRow_one (p k q : Int) (f : Nat → Int) : (ringRow p k q f).all (·.oneCell') = true := by
  have h1 : ∀ z : Int, (Value.int .i64 z).oneCell' = true := fun _ => rfl
  simp [ringRow, h1]
set_option maxRecDepth 100000 in
theorem und53 : ∃ fs, Tryd.prog.underlying 105 = some (.struct fs) := by
  have h : (match Tryd.prog.underlying 105 with | some (.struct _) => true | _ => false) = true := by kernel_rfl
  split at h
  · exact ⟨_, by assumption⟩
  · cases h
set_option maxRecDepth 100000 in
theorem post_ring {fn : Func} {R : Ending → World → Prop} {a : Act} {w : World} {g : Nat} {p k q : Int} {f : Nat → Int} {z : Int} (hres : fn.results = #[.cell 4 105, .tmp 5])
    (hp : a.tmps.getD 4 undef = .pointer (some ⟨g, 0, none⟩)) (hz : a.tmps.getD 5 undef = .int .i64 z) (hr : RB w g p k q f) (hd : a.defers = []) (hR : R (.returned (.tuple #[.agg (ringRow p k q f), .int .i64 z])) w) : bodyPost Tryd.prog fn R .ret a w := by
  obtain ⟨fs, hu⟩ := und53
  refine bodyPost_ret ?_ hd hR
  have hp' : a.tmps[4]?.getD undef = .pointer (some ⟨g, 0, none⟩) := by simpa using hp
  have hz' : a.tmps[5]?.getD undef = .int .i64 z := by simpa using hz
  simp [results, hres, hp', hz', asAddr, run_loadVar_row w g 105 105 (ringRow p k q f) (0, 0) _ hr hu rfl (inf53 p k q f)]

/-- What open is to tell of a field and elements. -/
def OpenIs (p k : Int) (l es : List Int) (z : Int) : Prop :=
  (z ≠ 0 ∧ FaultIs p k l z) ∨ (FaultIs p k l 0 ∧ ¬ inL (ordZ p k) es ∧ z = 1) ∨ (FaultIs p k l 0 ∧ inL (ordZ p k) es ∧ z = 0)

set_option maxRecDepth 100000 in
set_option maxHeartbeats 1000000 in
theorem open_any (p k : Int) (l es : List Int) (v u : Value) (w : World) (hT : Tab w) (hl : Sl w v l) (he : Sl w u es) (hll : l.length ≤ maxLen) (hel : es.length ≤ maxLen) :
    Calls Tryd.prog 68 #[.agg #[.int .i64 p, .int .i64 k, v], u] w fun e w' => ∃ (z a b c : Int) (f : Nat → Int), e = .returned (.tuple #[.agg (ringRow a b c f), .int .i64 z]) ∧ OpenIs p k l es z ∧ Hid (z = 0 → a = p ∧ b = k ∧ c = ordZ p k ∧ f = monL l) ∧ Below w.heap.size w w' := by
  obtain ⟨A, ca, rfl, _⟩ := id hl
  have hF0 : FB ((w.alloc (.cells #[.int .i64 p, .int .i64 k, .slice A l.length ca] 24)).alloc (.cells #[.int .i64 0, .int .i64 0, .int .i64 0, .int .i64 0, .int .i64 0, .int .i64 0, .int .i64 0, .int .i64 0, .int .i64 0, .int .i64 0, .int .i64 0, .int .i64 0, .int .i64 0, .int .i64 0] 105)) w.heap.size p k (.slice A l.length ca) := (FB.made w p k _).below ((Below.refl _ _).alloc (Nat.le_refl _) _)
  have hR0 : RB ((w.alloc (.cells #[.int .i64 p, .int .i64 k, .slice A l.length ca] 24)).alloc (.cells #[.int .i64 0, .int .i64 0, .int .i64 0, .int .i64 0, .int .i64 0, .int .i64 0, .int .i64 0, .int .i64 0, .int .i64 0, .int .i64 0, .int .i64 0, .int .i64 0, .int .i64 0, .int .i64 0] 105)) (w.heap.size + 1) 0 0 0 (fun _ => 0) := by
    have h := RB.made (w.alloc (.cells #[.int .i64 p, .int .i64 k, .slice A l.length ca] 24)) 0 0 0 (fun _ => 0)
    simpa [ringRow] using h
  have hB0 : Below w.heap.size w ((w.alloc (.cells #[.int .i64 p, .int .i64 k, .slice A l.length ca] 24)).alloc (.cells #[.int .i64 0, .int .i64 0, .int .i64 0, .int .i64 0, .int .i64 0, .int .i64 0, .int .i64 0, .int .i64 0, .int .i64 0, .int .i64 0, .int .i64 0, .int .i64 0, .int .i64 0, .int .i64 0] 105)) := ((Below.refl _ _).alloc (Nat.le_refl _) _).alloc (by simp) _
  by_cases h0 : ordZ p k = 0
  · have HO : Hid (ordZ p k = 0) := h0
    have hbb : (ordZ p k == 0) = true := by simp [h0]
    clear h0
    go_enter Tryd.func68, Tryd.ntmps68
    go_wp2_with (go_at_call 57; refine (order_any p k _ ((hT.alloc _).alloc _)).mono ?_; rintro e w' ⟨rfl, rfl⟩)
    exact post_ring rfl rfl rfl hR0 rfl ⟨1, 0, 0, 0, fun _ => 0, rfl, .inl ⟨by decide, .inl ⟨HO.out, rfl⟩⟩, (fun h => absurd h (by decide) : (1 : Int) = 0 → _), hB0⟩
  · obtain ⟨P, K, rfl, rfl, hP, hP', hK, hK', hPK, hq⟩ := ord_nat h0
    have HN0 : Hid (ordZ (P : Int) K ≠ 0) := h0
    obtain ⟨Q, HQ⟩ : ∃ Q : Nat, Hid (Q = P ^ K) := ⟨_, rfl⟩
    rw [← HQ.out] at hq
    have hQ64 : Q ≤ 64 := by rw [HQ.out]; exact hPK
    have hQ0 : 0 < Q := by rw [HQ.out]; exact Nat.pow_pos (by omega)
    have hbb : ((Q : Int) == 0) = false := by simp; omega
    have HQZ : Hid (ordZ (P : Int) K = Q) := hq
    clear h0
    by_cases h1 : (l.length : Int) = K
    · have hlK : l.length = K := by omega
      rw [hlK] at hl hF0 hR0 hB0
      rw [hlK]
      have hsl0 := hl.below hB0
      have hel0 := he.below hB0
      have hne : ((K : Int) != K) = false := by simp
      cases hin : inLB (P : Int) l
      · have HIN : Hid (¬ inL (P : Int) l) := fun h => by rw [(inLB_iff _ _).2 h] at hin; cases hin
        go_enter Tryd.func68, Tryd.ntmps68
        go_wp2_with (go_at_call 57; refine (order_any P K _ ((hT.alloc _).alloc _)).mono ?_; rintro e w' ⟨rfl, rfl⟩)
        refine (allBelow_any l _ P _ hsl0 hll).mono ?_
        rintro e w' ⟨rfl, rfl⟩
        go_wp2
        exact post_ring rfl rfl rfl hR0 rfl ⟨1, 0, 0, 0, fun _ => 0, rfl, .inl ⟨by decide, .inr (.inr (.inl ⟨HN0.out, by omega, HIN.out, rfl⟩))⟩, (fun h => absurd h (by decide) : (1 : Int) = 0 → _), hB0⟩
      · have HIN : Hid (inL (P : Int) l) := (inLB_iff _ _).1 hin
        have hmin := monL_in (l := l) (p := (P : Int)) (by omega) HIN.out
        go_enter Tryd.func68, Tryd.ntmps68
        go_wp2_with (go_at_call 57; refine (order_any P K _ ((hT.alloc _).alloc _)).mono ?_; rintro e w' ⟨rfl, rfl⟩)
        refine (allBelow_any l _ P _ hsl0 hll).mono ?_
        rintro e w' ⟨rfl, rfl⟩
        go_wp2_with fail
        refine (monic_any l K _ _ hsl0 hlK hK (by omega)).mono ?_
        rintro e w1 ⟨rfl, hb1⟩
        have hF1 := hF0.below hb1
        have hR1 := hR0.below hb1
        have hel1 := hel0.below hb1
        have hB1 : Below w.heap.size w w1 := hB0.trans (hb1.mono hB0.size)
        have hFc1 := hF1.cells
        have hFl := hR1.lt
        have hnew := Row.made0 w1
        have hbA : Below w1.heap.size w1 ((w1.alloc (.cells #[.int .i64 0, .int .i64 0, .int .i64 0, .int .i64 0, .int .i64 0, .int .i64 0, .int .i64 0, .int .i64 0, .int .i64 0, .int .i64 0, .int .i64 0] 93)).setRow w1.heap.size (prow (monL l))) := bsetRow ((Below.refl _ _).alloc (Nat.le_refl _) _) (Nat.le_refl _) _
        have hFcA := (hF1.below hbA).cells
        go_wp2_with (first
          | (refine wpList_store_row rfl 93 _ _ rfl w1.heap.size (prow (monL l)) rfl rfl 93 _ hnew (inf51 _) (by simp) (prow_one _) ?_)
          | (refine wpList_load_row rfl 93 _ rfl w1.heap.size rfl 93 _ (0, 0) _ (hnew.whole (monL l)) und51 rfl (inf51 _) ?_))
        refine (irreducible_any (monL l) K P _ hP (by omega) hK hPK hmin).mono ?_
        rintro e w2 ⟨r, rfl, hr, hb2⟩
        have hF2 := (hF1.below hbA).below hb2
        have hR2 := (hR1.below hbA).below hb2
        have hM2 := (hnew.whole (monL l)).below hb2
        have hel2 := (hel1.below hbA).below hb2
        have hBA : Below w.heap.size w ((w1.alloc (.cells #[.int .i64 0, .int .i64 0, .int .i64 0, .int .i64 0, .int .i64 0, .int .i64 0, .int .i64 0, .int .i64 0, .int .i64 0, .int .i64 0, .int .i64 0] 93)).setRow w1.heap.size (prow (monL l))) := hB1.trans (hbA.mono hB1.size)
        have hB2 : Below w.heap.size w w2 := hBA.trans (hb2.mono hBA.size)
        have hFc2 := hF2.cells
        have HR : Hid (r = true ↔ irrP (monL l) K P) := hr
        clear hr hnew hbA hBA hFcA hFc1 hF0 hR0 hF1 hR1 hel0 hel1 hB0 hb1 hb2 hsl0 hin
        cases r
        · go_wp2_with (first
            | (refine wpList_store_row rfl 105 _ _ rfl (w.heap.size + 1) (ringRow 0 0 0 fun _ => 0) rfl rfl 105 _ hR2 (inf53 _ _ _ _) rfl (ringRow_one _ _ _ _) ?_))
          refine post_ring rfl rfl rfl (hR2.whole 0 0 0 fun _ => 0) rfl ⟨4, 0, 0, 0, fun _ => 0, rfl, .inl ⟨by decide, .inr (.inr (.inr (.inl ⟨HN0.out, by omega, HIN.out, fun h => ?_, rfl⟩)))⟩, (fun h => absurd h (by decide) : (4 : Int) = 0 → _), bsetRow hB2 (by omega) _⟩
          rw [Int.toNat_natCast, Int.toNat_natCast] at h
          exact absurd (HR.out.2 h) Bool.false_ne_true
        · have hirr : irrP (monL l) K P := HR.out.1 rfl
          have HF : Hid (FaultIs (P : Int) K l 0) := .inr (.inr (.inr (.inr ⟨HN0.out, by omega, HIN.out, by rw [Int.toNat_natCast, Int.toNat_natCast]; exact hirr, rfl⟩)))
          clear hirr
          go_wp2_with fail
          refine (allBelow_any es u Q _ hel2 hel).mono ?_
          rintro e w' ⟨rfl, rfl⟩
          cases hes : inLB (Q : Int) es
          · go_wp2_with (first
              | (refine wpList_store_row rfl 105 _ _ rfl (w.heap.size + 1) (ringRow 0 0 0 fun _ => 0) rfl rfl 105 _ hR2 (inf53 _ _ _ _) rfl (ringRow_one _ _ _ _) ?_))
            refine post_ring rfl rfl rfl (hR2.whole 0 0 0 fun _ => 0) rfl ⟨1, 0, 0, 0, fun _ => 0, rfl, .inr (.inl ⟨HF.out, fun h => ?_, rfl⟩), (fun h => absurd h (by decide) : (1 : Int) = 0 → _), bsetRow hB2 (by omega) _⟩
            rw [HQZ.out] at h
            rw [(inLB_iff _ _).2 h] at hes
            cases hes
          · go_wp2_with (first
              | (refine wpList_load_row rfl 93 _ rfl w1.heap.size rfl 93 #[.int .i64 (monL l 0), .int .i64 (monL l 1), .int .i64 (monL l 2), .int .i64 (monL l 3), .int .i64 (monL l 4), .int .i64 (monL l 5), .int .i64 (monL l 6), .int .i64 (monL l 7), .int .i64 (monL l 8), .int .i64 (monL l 9), .int .i64 (monL l 10)] (0, 0) _ hM2 und51 rfl (inf51 (monL l)) ?_)
              | (refine wpList_store_row rfl 105 _ _ rfl (w.heap.size + 1) (ringRow P K Q (monL l)) rfl rfl 105 _ hR2 (inf53 _ _ _ _) rfl (ringRow_one _ _ _ _) ?_))
            refine post_ring rfl rfl rfl (hR2.whole P K Q (monL l)) rfl ⟨0, P, K, Q, monL l, rfl, .inr (.inr ⟨HF.out, ?_, rfl⟩), (fun _ => ⟨rfl, rfl, HQZ.out.symm, rfl⟩ : (0 : Int) = 0 → _), bsetRow hB2 (by omega) _⟩
            rw [HQZ.out]; exact (inLB_iff _ _).1 hes
    · have hl1 : Hid ((l.length : Int) ≠ K) := h1
      have hne : ((l.length : Int) != (K : Int)) = true := by simpa using h1
      clear h1
      go_enter Tryd.func68, Tryd.ntmps68
      go_wp2_with (go_at_call 57; refine (order_any P K _ ((hT.alloc _).alloc _)).mono ?_; rintro e w' ⟨rfl, rfl⟩)
      exact post_ring rfl rfl rfl hR0 rfl ⟨2, 0, 0, 0, fun _ => 0, rfl, .inl ⟨by decide, .inr (.inl ⟨HN0.out, hl1.out, rfl⟩)⟩, (fun h => absurd h (by decide) : (2 : Int) = 0 → _), hB0⟩

end Go.Proofs.YtjfjdidibglhaabDoor.Fd

namespace Go.Proofs.YtjfjdidibglhaabDoor.Fd
open Go.RowKit

theorem keepS {w W W1 : World} {g : Nat} {x : Value} (h : W.cell? ⟨g, 0, none⟩ = some x ∧ Below w.heap.size w W) (hb : Below W.heap.size W W1) : W1.cell? ⟨g, 0, none⟩ = some x ∧ Below w.heap.size w W1 :=
  ⟨(hb.cell (p := ⟨g, 0, none⟩) (block_lt_of_cell h.1)).trans h.1, h.2.trans (hb.mono h.2.size)⟩

set_option maxRecDepth 100000 in
set_option maxHeartbeats 1000000 in
theorem add_any (P K a b : Nat) (Q : Int) (f : Nat → Int) (w : World) (hP : 2 ≤ P) (hP' : P ≤ 64) (hK : 1 ≤ K) (hK' : K ≤ 6) (hPK : P ^ K ≤ 64) (ha : a < P ^ K) (hb : b < P ^ K) :
    Calls Tryd.prog 104 #[.agg (ringRow P K Q f), .int .i64 a, .int .i64 b] w fun e w' => e = .returned (.int .i64 (hor (plusF (digF a P) (digF b P) P) P K K)) ∧ Below w.heap.size w w' := by
  have hSt : ((w.alloc (.cells (ringRow P K Q f) 105)).drew).cell? ⟨w.heap.size, 0, none⟩ = some (.int .i64 P) ∧ Below w.heap.size w ((w.alloc (.cells (ringRow P K Q f) 105)).drew) :=
    ⟨(cell_of_row (w.alloc (.cells (ringRow P K Q f) 105)) w.heap.size 0 _ _ _ (RB.made w P K Q f)), ((Below.refl _ _).alloc (Nat.le_refl _) _).drew⟩
  go_enter Tryd.func104, Tryd.ntmps104
  go_wp2
  go_region_held3 (fun w' => w'.cell? ⟨w.heap.size, 0, none⟩ = some (.int .i64 P) ∧ Below w.heap.size w w') (first | assumption | go_keep)
    (first
      | (go_at_call_of 58 (Value.int .i64 (a : Int)); refine (polyOf_any a P _ (by omega) hP hP').mono ?_; rintro e w1 ⟨rfl, hb1⟩; have hS1 := keepS (by assumption) hb1)
      | (go_at_call_of 58 (Value.int .i64 (b : Int)); refine (polyOf_any b P _ (by omega) hP hP').mono ?_; rintro e w2 ⟨rfl, hb2⟩; have hS2 := keepS (by assumption) hb2)
      | (go_at_call 119; refine (plus_any _ _ P _ hP hP' (digF_in a P (by omega)) (digF_in b P (by omega))).mono ?_; rintro e w3 ⟨rfl, hb3⟩; have hS3 := keepS (by assumption) hb3)
      | (go_at_call 103; refine (number_any _ P K _ hP hP' hK hK' hPK (plusF_in _ _ P (by omega)) ?_).mono ?_; exact fun t ht _ => plus_small ha hb hP t ht; rintro e w4 ⟨rfl, hb4⟩; have hS4 := keepS (by assumption) hb4))
  all_goals (go_wp2; go_ret; exact ⟨rfl, hS4.2⟩)

end Go.Proofs.YtjfjdidibglhaabDoor.Fd

/- The law FieldSums, walked: sums and products of any two are the document's, errors and all. -/
/- The walks of Add and Mul. -/
/- The walk of mul. -/
namespace Go.Proofs.YtjfjdidibglhaabDoor.Fd
open Go.RowKit

def rowL (f : Nat → Int) : List Value := (List.range 11).map fun j => Value.int .i64 (f j)
theorem rowL_length (f : Nat → Int) : (rowL f).length = 11 := by simp [rowL]
theorem rowL_one (f : Nat → Int) : ∀ v ∈ rowL f, v.oneCell' = true := by
  intro v hv
  simp only [rowL, List.mem_map] at hv
  obtain ⟨j, _, rfl⟩ := hv
  rfl
set_option maxRecDepth 100000 in
theorem rowL_size (f : Nat → Int) : (Tryd.prog.info? 93).map (·.size) = some (rowL f).length := by rw [rowL_length]; kernel_rfl
theorem rangeAt_below {W W1 : World} {g o : Nat} {cs : List Value} (h : W.rangeAt g o cs) (hb : Below W.heap.size W W1) : W1.rangeAt g o cs :=
  fun j v hv => (hb.cell (p := ⟨g, o + j, none⟩) (block_lt_of_cell (h j v hv))).trans (h j v hv)
theorem there_below {W W1 : World} {g o n : Nat} (h : W.there g o n) (hb : Below W.heap.size W W1) : W1.there g o n := fun j hj => by
  obtain ⟨h1, h2⟩ := h j hj
  obtain ⟨v, hv⟩ := Option.isSome_iff_exists.1 h1
  have hl := block_lt_of_cell hv
  exact ⟨by rw [hb.cell (p := ⟨g, o + j, none⟩) hl]; exact h1, by rw [hb.frozen (p := ⟨g, o + j, none⟩) hl]; exact h2⟩
theorem bsetCells {B : Nat} {w0 : World} (g : Nat) (hg : B ≤ g) : ∀ (vs : List Value) (o : Nat) (w : World), Below B w0 w → Below B w0 (w.setCells g o vs)
  | [], _, _, h => h
  | v :: r, o, _, h => bsetCells g hg r (o + 1) _ (h.setCell hg v)
theorem RS.below {w W W1 : World} {P K : Int} {M : List Value} (h : W.cell? ⟨w.heap.size, 0, none⟩ = some (.int .i64 P) ∧ W.cell? ⟨w.heap.size, 1, none⟩ = some (.int .i64 K) ∧ W.rangeAt w.heap.size 3 M ∧ Below w.heap.size w W) (hb : Below W.heap.size W W1) : W1.cell? ⟨w.heap.size, 0, none⟩ = some (.int .i64 P) ∧ W1.cell? ⟨w.heap.size, 1, none⟩ = some (.int .i64 K) ∧ W1.rangeAt w.heap.size 3 M ∧ Below w.heap.size w W1 :=
  ⟨(hb.cell (p := ⟨w.heap.size, 0, none⟩) (block_lt_of_cell h.1)).trans h.1, (hb.cell (p := ⟨w.heap.size, 1, none⟩) (block_lt_of_cell h.2.1)).trans h.2.1, rangeAt_below h.2.2.1 hb, h.2.2.2.trans (hb.mono h.2.2.2.size)⟩
theorem RS.stored {w W : World} {P K : Int} {M : List Value} {g n : Nat} {vs : List Value} (h : W.cell? ⟨w.heap.size, 0, none⟩ = some (.int .i64 P) ∧ W.cell? ⟨w.heap.size, 1, none⟩ = some (.int .i64 K) ∧ W.rangeAt w.heap.size 3 M ∧ Below w.heap.size w W) (hg : w.heap.size < g ∧ W.there g 0 n) :
    (W.setCells g 0 vs).cell? ⟨w.heap.size, 0, none⟩ = some (.int .i64 P) ∧ (W.setCells g 0 vs).cell? ⟨w.heap.size, 1, none⟩ = some (.int .i64 K) ∧ (W.setCells g 0 vs).rangeAt w.heap.size 3 M ∧ Below w.heap.size w (W.setCells g 0 vs) := by
  have hne : w.heap.size ≠ g := by omega
  exact ⟨(World.cell?_setCells_out g vs 0 W _ (fun e _ => absurd e hne)).trans h.1, (World.cell?_setCells_out g vs 0 W _ (fun e _ => absurd e hne)).trans h.2.1, World.rangeAt_setCells_apart h.2.2.1 g 0 vs (.inl hne), bsetCells g (by omega) vs 0 W h.2.2.2⟩
theorem madeThere {w W : World} {P K : Int} {M : List Value} (h : W.cell? ⟨w.heap.size, 0, none⟩ = some (.int .i64 P) ∧ W.cell? ⟨w.heap.size, 1, none⟩ = some (.int .i64 K) ∧ W.rangeAt w.heap.size 3 M ∧ Below w.heap.size w W) : w.heap.size < W.heap.size ∧ (W.alloc (.cells #[.int .i64 0, .int .i64 0, .int .i64 0, .int .i64 0, .int .i64 0, .int .i64 0, .int .i64 0, .int .i64 0, .int .i64 0, .int .i64 0, .int .i64 0] 93)).there W.heap.size 0 11 := by
  refine ⟨by simpa using block_lt_of_cell h.1, fun j hj => ?_⟩
  have hr := Row.made0 W
  rw [Nat.zero_add]
  exact ⟨by rw [hr.cell j hj]; rfl, hr.frozen j⟩
theorem RS2 {w W W1 : World} {P K : Int} {L M : List Value} {g : Nat} (h : W.rangeAt g 0 L ∧ W.cell? ⟨w.heap.size, 0, none⟩ = some (.int .i64 P) ∧ W.cell? ⟨w.heap.size, 1, none⟩ = some (.int .i64 K) ∧ W.rangeAt w.heap.size 3 M ∧ Below w.heap.size w W) (hb : Below W.heap.size W W1) : W1.rangeAt g 0 L ∧ W1.cell? ⟨w.heap.size, 0, none⟩ = some (.int .i64 P) ∧ W1.cell? ⟨w.heap.size, 1, none⟩ = some (.int .i64 K) ∧ W1.rangeAt w.heap.size 3 M ∧ Below w.heap.size w W1 :=
  ⟨rangeAt_below h.1 hb, RS.below h.2 hb⟩
theorem rangeOf {w W : World} {g : Nat} {L : List Value} (hl : L.length = 11) (h : w.heap.size < g ∧ W.there g 0 11) : (W.setCells g 0 L).rangeAt g 0 L := World.rangeAt_setCells_same W g 0 L (by rw [hl]; exact h.2)
theorem thereB {w W W1 : World} {g n : Nat} (h : w.heap.size < g ∧ W.there g 0 n) (hb : Below W.heap.size W W1) : w.heap.size < g ∧ W1.there g 0 n := ⟨h.1, there_below h.2 hb⟩
theorem times_L (f g : Nat → Int) (p : Nat) (L : List Value) (hL : Hid (L = rowL (mulN f g p 6 6))) (w : World) (hp : 2 ≤ p) (hp' : p ≤ 64) (hf : inP p f) (hg : inP p g) :
    Calls Tryd.prog 102 #[.agg (prow f), .agg (prow g), .int .i64 p] w fun e w' => e = .returned (.agg L.toArray) ∧ Below w.heap.size w w' := by
  rw [hL.out]; exact times_any f g p w hp hp' hf hg
theorem modulo_L (f m : Nat → Int) (d p : Nat) (L M : List Value) (hL : Hid (L = rowL f)) (hM : Hid (M = rowL m)) (w : World) (hp : 2 ≤ p) (hp' : p ≤ 64) (hd : 1 ≤ d) (hd6 : d ≤ 6) (hf : inP p f) (hm : inP p m) :
    Calls Tryd.prog 93 #[.agg L.toArray, .agg M.toArray, .int .i64 d, .int .i64 p] w fun e w' => e = .returned (.agg (prow (redN m d p (11 - d) f))) ∧ Below w.heap.size w w' := by
  rw [hL.out, hM.out]; exact modulo_any f m d p w hp hp' hd hd6 hf hm

set_option linter.unusedSimpArgs false in
set_option maxRecDepth 100000 in
set_option maxHeartbeats 2000000 in
theorem mul_any (P K a b : Nat) (Q : Int) (f : Nat → Int) (w : World) (hP : 2 ≤ P) (hP' : P ≤ 64) (hK : 1 ≤ K) (hK' : K ≤ 6) (hPK : P ^ K ≤ 64) (ha : a < P ^ K) (hb : b < P ^ K) (hf : inP P f) (hfK : Hid (f K = 1)) :
    Calls Tryd.prog 69 #[.agg (ringRow P K Q f), .int .i64 a, .int .i64 b] w fun e w' => e = .returned (.int .i64 (hor (redN f K P (11 - K) (mulN (digF a P) (digF b P) P 6 6)) P K K)) ∧ Below w.heap.size w w' := by
  obtain ⟨L, HL⟩ : ∃ L, Hid (L = rowL (mulN (digF a P) (digF b P) P 6 6)) := ⟨_, rfl⟩
  obtain ⟨M, HM⟩ : ∃ M, Hid (M = rowL f) := ⟨_, rfl⟩
  have hRB := RB.made w P K Q f
  have hSt : ((w.alloc (.cells (ringRow P K Q f) 105)).drew).cell? ⟨w.heap.size, 0, none⟩ = some (.int .i64 P) ∧ ((w.alloc (.cells (ringRow P K Q f) 105)).drew).cell? ⟨w.heap.size, 1, none⟩ = some (.int .i64 K) ∧ ((w.alloc (.cells (ringRow P K Q f) 105)).drew).rangeAt w.heap.size 3 M ∧ Below w.heap.size w ((w.alloc (.cells (ringRow P K Q f) 105)).drew) := by
    rw [HM.out]
    refine ⟨(cell_of_row (w.alloc (.cells (ringRow P K Q f) 105)) w.heap.size 0 _ _ _ hRB), (cell_of_row (w.alloc (.cells (ringRow P K Q f) 105)) w.heap.size 1 _ _ _ hRB), fun j v hv => ?_, ((Below.refl _ _).alloc (Nat.le_refl _) _).drew⟩
    have h := cell_of_row (w.alloc (.cells (ringRow P K Q f) 105)) w.heap.size (3 + j) _ _ _ hRB
    have hj : j < 11 := by
      have := (List.getElem?_eq_some_iff.1 hv).1
      rwa [rowL_length] at this
    have e : (ringRow P K Q f)[3 + j]? = (rowL f)[j]? := by
      have : j = 0 ∨ j = 1 ∨ j = 2 ∨ j = 3 ∨ j = 4 ∨ j = 5 ∨ j = 6 ∨ j = 7 ∨ j = 8 ∨ j = 9 ∨ j = 10 := by omega
      rcases this with rfl | rfl | rfl | rfl | rfl | rfl | rfl | rfl | rfl | rfl | rfl <;> rfl
    exact h.trans (e.trans hv)
  have hlen : L.length = 11 := by rw [HL.out]; exact rowL_length _
  have hone : ∀ v ∈ L, v.oneCell' = true := by rw [HL.out]; exact rowL_one _
  have hsz : (Tryd.prog.info? 93).map (·.size) = some L.length := by rw [HL.out]; exact rowL_size _
  clear hRB
  go_enter Tryd.func69, Tryd.ntmps69
  go_upto_region 1 with fail
  go_cut [7] (fun s W => ∃ g, s = .pointer (some ⟨g, 0, none⟩) ∧ W.rangeAt g 0 L ∧ W.cell? ⟨w.heap.size, 0, none⟩ = some (.int .i64 P) ∧ W.cell? ⟨w.heap.size, 1, none⟩ = some (.int .i64 K) ∧ W.rangeAt w.heap.size 3 M ∧ Below w.heap.size w W)
  case first =>
    have hM0 : w.heap.size < w.heap.size + 1 ∧ (((w.alloc (.cells (ringRow P K Q f) 105)).alloc (.cells #[.int .i64 0, .int .i64 0, .int .i64 0, .int .i64 0, .int .i64 0, .int .i64 0, .int .i64 0, .int .i64 0, .int .i64 0, .int .i64 0, .int .i64 0] 93)).drew).there (w.heap.size + 1) 0 11 := by
      refine ⟨by omega, ?_⟩
      have h := (madeThere hSt).2
      have e : ((w.alloc (.cells (ringRow P K Q f) 105)).drew).heap.size = w.heap.size + 1 := by simp
      rw [e] at h
      exact h
    go_region_held3 (fun w' => w'.cell? ⟨w.heap.size, 0, none⟩ = some (.int .i64 P) ∧ w'.cell? ⟨w.heap.size, 1, none⟩ = some (.int .i64 K) ∧ w'.rangeAt w.heap.size 3 M ∧ Below w.heap.size w w') (first | exact RS.stored (by assumption) (by assumption) | exact RS.below (by assumption) ((Below.refl _ _).alloc (Nat.le_refl _) _) | assumption)
      (first
        | (go_at_call_of 58 (Value.int .i64 (a : Int)); refine (polyOf_any a P _ (by omega) hP hP').mono ?_; rintro e w1 ⟨rfl, hb1⟩; have hS1 := RS.below (by assumption) hb1; have hM1 := madeThere hS1; try (have ht1 := thereB (w := w) (by assumption) hb1))
        | (go_at_call_of 58 (Value.int .i64 (b : Int)); refine (polyOf_any b P _ (by omega) hP hP').mono ?_; rintro e w2 ⟨rfl, hb2⟩; have hS2 := RS.below (by assumption) hb2; have hM2 := madeThere hS2; try (have ht2 := thereB (w := w) (by assumption) hb2))
        | (go_at_call 102; refine (times_L _ _ P L HL _ hP hP' (digF_in a P (by omega)) (digF_in b P (by omega))).mono ?_; rintro e w3 ⟨rfl, hb3⟩; have hS3 := RS.below (by assumption) hb3; have hM3 := madeThere hS3; try (have ht3 := thereB (w := w) (by assumption) hb3)))
    all_goals
      go_wp2_with fail
      go_meet
      case rel =>
        refine ⟨_, rfl, rangeOf hlen (by assumption), ?_⟩
        first
          | exact RS.stored (by assumption) (by assumption)
          | exact RS.stored (RS.below (by assumption) ((Below.refl _ _).alloc (Nat.le_refl _) _)) (by assumption)
  case rest =>
    obtain ⟨g, rfl, hS⟩ := hcut
    have hS' : wc.drew.rangeAt g 0 L ∧ wc.drew.cell? ⟨w.heap.size, 0, none⟩ = some (.int .i64 P) ∧ wc.drew.cell? ⟨w.heap.size, 1, none⟩ = some (.int .i64 K) ∧ wc.drew.rangeAt w.heap.size 3 M ∧ Below w.heap.size w wc.drew := ⟨hS.1, hS.2.1, hS.2.2.1, hS.2.2.2.1, hS.2.2.2.2.drew⟩
    have hu51 := und51
    have hszM : (Tryd.prog.info? 93).map (·.size) = some M.length := by rw [HM.out]; exact rowL_size _
    have hF := mulN_in (a := digF a P) (b := digF b P) (j := 6) (show (0 : Int) < P by omega) 6
    have hR := redN_in (m := f) (d := K) (show (0 : Int) < P by omega) (11 - K) _ hF
    go_wp2_with fail
    refine wp_region_noPanic ?_
    refine wp_region_held_drew (S := fun w' => w'.rangeAt g 0 L ∧ w'.cell? ⟨w.heap.size, 0, none⟩ = some (.int .i64 P) ∧ w'.cell? ⟨w.heap.size, 1, none⟩ = some (.int .i64 K) ∧ w'.rangeAt w.heap.size 3 M ∧ Below w.heap.size w w') (by kernel_rfl) hS' (fun hSx => ?_)
    refine wpAnyH_take (i := 0) (v := .agg L.toArray) rfl (by kernel_rfl) (by kernel_rfl) (by kernel_rfl) (fun _ _ _ h => h) (yieldsIf_load_mid (by rfl) 93 _ rfl g 0 rfl L _ (fun _ h => h.1) und51 rfl hsz) hSx ?_
    try simp only [Act.put, List.setIfInBounds_toArray, List.set_cons_zero, List.set_cons_succ]
    refine wpAnyH_take (i := 1) (v := .pointer (some ⟨w.heap.size, 3, none⟩)) rfl (by kernel_rfl) (by kernel_rfl) (by kernel_rfl) (fun _ _ _ h => h) (Or.inl ⟨by rfl, fun w' hSw => by (try dsimp only at hSw); go_simp⟩) hSx ?_
    try simp only [Act.put, List.setIfInBounds_toArray, List.set_cons_zero, List.set_cons_succ]
    refine wpAnyH_take (i := 2) (v := .agg M.toArray) rfl (by kernel_rfl) (by kernel_rfl) (by kernel_rfl) (fun _ _ _ h => h) (yieldsIf_load_mid (by rfl) 93 _ rfl w.heap.size 3 rfl M _ (fun _ h => h.2.2.2.1) und51 rfl hszM) hSx ?_
    try simp only [Act.put, List.setIfInBounds_toArray, List.set_cons_zero, List.set_cons_succ]
    refine wpAnyH_take (i := 3) (v := .pointer (some ⟨w.heap.size, 1, none⟩)) rfl (by kernel_rfl) (by kernel_rfl) (by kernel_rfl) (fun _ _ _ h => h) (Or.inl ⟨by rfl, fun w' hSw => by (try dsimp only at hSw); go_simp⟩) hSx ?_
    try simp only [Act.put, List.setIfInBounds_toArray, List.set_cons_zero, List.set_cons_succ]
    refine wpAnyH_take (i := 4) (v := .int .i64 K) rfl (by kernel_rfl) (by kernel_rfl) (by kernel_rfl) (fun _ _ _ h => h) (Or.inl ⟨by rfl, fun w' hSw => by (try dsimp only at hSw); go_simp⟩) hSx ?_
    try simp only [Act.put, List.setIfInBounds_toArray, List.set_cons_zero, List.set_cons_succ]
    refine wpAnyH_take (i := 5) (v := .pointer (some ⟨w.heap.size, 0, none⟩)) rfl (by kernel_rfl) (by kernel_rfl) (by kernel_rfl) (fun _ _ _ h => h) (Or.inl ⟨by rfl, fun w' hSw => by (try dsimp only at hSw); go_simp⟩) hSx ?_
    try simp only [Act.put, List.setIfInBounds_toArray, List.set_cons_zero, List.set_cons_succ]
    refine wpAnyH_take (i := 6) (v := .int .i64 P) rfl (by kernel_rfl) (by kernel_rfl) (by kernel_rfl) (fun _ _ _ h => h) (Or.inl ⟨by rfl, fun w' hSw => by (try dsimp only at hSw); go_simp⟩) hSx ?_
    try simp only [Act.put, List.setIfInBounds_toArray, List.set_cons_zero, List.set_cons_succ]
    refine wpAnyH_take (i := 8) (v := .pointer (some ⟨w.heap.size, 0, none⟩)) rfl (by kernel_rfl) (by kernel_rfl) (by kernel_rfl) (fun _ _ _ h => h) (Or.inl ⟨by rfl, fun w' hSw => by (try dsimp only at hSw); go_simp⟩) hSx ?_
    try simp only [Act.put, List.setIfInBounds_toArray, List.set_cons_zero, List.set_cons_succ]
    refine wpAnyH_take (i := 9) (v := .int .i64 P) rfl (by kernel_rfl) (by kernel_rfl) (by kernel_rfl) (fun _ _ _ h => h) (Or.inl ⟨by rfl, fun w' hSw => by (try dsimp only at hSw); go_simp⟩) hSx ?_
    try simp only [Act.put, List.setIfInBounds_toArray, List.set_cons_zero, List.set_cons_succ]
    refine wpAnyH_ready (rs := [7]) (by kernel_rfl) (by simp) ?_
    refine AllReadyH.cons rfl (fun J hJ => ?_) AllReadyH.nil
    go_simp
    refine (modulo_L _ f K P L M HL HM _ hP hP' hK hK' hF hf).mono ?_
    rintro e w1 ⟨rfl, hb1⟩
    have hS1 := RS2 hSx hb1
    go_wp2_with fail
    refine hJ.out _ _ hS1 (fun hSy => ?_)
    clear hJ J
    try simp only [Act.put, List.setIfInBounds_toArray, List.set_cons_zero, List.set_cons_succ]
    refine wpAnyH_ready (rs := [10]) (by kernel_rfl) (by simp) ?_
    refine AllReadyH.cons rfl (fun J hJ => ?_) AllReadyH.nil
    go_simp
    refine (number_any _ P K _ hP hP' hK hK' hPK hR (fun t h1 h2 => redN_zero hfK.out _ _ t h1 (by omega))).mono ?_
    rintro e w2 ⟨rfl, hb2⟩
    have hS2 := RS2 hSy hb2
    go_wp2_with fail
    refine hJ.out _ _ hS2 (fun hSz => ?_)
    clear hJ J
    try simp only [Act.put, List.setIfInBounds_toArray, List.set_cons_zero, List.set_cons_succ]
    refine wpAnyH_ready (rs := [11]) (by kernel_rfl) (by simp) ?_
    refine AllReadyH.cons rfl (fun J hJ => ?_) AllReadyH.nil
    go_simp
    refine hJ.out _ _ hSz (fun _ => ?_)
    clear hJ J
    refine wpAnyH_done (by kernel_rfl) ?_ _
    refine NoPanic.normal ?_
    go_wp2
    go_ret
    exact ⟨rfl, hS2.2.2.2.2⟩

end Go.Proofs.YtjfjdidibglhaabDoor.Fd

namespace Go.Proofs.YtjfjdidibglhaabDoor.Fd
open Go.RowKit

/-- The sum of two elements, as a number. -/
def sumZ (p k a b : Int) : Int := hor (plusF (digF a.toNat p.toNat) (digF b.toNat p.toNat) p) p k.toNat k.toNat
/-- The product of two elements, as a number. -/
def prodZ (p k : Int) (l : List Int) (a b : Int) : Int := hor (redN (monL l) k.toNat p (11 - k.toNat) (mulN (digF a.toNat p.toNat) (digF b.toNat p.toNat) p 6 6)) p k.toNat k.toNat

theorem open_ok {p k : Int} {l es : List Int} (h : OpenIs p k l es 0) : FaultIs p k l 0 ∧ inL (ordZ p k) es := by
  rcases h with ⟨h, _⟩ | ⟨_, _, h⟩ | ⟨h1, h2, _⟩
  · exact absurd rfl h
  · exact absurd h (by decide)
  · exact ⟨h1, h2⟩
theorem sl_pair (w : World) (a b : Int) : Sl (w.alloc (.cells #[.int .i64 a, .int .i64 b] 3)) (.slice (some ⟨w.heap.size, 0, none⟩) 2 2) [a, b] := by
  refine ⟨_, 2, rfl, fun j hj => ⟨w.heap.size, 0, rfl, ?_⟩⟩
  have h := cell_of_row (w.alloc (.cells #[.int .i64 a, .int .i64 b] 3)) w.heap.size (0 + j) _ _ _ (heap_alloc_new w _)
  rw [h]
  have : j = 0 ∨ j = 1 := by simp at hj; omega
  rcases this with rfl | rfl <;> rfl
/-- What a field that is one, and elements of it, are as natural numbers. -/
theorem good_parts {p k : Int} {l : List Int} (h : FaultIs p k l 0) : ∃ P K : Nat, p = P ∧ k = K ∧ 2 ≤ P ∧ P ≤ 61 ∧ 1 ≤ K ∧ K ≤ 6 ∧ P ^ K ≤ 64 ∧ ordZ p k = ((P ^ K : Nat) : Int) ∧ l.length = K ∧ inP p (monL l) ∧ monL l K = 1 ∧ isPrimeB p = true := by
  obtain ⟨h0, h1, h2, h3⟩ := h.ok
  obtain ⟨P, K, rfl, rfl, hP, hP', hK, hK', hPK, hq⟩ := ord_nat h0
  have hl : l.length = K := by omega
  refine ⟨P, K, rfl, rfl, hP, hP', hK, hK', hPK, hq, hl, monL_in (by omega) h2, ?_, (ord_parts h0).1⟩
  have := monL_top l
  rwa [hl] at this

set_option maxRecDepth 100000 in
set_option maxHeartbeats 1000000 in
theorem Add_any (p k a b : Int) (l : List Int) (v : Value) (w : World) (hT : Tab w) (hl : Sl w v l) (hll : l.length ≤ maxLen) :
    Calls Tryd.prog 72 #[.agg #[.int .i64 p, .int .i64 k, v], .int .i64 a, .int .i64 b] w fun e w' => ∃ (s z : Int), e = .returned (.tuple #[.int .i64 s, .int .i64 z]) ∧ OpenIs p k l [a, b] z ∧ Hid (z ≠ 0 → s = 0) ∧ Hid (z = 0 → s = sumZ p k a b) ∧ Below w.heap.size w w' := by
  obtain ⟨A, ca, rfl, _⟩ := id hl
  have hbx : Below w.heap.size w ((w.alloc (.cells #[.int .i64 p, .int .i64 k, .slice A l.length ca] 24)).alloc (.cells #[.int .i64 a, .int .i64 b] 3)) := ((Below.refl _ _).alloc (Nat.le_refl _) _).alloc (by simp) _
  have hpair := sl_pair (w.alloc (.cells #[.int .i64 p, .int .i64 k, .slice A l.length ca] 24)) a b
  simp only [World.size_alloc] at hpair
  go_enter Tryd.func72, Tryd.ntmps72
  go_wp2_with fail
  refine (open_any p k l [a, b] _ _ _ (hT.below hbx) (hl.below hbx) hpair hll (by simp [maxLen])).mono ?_
  rintro e w1 ⟨z, x, y, c, f, rfl, hO, HZ, hb1⟩
  have hB1 : Below w.heap.size w w1 := hbx.trans (hb1.mono hbx.size)
  have HO : Hid (OpenIs p k l [a, b] z) := hO
  have hnew : RB (w1.alloc (.cells #[.int .i64 0, .int .i64 0, .int .i64 0, .int .i64 0, .int .i64 0, .int .i64 0, .int .i64 0, .int .i64 0, .int .i64 0, .int .i64 0, .int .i64 0, .int .i64 0, .int .i64 0, .int .i64 0] 105)) w1.heap.size 0 0 0 (fun _ => 0) := RB.made w1 0 0 0 (fun _ => 0)
  have hBA : Below w.heap.size w ((w1.alloc (.cells #[.int .i64 0, .int .i64 0, .int .i64 0, .int .i64 0, .int .i64 0, .int .i64 0, .int .i64 0, .int .i64 0, .int .i64 0, .int .i64 0, .int .i64 0, .int .i64 0, .int .i64 0, .int .i64 0] 105)).setRow w1.heap.size (ringRow x y c f)) := bsetRow (hB1.alloc hB1.size _) hB1.size _
  obtain ⟨fs, hu⟩ := und53
  clear hpair hO
  by_cases hz : z = 0
  · subst hz
    obtain ⟨rfl, rfl, rfl, rfl⟩ := HZ.out rfl
    obtain ⟨hF, hin⟩ := open_ok HO.out
    obtain ⟨P, K, rfl, rfl, hP, hP', hK, hK', hPK, hq, hlen, hm, hmK, _⟩ := good_parts hF
    have ha := hin 0 (by simp)
    have hb := hin 1 (by simp)
    rw [hq] at ha hb
    simp only [List.getD_cons_zero, List.getD_cons_succ] at ha hb
    obtain ⟨a', rfl⟩ := Int.eq_ofNat_of_zero_le ha.1
    obtain ⟨b', rfl⟩ := Int.eq_ofNat_of_zero_le hb.1
    have ha' : a' < P ^ K := by omega
    have hb' : b' < P ^ K := by omega
    clear hin hF ha hb HZ hq
    go_wp2_with (first
      | (refine wpList_store_row rfl 105 _ _ rfl w1.heap.size _ rfl rfl 105 _ hnew (inf53 _ _ _ _) rfl (ringRow_one _ _ _ _) ?_)
      | (refine wpList_load_row rfl 105 _ rfl w1.heap.size rfl 105 _ (0, 0) _ (hnew.whole _ _ _ _) hu rfl (inf53 _ _ _ _) ?_))
    refine (add_any P K a' b' _ (monL l) _ hP (by omega) hK hK' hPK ha' hb').mono ?_
    rintro e w2 ⟨rfl, hb2⟩
    go_wp2
    go_ret2
    exact ⟨_, _, rfl, HO.out, (fun h => absurd rfl h : (0 : Int) ≠ 0 → _), (fun _ => by unfold sumZ; simp : (0 : Int) = 0 → _), hBA.trans (hb2.mono hBA.size)⟩
  · have hzb : (z != 0) = true := by simpa using hz
    go_wp2_with (first
      | (refine wpList_store_row rfl 105 _ _ rfl w1.heap.size _ rfl rfl 105 _ hnew (inf53 _ _ _ _) rfl (ringRow_one _ _ _ _) ?_))
    go_ret2
    exact ⟨0, z, rfl, HO.out, (fun _ => rfl : z ≠ 0 → _), (fun h => absurd h hz : z = 0 → _), hBA⟩

set_option maxRecDepth 100000 in
set_option maxHeartbeats 1000000 in
theorem Mul_any (p k a b : Int) (l : List Int) (v : Value) (w : World) (hT : Tab w) (hl : Sl w v l) (hll : l.length ≤ maxLen) :
    Calls Tryd.prog 32 #[.agg #[.int .i64 p, .int .i64 k, v], .int .i64 a, .int .i64 b] w fun e w' => ∃ (s z : Int), e = .returned (.tuple #[.int .i64 s, .int .i64 z]) ∧ OpenIs p k l [a, b] z ∧ Hid (z ≠ 0 → s = 0) ∧ Hid (z = 0 → s = prodZ p k l a b) ∧ Below w.heap.size w w' := by
  obtain ⟨A, ca, rfl, _⟩ := id hl
  have hbx : Below w.heap.size w ((w.alloc (.cells #[.int .i64 p, .int .i64 k, .slice A l.length ca] 24)).alloc (.cells #[.int .i64 a, .int .i64 b] 3)) := ((Below.refl _ _).alloc (Nat.le_refl _) _).alloc (by simp) _
  have hpair := sl_pair (w.alloc (.cells #[.int .i64 p, .int .i64 k, .slice A l.length ca] 24)) a b
  simp only [World.size_alloc] at hpair
  go_enter Tryd.func32, Tryd.ntmps32
  go_wp2_with fail
  refine (open_any p k l [a, b] _ _ _ (hT.below hbx) (hl.below hbx) hpair hll (by simp [maxLen])).mono ?_
  rintro e w1 ⟨z, x, y, c, f, rfl, hO, HZ, hb1⟩
  have hB1 : Below w.heap.size w w1 := hbx.trans (hb1.mono hbx.size)
  have HO : Hid (OpenIs p k l [a, b] z) := hO
  have hnew : RB (w1.alloc (.cells #[.int .i64 0, .int .i64 0, .int .i64 0, .int .i64 0, .int .i64 0, .int .i64 0, .int .i64 0, .int .i64 0, .int .i64 0, .int .i64 0, .int .i64 0, .int .i64 0, .int .i64 0, .int .i64 0] 105)) w1.heap.size 0 0 0 (fun _ => 0) := RB.made w1 0 0 0 (fun _ => 0)
  have hBA : Below w.heap.size w ((w1.alloc (.cells #[.int .i64 0, .int .i64 0, .int .i64 0, .int .i64 0, .int .i64 0, .int .i64 0, .int .i64 0, .int .i64 0, .int .i64 0, .int .i64 0, .int .i64 0, .int .i64 0, .int .i64 0, .int .i64 0] 105)).setRow w1.heap.size (ringRow x y c f)) := bsetRow (hB1.alloc hB1.size _) hB1.size _
  obtain ⟨fs, hu⟩ := und53
  clear hpair hO
  by_cases hz : z = 0
  · subst hz
    obtain ⟨rfl, rfl, rfl, rfl⟩ := HZ.out rfl
    obtain ⟨hF, hin⟩ := open_ok HO.out
    obtain ⟨P, K, rfl, rfl, hP, hP', hK, hK', hPK, hq, hlen, hm, hmK, _⟩ := good_parts hF
    have ha := hin 0 (by simp)
    have hb := hin 1 (by simp)
    rw [hq] at ha hb
    simp only [List.getD_cons_zero, List.getD_cons_succ] at ha hb
    obtain ⟨a', rfl⟩ := Int.eq_ofNat_of_zero_le ha.1
    obtain ⟨b', rfl⟩ := Int.eq_ofNat_of_zero_le hb.1
    have ha' : a' < P ^ K := by omega
    have hb' : b' < P ^ K := by omega
    have HMK : Hid (monL l K = 1) := hmK
    clear hin hF ha hb HZ hq hmK
    go_wp2_with (first
      | (refine wpList_store_row rfl 105 _ _ rfl w1.heap.size _ rfl rfl 105 _ hnew (inf53 _ _ _ _) rfl (ringRow_one _ _ _ _) ?_)
      | (refine wpList_load_row rfl 105 _ rfl w1.heap.size rfl 105 _ (0, 0) _ (hnew.whole _ _ _ _) hu rfl (inf53 _ _ _ _) ?_))
    refine (mul_any P K a' b' _ (monL l) _ hP (by omega) hK hK' hPK ha' hb' hm HMK).mono ?_
    rintro e w2 ⟨rfl, hb2⟩
    go_wp2
    go_ret2
    exact ⟨_, _, rfl, HO.out, (fun h => absurd rfl h : (0 : Int) ≠ 0 → _), (fun _ => by unfold prodZ; simp : (0 : Int) = 0 → _), hBA.trans (hb2.mono hBA.size)⟩
  · have hzb : (z != 0) = true := by simpa using hz
    go_wp2_with (first
      | (refine wpList_store_row rfl 105 _ _ rfl w1.heap.size _ rfl rfl 105 _ hnew (inf53 _ _ _ _) rfl (ringRow_one _ _ _ _) ?_))
    go_ret2
    exact ⟨0, z, rfl, HO.out, (fun _ => rfl : z ≠ 0 → _), (fun h => absurd h hz : z = 0 → _), hBA⟩

end Go.Proofs.YtjfjdidibglhaabDoor.Fd

/- The walks of Sum and Times of the document's answer. -/
namespace Go.Proofs.YtjfjdidibglhaabDoor.Fd
open Go.RowKit

theorem digL_all {n p k : Nat} (hn : n < p ^ k) (hp : 2 ≤ p) (t : Nat) : (digL n p k).getD t 0 = digF n p t := by
  by_cases h : t < k
  · exact digL_at _ _ _ _ h
  · rw [digF_small hn hp t (by omega)]
    simp [digL, h]
theorem Own.of_dig {w : World} {base n p k : Nat} {v : Value} (h : w.ownsRow base 3 1 v k ((digL n p k).map (Value.int .i64))) (hk : 1 ≤ k) (hn : n < p ^ k) (hp : 2 ≤ p) :
    ∃ g cap, v = .slice (some ⟨g, 0, none⟩) k cap ∧ base ≤ g ∧ Own w g k (digF n p) := by
  obtain ⟨g, cap, e, hb, hO⟩ := Own.of h (by omega)
  exact ⟨g, cap, e, hb, hO.congr (fun t _ => digL_all hn hp t)⟩

set_option maxRecDepth 100000 in
set_option maxHeartbeats 1000000 in
theorem sum_any (P K a b : Nat) (A : Option Addr) (n c : Nat) (w : World) (hP : 2 ≤ P) (hP' : P ≤ 64) (hK : 1 ≤ K) (hK' : K ≤ 6) (hPK : P ^ K ≤ 64) (ha : a < P ^ K) (hb : b < P ^ K) :
    Calls Tryd.prog 55 #[.agg #[.int .i64 P, .int .i64 K, .slice A n c], .int .i64 a, .int .i64 b] w fun e w' => e = .returned (.int .i64 (hor (plusF (digF a P) (digF b P) P) P K K)) ∧ Below w.heap.size w w' := by
  have hF0 := FB.made w P K (.slice A n c)
  have hB0 : Below w.heap.size w (w.alloc (.cells #[.int .i64 P, .int .i64 K, .slice A n c] 24)) := (Below.refl _ _).alloc (Nat.le_refl _) _
  go_enter Tryd.func55, Tryd.ntmps55
  go_wp2_with fail
  refine (digits_any a P K _ (by omega) hP hP' (by omega)).mono ?_
  rintro e w1 ⟨v1, rfl, hown1, hb1⟩
  obtain ⟨g, cap, rfl, hg, hO1⟩ := Own.of_dig hown1 hK ha hP
  have hF1 := hF0.below hb1
  have hB1 : Below w.heap.size w w1 := hB0.trans (hb1.mono hB0.size)
  have hc1 := hF1.cells
  clear hown1
  go_wp2_with fail
  refine (digits_any b P K _ (by omega) hP hP' (by omega)).mono ?_
  rintro e w2 ⟨v2, rfl, hown2, hb2⟩
  obtain ⟨g2, cap2, rfl, hg2, hO2⟩ := Own.of_dig hown2 hK hb hP
  have hF2 := hF1.below hb2
  have hO12 := hO1.below hb2
  have hB2 : Below w.heap.size w w2 := hB1.trans (hb2.mono hB1.size)
  have hgl := hO1.lt
  have hgw : w.heap.size < g := by simp at hg; omega
  have hne : g ≠ g2 := by omega
  clear hown2 hO1
  go_wp2
  go_loopw [9] (fun i wr => ∃ j : Nat, i = .int .i64 j ∧ j ≤ K ∧ Own wr g K (plusTo (digF a P) (digF b P) P j) ∧ Own wr g2 K (digF b P) ∧ FB wr w.heap.size P K (.slice A n c) ∧ Below w.heap.size w wr) (fun i _ => (K - intOf i).toNat)
  case atStart => exact ⟨0, rfl, by omega, hO12.congr (fun t _ => by simp [plusTo]), hO2, hF2, hB2⟩
  case round =>
    clear hO12 hO2 hF2 hB2 hF1 hF0 hc1
    obtain ⟨j, rfl, hj, hO1, hO2, hF, hB⟩ := hrel
    have hFc := hF.cells
    by_cases hlt : j < K
    · obtain ⟨x, Hx⟩ : ∃ a' : Int, Hid (a' = digF a P j) := ⟨_, rfl⟩
      obtain ⟨y, Hy⟩ : ∃ c' : Int, Hid (c' = digF b P j) := ⟨_, rfl⟩
      have hx0 := digF_in a P (by omega) j
      rw [← Hx.out] at hx0
      have hy0 := digF_in b P (by omega) j
      rw [← Hy.out] at hy0
      have hcx := hO1.cell j hlt
      rw [show plusTo (digF a P) (digF b P) P j j = digF a P j by simp [plusTo], ← Hx.out] at hcx
      have hcf := hO1.frozen j
      have hcy := hO2.cell j hlt
      rw [← Hy.out] at hcy
      have hji : (j : Int) < K := by omega
      have hdec : decide ((j : Int) < K) = true := by simp; omega
      go_wp2
      go_region
      all_goals
        go_wp2
        go_roundw
        case rel =>
          refine ⟨j + 1, by go_num, by omega, (hO1.set j _).congr (fun t _ => ?_), hO2.other _ _ (by simpa using Ne.symm hne), (heap_setCell_other _ _ _ _ (by simp; omega)).trans hF, (hB.setCell (by simp; omega) _).drew⟩
          rw [Hx.out, Hy.out]; exact plusTo_succ _ _ _ j t
        case measure => simp [intOf]; omega
    · go_wp2_with fail
      refine (numberRef_any (plusF (digF a P) (digF b P) P) P K g 0 cap _ ?_ hP hP' hK hK' hPK (plusF_in _ _ _ (by omega))).mono ?_
      · intro t ht
        rw [Nat.zero_add, hO1.cell t ht]
        simp [plusTo, plusF, show t < j by omega]
      rintro e w' ⟨rfl, rfl⟩
      go_wp2
      go_ret
      exact ⟨rfl, hB⟩

end Go.Proofs.YtjfjdidibglhaabDoor.Fd

/- The walk of Times of the document's answer; the two products are one. -/
namespace Go.Proofs.YtjfjdidibglhaabDoor.Fd
open Go.RowKit

theorem prod_same {P K a b : Nat} {m : Nat → Int} (hP : 2 ≤ P) (hK : 1 ≤ K) (hK' : K ≤ 6) (ha : a < P ^ K) (hb : b < P ^ K) :
    redN m K P (11 - K) (mulN (digF a P) (digF b P) P 6 6) = redN m K P K (mulN (digF a P) (digF b P) P K K) := by
  have hp : (0 : Int) < P := by omega
  have e1 : mulN (digF a P) (digF b P) P 6 6 = mulN (digF a P) (digF b P) P K K := by
    rw [show (6 : Nat) = K + (6 - K) by omega, mulN_few hp (fun t ht => digF_small ha hP t ht), ← show (6 : Nat) = K + (6 - K) by omega, mulN_short hp (fun t ht => digF_small hb hP t ht) hK']
  rw [e1]
  have hin := mulN_in (a := digF a P) (b := digF b P) (j := K) hp K
  by_cases h1 : K = 1
  · subst h1
    have h := redN_more (m := m) (d := 1) 1 hin (fun t ht => mulN_over 1 t (by omega)) (Nat.le_refl _) 9
    exact h
  · have h0 : ∀ t, 2 * K - 2 < t → mulN (digF a P) (digF b P) P K K t = 0 := fun t ht => mulN_over K t (by omega)
    have h2 := redN_more (m := m) (d := K) (2 * K - 2) hin h0 (by omega) (12 - 2 * K)
    have h3 := redN_more (m := m) (d := K) (2 * K - 2) hin h0 (by omega) 1
    rw [show 2 * K - 2 + 1 - K + (12 - 2 * K) = 11 - K by omega] at h2
    rw [show 2 * K - 2 + 1 - K + 1 = K by omega] at h3
    rw [h2, h3]

set_option maxRecDepth 100000 in
set_option maxHeartbeats 2000000 in
theorem timesRef_any (P K a b : Nat) (l : List Int) (v : Value) (w : World) (hl : Sl w v l) (hlK : l.length = K) (hP : 2 ≤ P) (hP' : P ≤ 64) (hK : 1 ≤ K) (hK' : K ≤ 6) (hPK : P ^ K ≤ 64) (ha : a < P ^ K) (hb : b < P ^ K) (hm : inP P (monL l)) (hmK : Hid (monL l K = 1)) :
    Calls Tryd.prog 25 #[.agg #[.int .i64 P, .int .i64 K, v], .int .i64 a, .int .i64 b] w fun e w' => e = .returned (.int .i64 (hor (redN (monL l) K P K (mulN (digF a P) (digF b P) P K K)) P K K)) ∧ Below w.heap.size w w' := by
  obtain ⟨bl, ol, cl, rfl, hbl, hlc⟩ := hl.form hlK (by omega)
  have HLC : Hid (∀ j, j < K → w.cell? ⟨bl, ol + j, none⟩ = some (.int .i64 (l.getD j 0))) := hlc
  have hF0 := FB.made w P K (.slice (some ⟨bl, ol, none⟩) K cl)
  have hB0 : Below w.heap.size w (w.alloc (.cells #[.int .i64 P, .int .i64 K, .slice (some ⟨bl, ol, none⟩) K cl] 24)) := (Below.refl _ _).alloc (Nat.le_refl _) _
  clear hlc
  go_enter Tryd.func25, Tryd.ntmps25
  go_wp2_with fail
  refine (digits_any a P K _ (by omega) hP hP' (by omega)).mono ?_
  rintro e w1 ⟨v1, rfl, hown1, hb1⟩
  obtain ⟨g, cap, rfl, hg, hO1⟩ := Own.of_dig hown1 hK ha hP
  have hF1 := hF0.below hb1
  have hB1 : Below w.heap.size w w1 := hB0.trans (hb1.mono hB0.size)
  have hc1 := hF1.cells
  clear hown1
  go_wp2_with fail
  refine (digits_any b P K _ (by omega) hP hP' (by omega)).mono ?_
  rintro e w2 ⟨v2, rfl, hown2, hb2⟩
  obtain ⟨g2, cap2, rfl, hg2, hO2⟩ := Own.of_dig hown2 hK hb hP
  have hF2 := hF1.below hb2
  have hO12 := hO1.below hb2
  have hB2 : Below w.heap.size w w2 := hB1.trans (hb2.mono hB1.size)
  have hc2 := hF2.cells
  clear hown2
  go_wp2_with fail
  refine (product_any (digF a P) (digF b P) P K g 0 cap g2 0 cap2 _ (fun j hj => by rw [Nat.zero_add]; exact hO12.cell j hj) (fun j hj => by rw [Nat.zero_add]; exact hO2.cell j hj) hP hP' hK hK' (digF_in a P (by omega)) (digF_in b P (by omega))).mono ?_
  rintro e w3 ⟨G, rfl, hGw, hOz, hb3⟩
  have hF3 := hF2.below hb3
  have hB3 : Below w.heap.size w w3 := hB2.trans (hb3.mono hB2.size)
  have hGl : w.heap.size < G := by have := hF2.lt; omega
  have hmi := mulN_in (a := digF a P) (b := digF b P) (j := K) (show (0 : Int) < P by omega) K
  clear hF0 hF1 hF2 hO1 hO2 hO12 hc1 hc2
  go_wp2
  go_loopw [10] (fun i wr => ∃ x : Int, i = .int .i64 x ∧ (K : Int) ≤ x + 1 ∧ x + 1 ≤ K + K ∧ ∃ f, Own wr G (K + K) f ∧ inP P f ∧ Hid (redN (monL l) K P (x + 1 - K).toNat f = redN (monL l) K P K (mulN (digF a P) (digF b P) P K K)) ∧ FB wr w.heap.size P K (.slice (some ⟨bl, ol, none⟩) K cl) ∧ Below w.heap.size w wr) (fun i _ => (intOf i + 1).toNat)
  case atStart =>
    refine ⟨(K : Int) + K - 1, rfl, by omega, by omega, _, hOz, hmi, ?_, hF3, hB3⟩
    show redN _ _ _ ((K : Int) + K - 1 + 1 - K).toNat _ = _
    rw [show ((K : Int) + K - 1 + 1 - K).toNat = K by omega]
  case round =>
    clear hOz hF3 hB3
    obtain ⟨x, rfl, hx1, hx2, f, hO, hf, HR, hF, hB⟩ := hrel
    have hFc := hF.cells
    by_cases hlt : (K : Int) ≤ x
    · obtain ⟨i0, rfl⟩ := Int.eq_ofNat_of_zero_le (show 0 ≤ x by omega)
      have hdec : decide ((K : Int) ≤ i0) = true := by simp; omega
      obtain ⟨y, Hy⟩ : ∃ y : Int, Hid (y = f i0) := ⟨_, rfl⟩
      have hy0 := hf i0
      rw [← Hy.out] at hy0
      have hcy := hO.cell i0 (by omega)
      rw [← Hy.out] at hcy
      have hcfz := hO.frozen i0
      have hik : (i0 : Int) < K + K := by omega
      have hFo : w.heap.size ≠ G := by omega
      go_wp2
      go_loopw [12] (fun j wr => ∃ m : Nat, j = .int .i64 m ∧ m ≤ K ∧ Own wr G (K + K) (stTo f (monL l) K P i0 m) ∧ FB wr w.heap.size P K (.slice (some ⟨bl, ol, none⟩) K cl) ∧ Below w.heap.size w wr) (fun j _ => (K - intOf j).toNat)
      case atStart => exact ⟨0, rfl, by omega, (hO.set i0 0).congr (fun t _ => stTo_zero f (monL l) K P i0 t), (heap_setCell_other _ _ _ _ hFo).trans hF, hB.setCell (by simp; omega) _⟩
      case round =>
        clear hFc hF hB
        obtain ⟨m, rfl, hm', hO', hF, hB⟩ := hrel
        have hFc := hF.cells
        by_cases hle : m < K
        · obtain ⟨z, Hz⟩ : ∃ z : Int, Hid (z = f (i0 - K + m)) := ⟨_, rfl⟩
          obtain ⟨c, Hc⟩ : ∃ c : Int, Hid (c = l.getD m 0) := ⟨_, rfl⟩
          have hz0 := hf (i0 - K + m)
          rw [← Hz.out] at hz0
          have hc0 := hm m
          rw [monL_low l m (by omega), ← Hc.out] at hc0
          have hi0 : (0 : Int) ≤ (i0 : Int) - K + m := by omega
          have hi1 : (i0 : Int) - K + m < K + K := by omega
          have hi2 : (m : Int) < K := by omega
          have hcz := hO'.cell (i0 - K + m) (by omega)
          rw [stTo_at _ _ _ _ _ _ (by omega) hle, ← Hz.out] at hcz
          have hcf := hO'.frozen (i0 - K + m)
          have hcc := (hB.cell (p := ⟨bl, ol + m, none⟩) hbl).trans (HLC.out m hle)
          rw [← Hc.out] at hcc
          have hm0 : 0 ≤ y * c := Int.mul_nonneg (by omega) (by omega)
          have hm1 : y * c ≤ 64 * 64 := Int.mul_le_mul (by omega) (by omega) (by omega) (by omega)
          have ht := tmod_bd (z - y * c) P (by omega)
          have ht2 : 0 ≤ (z - y * c).tmod P + P := by omega
          have hdec2 : decide ((m : Int) < K) = true := by simp; omega
          go_wp2
          go_region
          all_goals
            go_wp2
            go_roundw
            case rel =>
              refine ⟨m + 1, by go_num, by omega, (hO'.set (i0 - K + m) _).congr (fun t _ => stTo_succ f (monL l) K P i0 m _ (by omega) hle ?_ t), (heap_setCell_other _ _ _ _ hFo).trans hF, (hB.setCell (by simp; omega) _).drew⟩
              rw [tmod_emod, ← Hz.out, ← Hy.out, monL_low l m (by omega), ← Hc.out]
            case measure => simp [intOf]; omega
        · go_wp2
          go_roundw
          case rel =>
            refine ⟨(i0 : Int) - 1, rfl, by omega, by omega, rd f (monL l) K P i0, hO'.congr (fun t _ => ?_), rd_in (by omega) hf, ?_, hF, hB⟩
            · rw [show m = K by omega]; exact stTo_full f (monL l) K P i0 (by omega) hmK.out t
            · show redN (monL l) K P ((i0 : Int) - 1 + 1 - K).toNat (rd f (monL l) K P i0) = _
              rw [← HR.out]
              rw [show ((i0 : Int) + 1 - K).toNat = (i0 - K) + 1 by omega, show ((i0 : Int) - 1 + 1 - K).toNat = i0 - K by omega]
              show _ = redN (monL l) K P (i0 - K) (rd f (monL l) K P (K + (i0 - K)))
              rw [show K + (i0 - K) = i0 by omega]
          case measure => simp [intOf]
    · have e : (x + 1 - (K : Int)).toNat = 0 := by omega
      have HR' := HR.out
      rw [e] at HR'
      have HFR : Hid (f = redN (monL l) K P K (mulN (digF a P) (digF b P) P K K)) := HR'
      clear HR HR'
      have hki : (K : Int) ≤ (K : Int) + K := by omega
      have hfin : Hid (inP P f) := hf
      go_wp2
      go_quiet ((go_at_call 54; exact Calls.quiet_of_same (numberRef_any f P K G 0 _ _ (fun t ht => by rw [Nat.zero_add]; exact hO.cell t (by omega)) hP hP' hK hK' hPK hfin.out)))
      go_wp2
      go_ret
      exact ⟨ret_int (by rw [← HFR.out]), bdrewN hB _⟩

end Go.Proofs.YtjfjdidibglhaabDoor.Fd

namespace Go.Proofs.YtjfjdidibglhaabDoor.Fd
open Go.RowKit

theorem open_err {p k : Int} {l es : List Int} {z ze : Int} (hF : FaultIs p k l ze) (h0 : ze ≠ 0) (h : OpenIs p k l es z) : z = ze := by
  rcases h with ⟨_, h⟩ | ⟨h, _, _⟩ | ⟨h, _, _⟩
  · exact h.one hF
  · exact absurd (hF.one h) h0
  · exact absurd (hF.one h) h0
theorem open_in {p k : Int} {l es : List Int} {z : Int} (hF : FaultIs p k l 0) (hi : inL (ordZ p k) es) (h : OpenIs p k l es z) : z = 0 := by
  rcases h with ⟨h0, h⟩ | ⟨_, h, _⟩ | ⟨_, _, h⟩
  · exact absurd (h.one hF) h0
  · exact absurd hi h
  · exact h
theorem open_out {p k : Int} {l es : List Int} {z : Int} (hF : FaultIs p k l 0) (hi : ¬ inL (ordZ p k) es) (h : OpenIs p k l es z) : z = 1 := by
  rcases h with ⟨h0, h⟩ | ⟨_, _, h⟩ | ⟨_, h, _⟩
  · exact absurd (h.one hF) h0
  · exact h
  · exact absurd h hi
theorem inB_iff (q a : Int) : inB q a = true ↔ 0 ≤ a ∧ a < q := by simp [inB]
theorem inL_pair (q a b : Int) : inL q [a, b] ↔ inB q a = true ∧ inB q b = true := by
  rw [inB_iff, inB_iff]
  constructor
  · intro h
    exact ⟨h 0 (by simp), h 1 (by simp)⟩
  · rintro ⟨h1, h2⟩ j hj
    have : j = 0 ∨ j = 1 := by simp at hj; omega
    rcases this with rfl | rfl
    · exact h1
    · exact h2

end Go.Proofs.YtjfjdidibglhaabDoor.Fd

/- The walks of pow, Inv and Pow; sums and products of a true field's elements. -/
namespace Go.Proofs.YtjfjdidibglhaabDoor.Fd
open Go.RowKit

theorem mulQ_cast {P K : Nat} {m : Nat → Int} (hR : Ring1 P K m) (a b : Nat) : ((mulQ P K m a b : Nat) : Int) = hor (redN m K P K (mulN (digF a P) (digF b P) P K K)) P K K := by
  unfold mulQ
  exact Int.toNat_of_nonneg (hor_bd (k := K) (show (2 : Int) ≤ P by have := hR.two; omega) (mulQ_in hR a b) K).1
theorem addQ_cast {P K : Nat} (hP : 2 ≤ P) (a b : Nat) : ((addQ P K a b : Nat) : Int) = hor (plusF (digF a P) (digF b P) P) P K K := by
  unfold addQ
  exact Int.toNat_of_nonneg (hor_bd (k := K) (show (2 : Int) ≤ P by omega) (plusF_in _ _ _ (by omega)) K).1
theorem mul_Q (P K a b : Nat) (Q : Int) (m : Nat → Int) (w : World) (hR : Ring1 P K m) (hP' : P ≤ 64) (hK' : K ≤ 6) (hPK : P ^ K ≤ 64) (ha : a < P ^ K) (hb : b < P ^ K) (s : Nat) (hs : Hid (s = mulQ P K m a b)) :
    Calls Tryd.prog 69 #[.agg (ringRow P K Q m), .int .i64 a, .int .i64 b] w fun e w' => e = .returned (.int .i64 s) ∧ Below w.heap.size w w' := by
  have h := mul_any P K a b Q m w hR.two hP' hR.one hK' hPK ha hb hR.low hR.top
  rw [prod_same hR.two hR.one hK' ha hb, ← mulQ_cast hR, ← hs.out] at h
  exact h

set_option maxRecDepth 100000 in
set_option maxHeartbeats 1000000 in
theorem pow_any (P K a : Nat) (n Q : Int) (m : Nat → Int) (w : World) (hR : Ring1 P K m) (hP' : P ≤ 64) (hK' : K ≤ 6) (hPK : P ^ K ≤ 64) (ha : a < P ^ K) (hn : 0 ≤ n) (hn' : n ≤ 9223372036854775807) (s : Nat) (hs : Hid (s = powQ P K m a n.toNat)) :
    Calls Tryd.prog 116 #[.agg (ringRow P K Q m), .int .i64 a, .int .i64 n] w fun e w' => e = .returned (.int .i64 s) ∧ Below w.heap.size w w' := by
  obtain ⟨fs, hu⟩ := und53
  have hone := one_lt hR
  go_enter Tryd.func116, Tryd.ntmps116
  go_wp2
  go_loopw [1, 2, 7] (fun x y o wr => ∃ (b c : Nat) (j : Int), x = .int .i64 b ∧ y = .int .i64 j ∧ o = .int .i64 c ∧ 0 ≤ j ∧ j ≤ 9223372036854775807 ∧ b < P ^ K ∧ c < P ^ K ∧ Hid (mulQ P K m c (powQ P K m b j.toNat) = s) ∧ RB wr w.heap.size P K Q m ∧ Below w.heap.size w wr) (fun _ y _ _ => (intOf y).toNat)
  case atStart =>
    refine ⟨a, 1, n, rfl, rfl, rfl, hn, hn', ha, hone, ?_, RB.made w P K Q m, (Below.refl _ _).alloc (Nat.le_refl _) _⟩
    show mulQ P K m 1 (powQ P K m a n.toNat) = s
    rw [one_mulQ hR (powQ_lt hR a _), hs.out]
  case round =>
    obtain ⟨b, c, j, rfl, rfl, rfl, hj, hj', hb, hc, HI, hRB, hB⟩ := hrel
    by_cases hlt : 0 < j
    · have hq0 : 0 ≤ j / 2 := by omega
      have hq1 : j / 2 < j := by omega
      have hw : wrap64 (j.tdiv 2) = j / 2 := by rw [Int.tdiv_eq_ediv_of_nonneg hj]; unfold wrap64; omega
      obtain ⟨bb, Hbb⟩ : ∃ x, Hid (x = mulQ P K m b b) := ⟨_, rfl⟩
      have hbb : bb < P ^ K := by rw [Hbb.out]; exact mulQ_lt hR b b
      have HSQ : Hid (∀ k, powQ P K m bb k = powQ P K m b (2 * k)) := by
        intro k
        have e : bb = powQ P K m b 2 := by
          rw [Hbb.out]
          show _ = mulQ P K m b (powQ P K m b 1)
          rw [powQ_first hR hb]
        rw [e, powQ_mul hR]
      by_cases hodd : j % 2 = 1
      · have hb1 : (j % 2 == 1) = true := by simpa using hodd
        obtain ⟨cb, Hcb⟩ : ∃ x, Hid (x = mulQ P K m c b) := ⟨_, rfl⟩
        have hcb : cb < P ^ K := by rw [Hcb.out]; exact mulQ_lt hR c b
        have HN : Hid (mulQ P K m cb (powQ P K m bb (j / 2).toNat) = s) := by
          show mulQ P K m cb (powQ P K m bb (j / 2).toNat) = s
          rw [HSQ.out, Hcb.out, mulQ_assoc hR, ← HI.out]
          rw [show j.toNat = 2 * (j / 2).toNat + 1 by omega]
          rfl
        clear hodd
        go_wp2_with (first
          | (refine wpList_load_row rfl 105 _ rfl w.heap.size rfl 105 _ (0, 0) _ hRB hu rfl (inf53 _ _ _ _) ?_))
        refine (mul_Q P K c b Q m _ hR hP' hK' hPK hc hb cb Hcb).mono ?_
        rintro e w1 ⟨rfl, hb1⟩
        have hRB1 := hRB.below hb1
        have hB1 : Below w.heap.size w w1 := hB.trans (hb1.mono hB.size)
        go_wp2_with (first
          | (refine wpList_load_row rfl 105 _ rfl w.heap.size rfl 105 _ (0, 0) _ hRB1 hu rfl (inf53 _ _ _ _) ?_))
        refine (mul_Q P K b b Q m _ hR hP' hK' hPK hb hb bb Hbb).mono ?_
        rintro e w2 ⟨rfl, hb2⟩
        have hRB2 := hRB1.below hb2
        have hB2 : Below w.heap.size w w2 := hB1.trans (hb2.mono hB1.size)
        go_wp2
        go_roundw
        case rel => exact ⟨bb, cb, j / 2, rfl, rfl, rfl, hq0, by omega, hbb, hcb, HN, hRB2, hB2⟩
        case measure => simp [intOf]; omega
      · have hb1 : (j % 2 == 1) = false := by simpa using hodd
        have HN : Hid (mulQ P K m c (powQ P K m bb (j / 2).toNat) = s) := by
          show mulQ P K m c (powQ P K m bb (j / 2).toNat) = s
          rw [HSQ.out, ← HI.out, show 2 * (j / 2).toNat = j.toNat by omega]
        clear hodd
        go_wp2_with (first
          | (refine wpList_load_row rfl 105 _ rfl w.heap.size rfl 105 _ (0, 0) _ hRB hu rfl (inf53 _ _ _ _) ?_))
        refine (mul_Q P K b b Q m _ hR hP' hK' hPK hb hb bb Hbb).mono ?_
        rintro e w2 ⟨rfl, hb2⟩
        have hRB2 := hRB.below hb2
        have hB2 : Below w.heap.size w w2 := hB.trans (hb2.mono hB.size)
        go_wp2
        go_roundw
        case rel => exact ⟨bb, c, j / 2, rfl, rfl, rfl, hq0, by omega, hbb, hc, HN, hRB2, hB2⟩
        case measure => simp [intOf]; omega
    · have hc' : c = s := by
        have h := HI.out
        rw [show j.toNat = 0 by omega] at h
        show c = s
        rw [← h]
        exact (mulQ_one hR hc).symm
      subst hc'
      go_wp2
      go_ret
      exact ⟨rfl, hB⟩

end Go.Proofs.YtjfjdidibglhaabDoor.Fd

namespace Go.Proofs.YtjfjdidibglhaabDoor.Fd
open Go.RowKit

theorem sl_one (w : World) (a : Int) : Sl (w.alloc (.cells #[.int .i64 a] 3)) (.slice (some ⟨w.heap.size, 0, none⟩) 1 1) [a] := by
  refine ⟨_, 1, rfl, fun j hj => ⟨w.heap.size, 0, rfl, ?_⟩⟩
  have h := cell_of_row (w.alloc (.cells #[.int .i64 a] 3)) w.heap.size (0 + j) _ _ _ (heap_alloc_new w _)
  rw [h]
  have : j = 0 := by simp at hj; omega
  subst this; rfl
/-- A field that is one, in natural numbers. -/
structure GoodF (P K : Nat) (l : List Int) : Prop where
  fault : FaultIs (P : Int) K l 0
  field : FieldQ P K (monL l)
  le61 : P ≤ 61
  le6 : K ≤ 6
  le64 : P ^ K ≤ 64
  ord : ordZ (P : Int) K = ((P ^ K : Nat) : Int)
  len : l.length = K
theorem good_of {p k : Int} {l : List Int} (h : FaultIs p k l 0) : ∃ P K : Nat, p = P ∧ k = K ∧ GoodF P K l := by
  obtain ⟨h0, h1, h2, h3⟩ := h.ok
  obtain ⟨P, K, rfl, rfl, hP, hP', hK, hK', hPK, hq, hlen, hmi, hmK, hpr⟩ := good_parts h
  rw [Int.toNat_natCast, Int.toNat_natCast] at h3
  exact ⟨P, K, rfl, rfl, h, field_of_irr hpr hK hPK hlen h2 h3, hP', hK', hPK, hq, hlen⟩
theorem in_pair {P K : Nat} {l : List Int} (hG : GoodF P K l) {a b : Nat} (ha : a < P ^ K) (hb : b < P ^ K) : inL (ordZ (P : Int) K) [(a : Int), (b : Int)] := by
  rw [inL_pair, inB_iff, inB_iff, hG.ord]; omega
theorem in_one {P K : Nat} {l : List Int} (hG : GoodF P K l) {a : Nat} (ha : a < P ^ K) : inL (ordZ (P : Int) K) [(a : Int)] := by
  intro j hj
  have : j = 0 := by simp at hj; omega
  subst this
  rw [hG.ord]
  show 0 ≤ (a : Int) ∧ (a : Int) < _
  omega

theorem AddG (P K a b : Nat) (l : List Int) (v : Value) (w : World) (hT : Tab w) (hl : Sl w v l) (hll : l.length ≤ maxLen) (hG : GoodF P K l) (ha : a < P ^ K) (hb : b < P ^ K) (s : Nat) (hs : Hid (s = addQ P K a b)) :
    Calls Tryd.prog 72 #[.agg #[.int .i64 P, .int .i64 K, v], .int .i64 a, .int .i64 b] w fun e w' => e = .returned (.tuple #[.int .i64 s, .int .i64 0]) ∧ Below w.heap.size w w' := by
  refine (Add_any P K a b l v w hT hl hll).mono ?_
  rintro e w' ⟨x, z, rfl, hO, _, H1, hB⟩
  obtain rfl := open_in hG.fault (in_pair hG ha hb) hO
  have h := H1.out rfl
  unfold sumZ at h
  simp only [Int.toNat_natCast] at h
  rw [← addQ_cast hG.field.two, ← hs.out] at h
  exact ⟨by rw [h], hB⟩
theorem MulG (P K a b : Nat) (l : List Int) (v : Value) (w : World) (hT : Tab w) (hl : Sl w v l) (hll : l.length ≤ maxLen) (hG : GoodF P K l) (ha : a < P ^ K) (hb : b < P ^ K) (s : Nat) (hs : Hid (s = mulQ P K (monL l) a b)) :
    Calls Tryd.prog 32 #[.agg #[.int .i64 P, .int .i64 K, v], .int .i64 a, .int .i64 b] w fun e w' => e = .returned (.tuple #[.int .i64 s, .int .i64 0]) ∧ Below w.heap.size w w' := by
  refine (Mul_any P K a b l v w hT hl hll).mono ?_
  rintro e w' ⟨x, z, rfl, hO, _, H1, hB⟩
  obtain rfl := open_in hG.fault (in_pair hG ha hb) hO
  have h := H1.out rfl
  unfold prodZ at h
  simp only [Int.toNat_natCast] at h
  rw [prod_same hG.field.two hG.field.one hG.le6 ha hb, ← mulQ_cast hG.field.toRing1, ← hs.out] at h
  exact ⟨by rw [h], hB⟩

set_option maxRecDepth 100000 in
set_option maxHeartbeats 1000000 in
theorem InvG (P K a : Nat) (l : List Int) (v : Value) (w : World) (hT : Tab w) (hl : Sl w v l) (hll : l.length ≤ maxLen) (hG : GoodF P K l) (ha : a < P ^ K) (ha1 : 1 ≤ a) (s : Nat) (hs : Hid (s = powQ P K (monL l) a (P ^ K - 2))) :
    Calls Tryd.prog 112 #[.agg #[.int .i64 P, .int .i64 K, v], .int .i64 a] w fun e w' => e = .returned (.tuple #[.int .i64 s, .int .i64 0]) ∧ Below w.heap.size w w' := by
  obtain ⟨A, ca, rfl, _⟩ := id hl
  have hbx : Below w.heap.size w ((w.alloc (.cells #[.int .i64 P, .int .i64 K, .slice A l.length ca] 24)).alloc (.cells #[.int .i64 a] 3)) := ((Below.refl _ _).alloc (Nat.le_refl _) _).alloc (by simp) _
  have hpair := sl_one (w.alloc (.cells #[.int .i64 P, .int .i64 K, .slice A l.length ca] 24)) a
  simp only [World.size_alloc] at hpair
  obtain ⟨fs, hu⟩ := und53
  go_enter Tryd.func112, Tryd.ntmps112
  go_wp2_with fail
  refine (open_any P K l [(a : Int)] _ _ _ (hT.below hbx) (hl.below hbx) hpair hll (by simp [maxLen])).mono ?_
  rintro e w1 ⟨z, x, y, c, f, rfl, hO, HZ, hb1⟩
  have hB1 : Below w.heap.size w w1 := hbx.trans (hb1.mono hbx.size)
  obtain rfl := open_in hG.fault (in_one hG ha) hO
  obtain ⟨rfl, rfl, rfl, rfl⟩ := HZ.out rfl
  have hnew : RB (w1.alloc (.cells #[.int .i64 0, .int .i64 0, .int .i64 0, .int .i64 0, .int .i64 0, .int .i64 0, .int .i64 0, .int .i64 0, .int .i64 0, .int .i64 0, .int .i64 0, .int .i64 0, .int .i64 0, .int .i64 0] 105)) w1.heap.size 0 0 0 (fun _ => 0) := RB.made w1 0 0 0 (fun _ => 0)
  have hRB := hnew.whole P K (ordZ (P : Int) K) (monL l)
  have hBA : Below w.heap.size w ((w1.alloc (.cells #[.int .i64 0, .int .i64 0, .int .i64 0, .int .i64 0, .int .i64 0, .int .i64 0, .int .i64 0, .int .i64 0, .int .i64 0, .int .i64 0, .int .i64 0, .int .i64 0, .int .i64 0, .int .i64 0] 105)).setRow w1.heap.size (ringRow P K (ordZ (P : Int) K) (monL l))) := bsetRow (hB1.alloc hB1.size _) hB1.size _
  have hc2 : ((w1.alloc (.cells #[.int .i64 0, .int .i64 0, .int .i64 0, .int .i64 0, .int .i64 0, .int .i64 0, .int .i64 0, .int .i64 0, .int .i64 0, .int .i64 0, .int .i64 0, .int .i64 0, .int .i64 0, .int .i64 0] 105)).setRow w1.heap.size (ringRow P K (ordZ (P : Int) K) (monL l))).cell? ⟨w1.heap.size, 2, none⟩ = some (.int .i64 (ordZ (P : Int) K)) := cell_of_row _ _ _ _ _ _ hRB
  have ho := ord_bd (P : Int) K
  have ho2 : 2 ≤ ordZ (P : Int) K := by rw [hG.ord]; have := one_lt hG.field.toRing1; omega
  have hab : ((a : Int) == 0) = false := by simp; omega
  have HS : Hid (s = powQ P K (monL l) a (ordZ (P : Int) K - 2).toNat) := by
    show s = powQ P K (monL l) a (ordZ (P : Int) K - 2).toNat
    rw [hG.ord, hs.out]
    congr 1; omega
  clear hpair hO HZ
  go_wp2_with (first
    | (refine wpList_store_row rfl 105 _ _ rfl w1.heap.size _ rfl rfl 105 _ hnew (inf53 _ _ _ _) rfl (ringRow_one _ _ _ _) ?_)
    | (refine wpList_load_row rfl 105 _ rfl w1.heap.size rfl 105 _ (0, 0) _ hRB hu rfl (inf53 _ _ _ _) ?_))
  refine (pow_any P K a _ _ (monL l) _ hG.field.toRing1 (by have := hG.le61; omega) hG.le6 hG.le64 ha (by omega) (by omega) s HS).mono ?_
  rintro e w2 ⟨rfl, hb2⟩
  go_wp2
  go_ret2
  exact ⟨rfl, hBA.trans (hb2.mono hBA.size)⟩

def zBk (f : Nat → Int) : Bool := (List.range 11).all fun t => f t == 0
theorem zBk_iff (f : Nat → Int) : zBk f = true ↔ isZ f := by
  unfold zBk isZ
  rw [List.all_eq_true]
  simp
theorem fact_no : ∀ n, n < 3 → ¬ goodAt 2 3 n := by
  intro n hn h
  have h0 : zBk (redN (digF (2 ^ 1 + 0) 2) 1 (2 : Nat) (11 - 1) (digF (2 ^ 3 + 0) 2)) = true := by decide +kernel
  have h1 : zBk (redN (digF (2 ^ 1 + 1) 2) 1 (2 : Nat) (11 - 1) (digF (2 ^ 3 + 1) 2)) = true := by decide +kernel
  have h2 : zBk (redN (digF (2 ^ 1 + 0) 2) 1 (2 : Nat) (11 - 1) (digF (2 ^ 3 + 2) 2)) = true := by decide +kernel
  have : n = 0 ∨ n = 1 ∨ n = 2 := by omega
  rcases this with rfl | rfl | rfl
  · exact h 1 (by omega) (by omega) 0 (by decide) ((zBk_iff _).1 h0)
  · exact h 1 (by omega) (by omega) 1 (by decide) ((zBk_iff _).1 h1)
  · exact h 1 (by omega) (by omega) 0 (by decide) ((zBk_iff _).1 h2)
theorem fact_yes : goodAt 2 3 3 := by
  intro e h1 h2 b hb hz
  have he : e = 1 := by omega
  subst he
  have h0 : zBk (redN (digF (2 ^ 1 + 0) 2) 1 (2 : Nat) (11 - 1) (digF (2 ^ 3 + 3) 2)) = false := by decide +kernel
  have h1 : zBk (redN (digF (2 ^ 1 + 1) 2) 1 (2 : Nat) (11 - 1) (digF (2 ^ 3 + 3) 2)) = false := by decide +kernel
  have : b = 0 ∨ b = 1 := by simp at hb; omega
  rcases this with rfl | rfl
  · rw [(zBk_iff _).2 hz] at h0; cases h0
  · rw [(zBk_iff _).2 hz] at h1; cases h1
theorem fact_ord : ordZ 2 3 = 8 := by decide +kernel
theorem fact_least {q d : Int} {l : List Int} {z : Int} (h : LeastIs 2 3 q d l z) : q = 2 ∧ d = 3 ∧ l = digL 3 2 3 ∧ z = 0 :=
  h.one (.inr ⟨2, 3, rfl, rfl, by rw [fact_ord]; decide, .inl ⟨3, by decide, fact_yes, fact_no, rfl, rfl, rfl, rfl⟩⟩)
theorem fact_good : GoodF 2 3 (digL 3 2 3) := by
  have hin : inL (2 : Int) (digL 3 2 3) := fun j hj => by
    rw [digL_length] at hj
    rw [digL_at _ _ _ _ hj]; exact digF_in 3 2 (by omega) j
  have hirr : irrP (monL (digL 3 2 3)) 3 2 := by rw [monL_dig 3 2 3 (by decide) (by decide)]; exact fact_yes
  have hF : FaultIs ((2 : Nat) : Int) ((3 : Nat) : Int) (digL 3 2 3) 0 := .inr (.inr (.inr (.inr ⟨by rw [show ((2 : Nat) : Int) = 2 from rfl, show ((3 : Nat) : Int) = 3 from rfl, fact_ord]; decide, by rw [digL_length], hin, hirr, rfl⟩)))
  obtain ⟨P, K, e1, e2, hG⟩ := good_of hF
  obtain rfl : 2 = P := by omega
  obtain rfl : 3 = K := by omega
  exact hG
theorem fact_mul : mulQ 2 3 (monL (digL 3 2 3)) 4 2 = 3 := by decide +kernel

end Go.Proofs.YtjfjdidibglhaabDoor.Fd
