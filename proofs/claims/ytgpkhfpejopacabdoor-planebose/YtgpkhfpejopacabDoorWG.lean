/- Sums and products on a true field: the document's. -/
import Derived.Test.YtgpkhfpejopacabDoorBaseB
import Derived.Deep.QuietTactic
import Derived.BigQuiet
import Derived.Laws.CopyOwn
import Derived.Test.YtgpkhfpejopacabDoorBase
import Derived.BigRegion
import Derived.Test.YtgpkhfpejopacabDoorPureB
import Derived.Test.YtgpkhfpejopacabDoorW51
import Derived.Test.YtgpkhfpejopacabDoorW34
import Derived.Test.YtgpkhfpejopacabDoorW40
import Derived.Test.YtgpkhfpejopacabDoorW42
import Derived.Test.YtgpkhfpejopacabDoorPureD
import Derived.Test.YtgpkhfpejopacabDoorW52
import Derived.Test.YtgpkhfpejopacabDoorW59
import Derived.Deep.RegionHeld3
import Derived.Test.YtgpkhfpejopacabDoorPureF
import Derived.Deep.DeepCutAuto
import Derived.Test.YtgpkhfpejopacabDoorW46
import Derived.Test.YtgpkhfpejopacabDoorAlgE
/- The walks of Least and of LeastField: the first field of an order. -/
/- The walks of low and of Fields. -/
/- The walks of Ints and Fields: are two lists, two fields the same? -/
namespace Go.Proofs.YtgpkhfpejopacabDoor.Fd
open Go.RowKit

end Go.Proofs.YtgpkhfpejopacabDoor.Fd

namespace Go.Proofs.YtgpkhfpejopacabDoor.Fd
open Go.RowKit

set_option maxHeartbeats 400000 in
theorem low_any (f : Nat → Int) (k : Nat) (w : World) (hk : 1 ≤ k) (hk' : k ≤ 11) :
    Calls Tryd.prog 21 #[.agg (prow f), .int .i64 k] w fun e w' => ∃ g cap, e = .returned (.slice (some ⟨g, 0, none⟩) k cap) ∧ w.heap.size ≤ g ∧ Own w' g k f ∧ Below w.heap.size w w' := by
  obtain ⟨i3, hi, hz0, hz1, hz2⟩ := info3
  have hmk : ∀ w : World, (Instr.makeSlice 25 (.int .i64 (k : Int)) (.int .i64 (k : Int))).run Tryd.prog w = .ok (.slice (some ⟨w.heap.size, 0, none⟩) k k) (w.alloc (.cells (madeCells #[.int .i64 0] k) 3)) := fun w => by
    have h := run_make (P := Tryd.prog) w 25 3 i3 (.int .i64 0) und22 hi hz0 .i64 .i64 k k (by omega) (by omega) (by rw [hz2]; omega) (by omega)
    rw [hz1] at h
    simpa [Value.cells] using h
  have hsz : (Tryd.prog.info? 3).map (·.size) = some 1 := by kernel_rfl
  have hrow := (Row.made w f).alloc (.cells (madeCells #[.int .i64 0] k) 3)
  have hnew : ((w.alloc (.cells (prow f) 51)).alloc (.cells (madeCells #[.int .i64 0] k) 3)).heap[w.heap.size + 1]? = some (.cells (madeCells #[.int .i64 0] k) 3 (0, 0)) := heap_alloc2_new w _ _
  clear hi
  go_enter Tryd.func21, Tryd.ntmps21
  go_wp2_with (first
    | (refine wpList_copy_own rfl _ _ 25 25 rfl 3 und22 hsz (w.heap.size + 1) 0 k k ⟨w.heap.size, 0, none⟩ 11 11 rfl rfl (madeCells #[.int .i64 0] k) 3 hnew ((List.range k).map fun j => Value.int .i64 (f j)) ?c1 ?c2 ?c3 ?c4 ?_)
    | go_in)
  case c1 => show _ = min 11 k; simp; omega
  case c2 =>
    intro j v hj
    simp only [List.getElem?_map, Option.map_eq_some_iff] at hj
    obtain ⟨z, hz, rfl⟩ := hj
    have hjk : j < k := by
      have := (List.getElem?_eq_some_iff.1 hz).1
      simpa using this
    have hzj : z = j := by
      have h := (List.getElem?_eq_some_iff.1 hz).2
      simpa using h.symm
    subst hzj
    have hx := hrow.cell z (by omega)
    by_cases e : z = 0
    · subst e; simpa [Addr.add] using hx
    · simpa [Addr.add, e] using hx
  case c3 => simp [size_madeCells]
  case c4 => intro v hv; simp at hv; obtain ⟨z, _, rfl⟩ := hv; rfl
  go_wp2
  go_ret
  refine ⟨w.heap.size + 1, k, rfl, by omega, ⟨_, setRow_heap _ _ _ _ _ _ hnew, fun j hj => ?_⟩, bsetRow (((Below.refl _ _).alloc (Nat.le_refl _) _).alloc (by simp) _) (by omega) _⟩
  simp [hj, List.getElem?_append]

end Go.Proofs.YtgpkhfpejopacabDoor.Fd

/- The walk of Fault: what is wrong with a field. -/
/- The walk of divides. -/
namespace Go.Proofs.YtgpkhfpejopacabDoor.Fd
open Go.RowKit

end Go.Proofs.YtgpkhfpejopacabDoor.Fd

namespace Go.Proofs.YtgpkhfpejopacabDoor.Fd
open Go.RowKit

end Go.Proofs.YtgpkhfpejopacabDoor.Fd

namespace Go.Proofs.YtgpkhfpejopacabDoor.Fd
open Go.RowKit

theorem one3 (p k : Int) (v : Value) (h : v.oneCell' = true) : (#[.int .i64 p, .int .i64 k, v] : Array Value).all (·.oneCell') = true := by
  have h1 : ∀ z : Int, (Value.int .i64 z).oneCell' = true := fun _ => rfl
  simp [h, h1]

set_option maxHeartbeats 1000000 in
theorem least_any (p k : Int) (w : World) (hT : Tab w) :
    Calls Tryd.prog 10 #[.int .i64 p, .int .i64 k] w fun e w' => ∃ (q d : Int) (v : Value) (l : List Int) (z : Int), e = .returned (.tuple #[.agg #[.int .i64 q, .int .i64 d, v], .int .i64 z]) ∧ Sl w' v l ∧ LeastIs p k q d l z ∧ Below w.heap.size w w' := by
  by_cases h0 : ordZ p k = 0
  · have HO : Hid (ordZ p k = 0) := h0
    have hbb : (ordZ p k == 0) = true := by simp [h0]
    clear h0
    go_enter Tryd.func10, Tryd.ntmps10
    go_wp2_with (go_at_call 18; refine (order_any p k _ (hT.alloc _)).mono ?_; rintro e w' ⟨rfl, rfl⟩)
    exact bodyPost_ret (v := .tuple #[.agg #[.int .i64 0, .int .i64 0, .slice none 0 0], .int .i64 1]) (by simp [results, Tryd.results10, go_sem]) rfl ⟨0, 0, _, [], 1, rfl, Sl.nil _, .inl ⟨HO.out, rfl, rfl, rfl, rfl⟩, (Below.refl _ _).alloc (Nat.le_refl _) _⟩
  · obtain ⟨P, K, rfl, rfl, hP, hP', hK, hK', hPK, hq⟩ := ord_nat h0
    have HN0 : Hid (ordZ (P : Int) K ≠ 0) := h0
    obtain ⟨Q, HQ⟩ : ∃ Q : Nat, Hid (Q = P ^ K) := ⟨_, rfl⟩
    rw [← HQ.out] at hq
    have hQ64 : Q ≤ 64 := by rw [HQ.out]; exact hPK
    have hQ0 : 0 < Q := by rw [HQ.out]; exact Nat.pow_pos (by omega)
    have hbb : ((Q : Int) == 0) = false := by simp; omega
    clear h0
    go_enter Tryd.func10, Tryd.ntmps10
    go_wp2_with (go_at_call 18; refine (order_any P K _ (hT.alloc _)).mono ?_; rintro e w' ⟨rfl, rfl⟩)
    go_loopw [7] (fun i wr => ∃ n : Nat, i = .int .i64 n ∧ Q ≤ n ∧ n ≤ 2 * Q ∧ Hid (∀ m, m < n - Q → ¬ goodAt P K m) ∧ FB wr w.heap.size 0 0 (.slice none 0 0) ∧ Below w.heap.size w wr) (fun i _ => (2 * Q - intOf i).toNat)
    case atStart => exact ⟨Q, rfl, by omega, by omega, (fun m hm => by omega : ∀ m, m < Q - Q → _), FB.made w 0 0 (.slice none 0 0), (Below.refl _ _).alloc (Nat.le_refl _) _⟩
    case round =>
      obtain ⟨n, rfl, hn1, hn2, HG, hF, hb⟩ := hrel
      by_cases hlt : n < 2 * Q
      · have hdec : decide ((n : Int) < 2 * Q) = true := by simp; omega
        go_wp2_with fail
        refine (polyOf_any n P _ (by omega) hP (by omega)).mono ?_
        rintro e w1 ⟨rfl, hb1⟩
        have hF1 := hF.below hb1
        have hb1' : Below w.heap.size w w1 := hb.trans (hb1.mono hb.size)
        have hFl := hF1.lt
        have hnew := Row.made0 w1
        go_wp2_with (first
          | (refine wpList_store_row rfl 51 _ _ rfl w1.heap.size (prow (digF n P)) rfl rfl 51 _ hnew (inf51 _) (by simp) (prow_one _) ?_)
          | (refine wpList_load_row rfl 51 _ rfl w1.heap.size rfl 51 _ (0, 0) _ (hnew.whole (digF n P)) und51 rfl (inf51 _) ?_))
        refine (irreducible_any (digF n P) K P _ hP (by omega) hK hPK (digF_in n P (by omega))).mono ?_
        rintro e w2 ⟨r, rfl, hr, hb2⟩
        have hbA : Below w1.heap.size w1 ((w1.alloc (.cells #[.int .i64 0, .int .i64 0, .int .i64 0, .int .i64 0, .int .i64 0, .int .i64 0, .int .i64 0, .int .i64 0, .int .i64 0, .int .i64 0, .int .i64 0] 51)).setRow w1.heap.size (prow (digF n P))) := bsetRow ((Below.refl _ _).alloc (Nat.le_refl _) _) (Nat.le_refl _) _
        have hF2 := (hF1.below hbA).below hb2
        have hR2 := (hnew.whole (digF n P)).below hb2
        have hb12 : Below w.heap.size w w2 := (hb1'.trans (hbA.mono hb1'.size)).trans (hb2.mono (hb1'.trans (hbA.mono hb1'.size)).size)
        have HE : Hid (n = P ^ K + (n - Q)) := by
          show n = P ^ K + (n - Q)
          rw [← HQ.out]; omega
        have HR : Hid (r = true ↔ goodAt P K (n - Q)) := by
          show r = true ↔ irrP (digF (P ^ K + (n - Q)) P) K P
          rw [← HE.out]; exact hr
        clear hr hnew
        cases r
        · go_wp2
          go_roundw
          case rel =>
            refine ⟨n + 1, by go_num, by omega, by omega, (fun m hm => ?_ : ∀ m, m < n + 1 - Q → _), hF2, hb12⟩
            by_cases e : m = n - Q
            · subst e; exact fun h => absurd (HR.out.2 h) Bool.false_ne_true
            · exact HG.out m (by omega)
          case measure => simp [intOf]; omega
        · go_wp2_with (refine wpList_load_row rfl 51 _ rfl w1.heap.size rfl 51 _ (0, 0) _ hR2 und51 rfl (inf51 _) ?_)
          refine (low_any (digF n P) K _ hK (by omega)).mono ?_
          rintro e w3 ⟨g, cap, rfl, hgw, hO, hb3⟩
          have hF3 := hF2.below hb3
          have hb13 : Below w.heap.size w w3 := hb12.trans (hb3.mono hb12.size)
          have hFc := (hF3.whole P K (.slice (some ⟨g, 0, none⟩) K cap)).cells
          have hlt2 := hF2.lt
          go_wp2_with (refine wpList_store_row rfl 27 _ _ rfl w.heap.size #[.int .i64 P, .int .i64 K, .slice (some ⟨g, 0, none⟩) K cap] rfl rfl 27 _ hF3 inf24 rfl (one3 _ _ _ rfl) ?_)
          refine bodyPost_ret (v := .tuple #[.agg #[.int .i64 P, .int .i64 K, .slice (some ⟨g, 0, none⟩) K cap], .int .i64 0]) (by simp [results, Tryd.results10, go_sem, hFc]) rfl ⟨P, K, _, digL (n - Q) P K, 0, rfl, ?_, .inr ⟨P, K, rfl, rfl, HN0.out, .inl ⟨n - Q, by rw [← HQ.out]; omega, HR.out.1 (by trivial), HG.out, rfl, rfl, rfl, rfl⟩⟩, bsetRow hb13 (Nat.le_refl _) _⟩
          have hs := (hO.rowOther w.heap.size #[.int .i64 P, .int .i64 K, .slice (some ⟨g, 0, none⟩) K cap] (by omega)).sl cap
          have e : (List.range K).map (digF n P) = digL (n - Q) P K := by
            unfold digL
            apply List.map_congr_left
            intro t ht
            conv => lhs; rw [HE.out]
            exact digF_low (n - Q) P K t hP (by simpa using ht)
          rw [e] at hs
          exact hs
      · have hFc := (hF.whole 0 0 (.slice none 0 0)).cells
        go_wp2_with (refine wpList_store_row rfl 27 _ _ rfl w.heap.size #[.int .i64 0, .int .i64 0, .slice none 0 0] rfl rfl 27 _ hF inf24 rfl (one3 _ _ _ rfl) ?_)
        refine bodyPost_ret (v := .tuple #[.agg #[.int .i64 0, .int .i64 0, .slice none 0 0], .int .i64 4]) (by simp [results, Tryd.results10, go_sem, hFc]) rfl ⟨0, 0, _, [], 4, rfl, Sl.nil _, .inr ⟨P, K, rfl, rfl, HN0.out, .inr ⟨fun m hm => HG.out m (by rw [← HQ.out] at hm; omega), rfl, rfl, rfl, rfl⟩⟩, bsetRow hb (Nat.le_refl _) _⟩

end Go.Proofs.YtgpkhfpejopacabDoor.Fd

/- The walk of LeastField: the first field of an order, as the document's answer has it. -/
namespace Go.Proofs.YtgpkhfpejopacabDoor.Fd
open Go.RowKit

theorem fault_dig {P K n : Nat} {z : Int} (hP : 2 ≤ P) (h0 : ordZ (P : Int) K ≠ 0) (hn : n < P ^ K) (h : FaultIs P K (digL n P K) z) : z = 0 ↔ goodAt P K n := by
  have hin : inL (P : Int) (digL n P K) := fun j hj => by
    rw [digL_length] at hj
    rw [digL_at _ _ _ _ hj]; exact digF_in n P (by omega) j
  have hlen : ((digL n P K).length : Int) = K := by rw [digL_length]
  unfold goodAt
  rw [← monL_dig n P K hP hn]
  unfold FaultIs at h
  rw [Int.toNat_natCast, Int.toNat_natCast] at h
  rcases h with ⟨a, _⟩ | ⟨_, b, _⟩ | ⟨_, _, c, _⟩ | ⟨_, _, _, d, rfl⟩ | ⟨_, _, _, d, rfl⟩
  · exact absurd a h0
  · exact absurd hlen b
  · exact absurd hin c
  · exact ⟨fun h => absurd h (by decide), fun h => absurd h d⟩
  · exact ⟨fun _ => d, fun _ => rfl⟩

end Go.Proofs.YtgpkhfpejopacabDoor.Fd

/- The walks of add and mul. -/
/- The walk of open: a field is looked at, and elements of it. -/
namespace Go.Proofs.YtgpkhfpejopacabDoor.Fd
open Go.RowKit

/-- The cells of a field that has been looked at. -/
def ringRow (p k q : Int) (f : Nat → Int) : Array Value := #[.int .i64 p, .int .i64 k, .int .i64 q, .int .i64 (f 0), .int .i64 (f 1), .int .i64 (f 2), .int .i64 (f 3), .int .i64 (f 4), .int .i64 (f 5), .int .i64 (f 6), .int .i64 (f 7), .int .i64 (f 8), .int .i64 (f 9), .int .i64 (f 10)]
def RB (w : World) (g : Nat) (p k q : Int) (f : Nat → Int) : Prop := w.heap[g]? = some (.cells (ringRow p k q f) 80 (0, 0))
theorem RB.lt {w : World} {g : Nat} {p k q : Int} {f : Nat → Int} (h : RB w g p k q f) : g < w.heap.size := (Array.getElem?_eq_some_iff.1 h).1
theorem RB.below {w w' : World} {g : Nat} {p k q : Int} {f : Nat → Int} (h : RB w g p k q f) (hb : Below w.heap.size w w') : RB w' g p k q f := (hb.block g h.lt).trans h
theorem RB.drew {w : World} {g : Nat} {p k q : Int} {f : Nat → Int} (h : RB w g p k q f) : RB w.drew g p k q f := h
theorem RB.made (w : World) (p k q : Int) (f : Nat → Int) : RB (w.alloc (.cells (ringRow p k q f) 80)) w.heap.size p k q f := heap_alloc_new w _
theorem RB.whole {w : World} {g : Nat} {p k q : Int} {f : Nat → Int} (h : RB w g p k q f) (p' k' q' : Int) (f' : Nat → Int) : RB (w.setRow g (ringRow p' k' q' f')) g p' k' q' f' := setRow_heap w g _ _ _ _ h
set_option maxRecDepth 100000 in
theorem inf53 (p k q : Int) (f : Nat → Int) : (Tryd.prog.info? 80).map (·.size) = some (ringRow p k q f).size := by kernel_rfl
theorem ringRow_one (p k q : Int) (f : Nat → Int) : (ringRow p k q f).all (·.oneCell') = true := by
  have h1 : ∀ z : Int, (Value.int .i64 z).oneCell' = true := fun _ => rfl
  simp [ringRow, h1]
set_option maxRecDepth 100000 in
theorem und53 : ∃ fs, Tryd.prog.underlying 80 = some (.struct fs) := by
  have h : (match Tryd.prog.underlying 80 with | some (.struct _) => true | _ => false) = true := by kernel_rfl
  split at h
  · exact ⟨_, by assumption⟩
  · cases h
set_option maxRecDepth 100000 in
theorem post_ring {fn : Func} {R : Ending → World → Prop} {a : Act} {w : World} {g : Nat} {p k q : Int} {f : Nat → Int} {z : Int} (hres : fn.results = #[.cell 4 80, .tmp 5])
    (hp : a.tmps.getD 4 undef = .pointer (some ⟨g, 0, none⟩)) (hz : a.tmps.getD 5 undef = .int .i64 z) (hr : RB w g p k q f) (hd : a.defers = []) (hR : R (.returned (.tuple #[.agg (ringRow p k q f), .int .i64 z])) w) : bodyPost Tryd.prog fn R .ret a w := by
  obtain ⟨fs, hu⟩ := und53
  refine bodyPost_ret ?_ hd hR
  have hp' : a.tmps[4]?.getD undef = .pointer (some ⟨g, 0, none⟩) := by simpa using hp
  have hz' : a.tmps[5]?.getD undef = .int .i64 z := by simpa using hz
  simp [results, hres, hp', hz', asAddr, run_loadVar_row w g 80 80 (ringRow p k q f) (0, 0) _ hr hu rfl (inf53 p k q f)]

/-- What open is to tell of a field and elements. -/
def OpenIs (p k : Int) (l es : List Int) (z : Int) : Prop :=
  (z ≠ 0 ∧ FaultIs p k l z) ∨ (FaultIs p k l 0 ∧ ¬ inL (ordZ p k) es ∧ z = 1) ∨ (FaultIs p k l 0 ∧ inL (ordZ p k) es ∧ z = 0)

set_option maxRecDepth 100000 in
set_option maxHeartbeats 1000000 in
theorem open_any (p k : Int) (l es : List Int) (v u : Value) (w : World) (hT : Tab w) (hl : Sl w v l) (he : Sl w u es) (hll : l.length ≤ maxLen) (hel : es.length ≤ maxLen) :
    Calls Tryd.prog 41 #[.agg #[.int .i64 p, .int .i64 k, v], u] w fun e w' => ∃ (z a b c : Int) (f : Nat → Int), e = .returned (.tuple #[.agg (ringRow a b c f), .int .i64 z]) ∧ OpenIs p k l es z ∧ Hid (z = 0 → a = p ∧ b = k ∧ c = ordZ p k ∧ f = monL l) ∧ Below w.heap.size w w' := by
  obtain ⟨A, ca, rfl, _⟩ := id hl
  have hF0 : FB ((w.alloc (.cells #[.int .i64 p, .int .i64 k, .slice A l.length ca] 27)).alloc (.cells #[.int .i64 0, .int .i64 0, .int .i64 0, .int .i64 0, .int .i64 0, .int .i64 0, .int .i64 0, .int .i64 0, .int .i64 0, .int .i64 0, .int .i64 0, .int .i64 0, .int .i64 0, .int .i64 0] 80)) w.heap.size p k (.slice A l.length ca) := (FB.made w p k _).below ((Below.refl _ _).alloc (Nat.le_refl _) _)
  have hR0 : RB ((w.alloc (.cells #[.int .i64 p, .int .i64 k, .slice A l.length ca] 27)).alloc (.cells #[.int .i64 0, .int .i64 0, .int .i64 0, .int .i64 0, .int .i64 0, .int .i64 0, .int .i64 0, .int .i64 0, .int .i64 0, .int .i64 0, .int .i64 0, .int .i64 0, .int .i64 0, .int .i64 0] 80)) (w.heap.size + 1) 0 0 0 (fun _ => 0) := by
    have h := RB.made (w.alloc (.cells #[.int .i64 p, .int .i64 k, .slice A l.length ca] 27)) 0 0 0 (fun _ => 0)
    simpa [ringRow] using h
  have hB0 : Below w.heap.size w ((w.alloc (.cells #[.int .i64 p, .int .i64 k, .slice A l.length ca] 27)).alloc (.cells #[.int .i64 0, .int .i64 0, .int .i64 0, .int .i64 0, .int .i64 0, .int .i64 0, .int .i64 0, .int .i64 0, .int .i64 0, .int .i64 0, .int .i64 0, .int .i64 0, .int .i64 0, .int .i64 0] 80)) := ((Below.refl _ _).alloc (Nat.le_refl _) _).alloc (by simp) _
  by_cases h0 : ordZ p k = 0
  · have HO : Hid (ordZ p k = 0) := h0
    have hbb : (ordZ p k == 0) = true := by simp [h0]
    clear h0
    go_enter Tryd.func41, Tryd.ntmps41
    go_wp2_with (go_at_call 18; refine (order_any p k _ ((hT.alloc _).alloc _)).mono ?_; rintro e w' ⟨rfl, rfl⟩)
    exact post_ring rfl rfl rfl hR0 rfl ⟨1, 0, 0, 0, fun _ => 0, rfl, .inl ⟨by decide, .inl ⟨HO.out, rfl⟩⟩, (fun h => absurd h (by decide) : (1 : Int) = 0 → _), hB0⟩
  · obtain ⟨P, K, rfl, rfl, hP, hP', hK, hK', hPK, hq⟩ := ord_nat h0
    have HN0 : Hid (ordZ (P : Int) K ≠ 0) := h0
    obtain ⟨Q, HQ⟩ : ∃ Q : Nat, Hid (Q = P ^ K) := ⟨_, rfl⟩
    rw [← HQ.out] at hq
    have hQ64 : Q ≤ 64 := by rw [HQ.out]; exact hPK
    have hQ0 : 0 < Q := by rw [HQ.out]; exact Nat.pow_pos (by omega)
    have hbb : ((Q : Int) == 0) = false := by simp; omega
    have HQZ : Hid (ordZ (P : Int) K = Q) := hq
    clear h0
    by_cases h1 : (l.length : Int) = K
    · have hlK : l.length = K := by omega
      rw [hlK] at hl hF0 hR0 hB0
      rw [hlK]
      have hsl0 := hl.below hB0
      have hel0 := he.below hB0
      have hne : ((K : Int) != K) = false := by simp
      cases hin : inLB (P : Int) l
      · have HIN : Hid (¬ inL (P : Int) l) := fun h => by rw [(inLB_iff _ _).2 h] at hin; cases hin
        go_enter Tryd.func41, Tryd.ntmps41
        go_wp2_with (go_at_call 18; refine (order_any P K _ ((hT.alloc _).alloc _)).mono ?_; rintro e w' ⟨rfl, rfl⟩)
        refine (allBelow_any l _ P _ hsl0 hll).mono ?_
        rintro e w' ⟨rfl, rfl⟩
        go_wp2
        exact post_ring rfl rfl rfl hR0 rfl ⟨1, 0, 0, 0, fun _ => 0, rfl, .inl ⟨by decide, .inr (.inr (.inl ⟨HN0.out, by omega, HIN.out, rfl⟩))⟩, (fun h => absurd h (by decide) : (1 : Int) = 0 → _), hB0⟩
      · have HIN : Hid (inL (P : Int) l) := (inLB_iff _ _).1 hin
        have hmin := monL_in (l := l) (p := (P : Int)) (by omega) HIN.out
        go_enter Tryd.func41, Tryd.ntmps41
        go_wp2_with (go_at_call 18; refine (order_any P K _ ((hT.alloc _).alloc _)).mono ?_; rintro e w' ⟨rfl, rfl⟩)
        refine (allBelow_any l _ P _ hsl0 hll).mono ?_
        rintro e w' ⟨rfl, rfl⟩
        go_wp2_with fail
        refine (monic_any l K _ _ hsl0 hlK hK (by omega)).mono ?_
        rintro e w1 ⟨rfl, hb1⟩
        have hF1 := hF0.below hb1
        have hR1 := hR0.below hb1
        have hel1 := hel0.below hb1
        have hB1 : Below w.heap.size w w1 := hB0.trans (hb1.mono hB0.size)
        have hFc1 := hF1.cells
        have hFl := hR1.lt
        have hnew := Row.made0 w1
        have hbA : Below w1.heap.size w1 ((w1.alloc (.cells #[.int .i64 0, .int .i64 0, .int .i64 0, .int .i64 0, .int .i64 0, .int .i64 0, .int .i64 0, .int .i64 0, .int .i64 0, .int .i64 0, .int .i64 0] 51)).setRow w1.heap.size (prow (monL l))) := bsetRow ((Below.refl _ _).alloc (Nat.le_refl _) _) (Nat.le_refl _) _
        have hFcA := (hF1.below hbA).cells
        go_wp2_with (first
          | (refine wpList_store_row rfl 51 _ _ rfl w1.heap.size (prow (monL l)) rfl rfl 51 _ hnew (inf51 _) (by simp) (prow_one _) ?_)
          | (refine wpList_load_row rfl 51 _ rfl w1.heap.size rfl 51 _ (0, 0) _ (hnew.whole (monL l)) und51 rfl (inf51 _) ?_))
        refine (irreducible_any (monL l) K P _ hP (by omega) hK hPK hmin).mono ?_
        rintro e w2 ⟨r, rfl, hr, hb2⟩
        have hF2 := (hF1.below hbA).below hb2
        have hR2 := (hR1.below hbA).below hb2
        have hM2 := (hnew.whole (monL l)).below hb2
        have hel2 := (hel1.below hbA).below hb2
        have hBA : Below w.heap.size w ((w1.alloc (.cells #[.int .i64 0, .int .i64 0, .int .i64 0, .int .i64 0, .int .i64 0, .int .i64 0, .int .i64 0, .int .i64 0, .int .i64 0, .int .i64 0, .int .i64 0] 51)).setRow w1.heap.size (prow (monL l))) := hB1.trans (hbA.mono hB1.size)
        have hB2 : Below w.heap.size w w2 := hBA.trans (hb2.mono hBA.size)
        have hFc2 := hF2.cells
        have HR : Hid (r = true ↔ irrP (monL l) K P) := hr
        clear hr hnew hbA hBA hFcA hFc1 hF0 hR0 hF1 hR1 hel0 hel1 hB0 hb1 hb2 hsl0 hin
        cases r
        · go_wp2_with (first
            | (refine wpList_store_row rfl 80 _ _ rfl (w.heap.size + 1) (ringRow 0 0 0 fun _ => 0) rfl rfl 80 _ hR2 (inf53 _ _ _ _) rfl (ringRow_one _ _ _ _) ?_))
          refine post_ring rfl rfl rfl (hR2.whole 0 0 0 fun _ => 0) rfl ⟨4, 0, 0, 0, fun _ => 0, rfl, .inl ⟨by decide, .inr (.inr (.inr (.inl ⟨HN0.out, by omega, HIN.out, fun h => ?_, rfl⟩)))⟩, (fun h => absurd h (by decide) : (4 : Int) = 0 → _), bsetRow hB2 (by omega) _⟩
          rw [Int.toNat_natCast, Int.toNat_natCast] at h
          exact absurd (HR.out.2 h) Bool.false_ne_true
        · have hirr : irrP (monL l) K P := HR.out.1 rfl
          have HF : Hid (FaultIs (P : Int) K l 0) := .inr (.inr (.inr (.inr ⟨HN0.out, by omega, HIN.out, by rw [Int.toNat_natCast, Int.toNat_natCast]; exact hirr, rfl⟩)))
          clear hirr
          go_wp2_with fail
          refine (allBelow_any es u Q _ hel2 hel).mono ?_
          rintro e w' ⟨rfl, rfl⟩
          cases hes : inLB (Q : Int) es
          · go_wp2_with (first
              | (refine wpList_store_row rfl 80 _ _ rfl (w.heap.size + 1) (ringRow 0 0 0 fun _ => 0) rfl rfl 80 _ hR2 (inf53 _ _ _ _) rfl (ringRow_one _ _ _ _) ?_))
            refine post_ring rfl rfl rfl (hR2.whole 0 0 0 fun _ => 0) rfl ⟨1, 0, 0, 0, fun _ => 0, rfl, .inr (.inl ⟨HF.out, fun h => ?_, rfl⟩), (fun h => absurd h (by decide) : (1 : Int) = 0 → _), bsetRow hB2 (by omega) _⟩
            rw [HQZ.out] at h
            rw [(inLB_iff _ _).2 h] at hes
            cases hes
          · go_wp2_with (first
              | (refine wpList_load_row rfl 51 _ rfl w1.heap.size rfl 51 #[.int .i64 (monL l 0), .int .i64 (monL l 1), .int .i64 (monL l 2), .int .i64 (monL l 3), .int .i64 (monL l 4), .int .i64 (monL l 5), .int .i64 (monL l 6), .int .i64 (monL l 7), .int .i64 (monL l 8), .int .i64 (monL l 9), .int .i64 (monL l 10)] (0, 0) _ hM2 und51 rfl (inf51 (monL l)) ?_)
              | (refine wpList_store_row rfl 80 _ _ rfl (w.heap.size + 1) (ringRow P K Q (monL l)) rfl rfl 80 _ hR2 (inf53 _ _ _ _) rfl (ringRow_one _ _ _ _) ?_))
            refine post_ring rfl rfl rfl (hR2.whole P K Q (monL l)) rfl ⟨0, P, K, Q, monL l, rfl, .inr (.inr ⟨HF.out, ?_, rfl⟩), (fun _ => ⟨rfl, rfl, HQZ.out.symm, rfl⟩ : (0 : Int) = 0 → _), bsetRow hB2 (by omega) _⟩
            rw [HQZ.out]; exact (inLB_iff _ _).1 hes
    · have hl1 : Hid ((l.length : Int) ≠ K) := h1
      have hne : ((l.length : Int) != (K : Int)) = true := by simpa using h1
      clear h1
      go_enter Tryd.func41, Tryd.ntmps41
      go_wp2_with (go_at_call 18; refine (order_any P K _ ((hT.alloc _).alloc _)).mono ?_; rintro e w' ⟨rfl, rfl⟩)
      exact post_ring rfl rfl rfl hR0 rfl ⟨2, 0, 0, 0, fun _ => 0, rfl, .inl ⟨by decide, .inr (.inl ⟨HN0.out, hl1.out, rfl⟩)⟩, (fun h => absurd h (by decide) : (2 : Int) = 0 → _), hB0⟩

end Go.Proofs.YtgpkhfpejopacabDoor.Fd

namespace Go.Proofs.YtgpkhfpejopacabDoor.Fd
open Go.RowKit

theorem keepS {w W W1 : World} {g : Nat} {x : Value} (h : W.cell? ⟨g, 0, none⟩ = some x ∧ Below w.heap.size w W) (hb : Below W.heap.size W W1) : W1.cell? ⟨g, 0, none⟩ = some x ∧ Below w.heap.size w W1 :=
  ⟨(hb.cell (p := ⟨g, 0, none⟩) (block_lt_of_cell h.1)).trans h.1, h.2.trans (hb.mono h.2.size)⟩

set_option maxRecDepth 100000 in
set_option maxHeartbeats 1000000 in
theorem add_any (P K a b : Nat) (Q : Int) (f : Nat → Int) (w : World) (hP : 2 ≤ P) (hP' : P ≤ 64) (hK : 1 ≤ K) (hK' : K ≤ 6) (hPK : P ^ K ≤ 64) (ha : a < P ^ K) (hb : b < P ^ K) :
    Calls Tryd.prog 56 #[.agg (ringRow P K Q f), .int .i64 a, .int .i64 b] w fun e w' => e = .returned (.int .i64 (hor (plusF (digF a P) (digF b P) P) P K K)) ∧ Below w.heap.size w w' := by
  have hSt : ((w.alloc (.cells (ringRow P K Q f) 80)).drew).cell? ⟨w.heap.size, 0, none⟩ = some (.int .i64 P) ∧ Below w.heap.size w ((w.alloc (.cells (ringRow P K Q f) 80)).drew) :=
    ⟨(cell_of_row (w.alloc (.cells (ringRow P K Q f) 80)) w.heap.size 0 _ _ _ (RB.made w P K Q f)), ((Below.refl _ _).alloc (Nat.le_refl _) _).drew⟩
  go_enter Tryd.func56, Tryd.ntmps56
  go_wp2
  go_region_held3 (fun w' => w'.cell? ⟨w.heap.size, 0, none⟩ = some (.int .i64 P) ∧ Below w.heap.size w w') (first | assumption | go_keep)
    (first
      | (go_at_call_of 19 (Value.int .i64 (a : Int)); refine (polyOf_any a P _ (by omega) hP hP').mono ?_; rintro e w1 ⟨rfl, hb1⟩; have hS1 := keepS (by assumption) hb1)
      | (go_at_call_of 19 (Value.int .i64 (b : Int)); refine (polyOf_any b P _ (by omega) hP hP').mono ?_; rintro e w2 ⟨rfl, hb2⟩; have hS2 := keepS (by assumption) hb2)
      | (go_at_call 62; refine (plus_any _ _ P _ hP hP' (digF_in a P (by omega)) (digF_in b P (by omega))).mono ?_; rintro e w3 ⟨rfl, hb3⟩; have hS3 := keepS (by assumption) hb3)
      | (go_at_call 55; refine (number_any _ P K _ hP hP' hK hK' hPK (plusF_in _ _ P (by omega)) ?_).mono ?_; exact fun t ht _ => plus_small ha hb hP t ht; rintro e w4 ⟨rfl, hb4⟩; have hS4 := keepS (by assumption) hb4))
  all_goals (go_wp2; go_ret; exact ⟨rfl, hS4.2⟩)

end Go.Proofs.YtgpkhfpejopacabDoor.Fd

/- The walk of Times of the document's answer; the two products are one. -/
/- The walk of mul. -/
namespace Go.Proofs.YtgpkhfpejopacabDoor.Fd
open Go.RowKit

def rowL (f : Nat → Int) : List Value := (List.range 11).map fun j => Value.int .i64 (f j)
theorem rowL_length (f : Nat → Int) : (rowL f).length = 11 := by simp [rowL]
theorem rowL_one (f : Nat → Int) : ∀ v ∈ rowL f, v.oneCell' = true := by
  intro v hv
  simp only [rowL, List.mem_map] at hv
  obtain ⟨j, _, rfl⟩ := hv
  rfl
set_option maxRecDepth 100000 in
theorem rowL_size (f : Nat → Int) : (Tryd.prog.info? 51).map (·.size) = some (rowL f).length := by rw [rowL_length]; kernel_rfl
theorem rangeAt_below {W W1 : World} {g o : Nat} {cs : List Value} (h : W.rangeAt g o cs) (hb : Below W.heap.size W W1) : W1.rangeAt g o cs :=
  fun j v hv => (hb.cell (p := ⟨g, o + j, none⟩) (block_lt_of_cell (h j v hv))).trans (h j v hv)
theorem there_below {W W1 : World} {g o n : Nat} (h : W.there g o n) (hb : Below W.heap.size W W1) : W1.there g o n := fun j hj => by
  obtain ⟨h1, h2⟩ := h j hj
  obtain ⟨v, hv⟩ := Option.isSome_iff_exists.1 h1
  have hl := block_lt_of_cell hv
  exact ⟨by rw [hb.cell (p := ⟨g, o + j, none⟩) hl]; exact h1, by rw [hb.frozen (p := ⟨g, o + j, none⟩) hl]; exact h2⟩
theorem bsetCells {B : Nat} {w0 : World} (g : Nat) (hg : B ≤ g) : ∀ (vs : List Value) (o : Nat) (w : World), Below B w0 w → Below B w0 (w.setCells g o vs)
  | [], _, _, h => h
  | v :: r, o, _, h => bsetCells g hg r (o + 1) _ (h.setCell hg v)
theorem RS.below {w W W1 : World} {P K : Int} {M : List Value} (h : W.cell? ⟨w.heap.size, 0, none⟩ = some (.int .i64 P) ∧ W.cell? ⟨w.heap.size, 1, none⟩ = some (.int .i64 K) ∧ W.rangeAt w.heap.size 3 M ∧ Below w.heap.size w W) (hb : Below W.heap.size W W1) : W1.cell? ⟨w.heap.size, 0, none⟩ = some (.int .i64 P) ∧ W1.cell? ⟨w.heap.size, 1, none⟩ = some (.int .i64 K) ∧ W1.rangeAt w.heap.size 3 M ∧ Below w.heap.size w W1 :=
  ⟨(hb.cell (p := ⟨w.heap.size, 0, none⟩) (block_lt_of_cell h.1)).trans h.1, (hb.cell (p := ⟨w.heap.size, 1, none⟩) (block_lt_of_cell h.2.1)).trans h.2.1, rangeAt_below h.2.2.1 hb, h.2.2.2.trans (hb.mono h.2.2.2.size)⟩
theorem RS.stored {w W : World} {P K : Int} {M : List Value} {g n : Nat} {vs : List Value} (h : W.cell? ⟨w.heap.size, 0, none⟩ = some (.int .i64 P) ∧ W.cell? ⟨w.heap.size, 1, none⟩ = some (.int .i64 K) ∧ W.rangeAt w.heap.size 3 M ∧ Below w.heap.size w W) (hg : w.heap.size < g ∧ W.there g 0 n) :
    (W.setCells g 0 vs).cell? ⟨w.heap.size, 0, none⟩ = some (.int .i64 P) ∧ (W.setCells g 0 vs).cell? ⟨w.heap.size, 1, none⟩ = some (.int .i64 K) ∧ (W.setCells g 0 vs).rangeAt w.heap.size 3 M ∧ Below w.heap.size w (W.setCells g 0 vs) := by
  have hne : w.heap.size ≠ g := by omega
  exact ⟨(World.cell?_setCells_out g vs 0 W _ (fun e _ => absurd e hne)).trans h.1, (World.cell?_setCells_out g vs 0 W _ (fun e _ => absurd e hne)).trans h.2.1, World.rangeAt_setCells_apart h.2.2.1 g 0 vs (.inl hne), bsetCells g (by omega) vs 0 W h.2.2.2⟩
theorem madeThere {w W : World} {P K : Int} {M : List Value} (h : W.cell? ⟨w.heap.size, 0, none⟩ = some (.int .i64 P) ∧ W.cell? ⟨w.heap.size, 1, none⟩ = some (.int .i64 K) ∧ W.rangeAt w.heap.size 3 M ∧ Below w.heap.size w W) : w.heap.size < W.heap.size ∧ (W.alloc (.cells #[.int .i64 0, .int .i64 0, .int .i64 0, .int .i64 0, .int .i64 0, .int .i64 0, .int .i64 0, .int .i64 0, .int .i64 0, .int .i64 0, .int .i64 0] 51)).there W.heap.size 0 11 := by
  refine ⟨by simpa using block_lt_of_cell h.1, fun j hj => ?_⟩
  have hr := Row.made0 W
  rw [Nat.zero_add]
  exact ⟨by rw [hr.cell j hj]; rfl, hr.frozen j⟩
theorem RS2 {w W W1 : World} {P K : Int} {L M : List Value} {g : Nat} (h : W.rangeAt g 0 L ∧ W.cell? ⟨w.heap.size, 0, none⟩ = some (.int .i64 P) ∧ W.cell? ⟨w.heap.size, 1, none⟩ = some (.int .i64 K) ∧ W.rangeAt w.heap.size 3 M ∧ Below w.heap.size w W) (hb : Below W.heap.size W W1) : W1.rangeAt g 0 L ∧ W1.cell? ⟨w.heap.size, 0, none⟩ = some (.int .i64 P) ∧ W1.cell? ⟨w.heap.size, 1, none⟩ = some (.int .i64 K) ∧ W1.rangeAt w.heap.size 3 M ∧ Below w.heap.size w W1 :=
  ⟨rangeAt_below h.1 hb, RS.below h.2 hb⟩
theorem rangeOf {w W : World} {g : Nat} {L : List Value} (hl : L.length = 11) (h : w.heap.size < g ∧ W.there g 0 11) : (W.setCells g 0 L).rangeAt g 0 L := World.rangeAt_setCells_same W g 0 L (by rw [hl]; exact h.2)
theorem thereB {w W W1 : World} {g n : Nat} (h : w.heap.size < g ∧ W.there g 0 n) (hb : Below W.heap.size W W1) : w.heap.size < g ∧ W1.there g 0 n := ⟨h.1, there_below h.2 hb⟩
theorem times_L (f g : Nat → Int) (p : Nat) (L : List Value) (hL : Hid (L = rowL (mulN f g p 6 6))) (w : World) (hp : 2 ≤ p) (hp' : p ≤ 64) (hf : inP p f) (hg : inP p g) :
    Calls Tryd.prog 54 #[.agg (prow f), .agg (prow g), .int .i64 p] w fun e w' => e = .returned (.agg L.toArray) ∧ Below w.heap.size w w' := by
  rw [hL.out]; exact times_any f g p w hp hp' hf hg
theorem modulo_L (f m : Nat → Int) (d p : Nat) (L M : List Value) (hL : Hid (L = rowL f)) (hM : Hid (M = rowL m)) (w : World) (hp : 2 ≤ p) (hp' : p ≤ 64) (hd : 1 ≤ d) (hd6 : d ≤ 6) (hf : inP p f) (hm : inP p m) :
    Calls Tryd.prog 34 #[.agg L.toArray, .agg M.toArray, .int .i64 d, .int .i64 p] w fun e w' => e = .returned (.agg (prow (redN m d p (11 - d) f))) ∧ Below w.heap.size w w' := by
  rw [hL.out, hM.out]; exact modulo_any f m d p w hp hp' hd hd6 hf hm

set_option linter.unusedSimpArgs false in
set_option maxRecDepth 100000 in
set_option maxHeartbeats 2000000 in
theorem mul_any (P K a b : Nat) (Q : Int) (f : Nat → Int) (w : World) (hP : 2 ≤ P) (hP' : P ≤ 64) (hK : 1 ≤ K) (hK' : K ≤ 6) (hPK : P ^ K ≤ 64) (ha : a < P ^ K) (hb : b < P ^ K) (hf : inP P f) (hfK : Hid (f K = 1)) :
    Calls Tryd.prog 43 #[.agg (ringRow P K Q f), .int .i64 a, .int .i64 b] w fun e w' => e = .returned (.int .i64 (hor (redN f K P (11 - K) (mulN (digF a P) (digF b P) P 6 6)) P K K)) ∧ Below w.heap.size w w' := by
  obtain ⟨L, HL⟩ : ∃ L, Hid (L = rowL (mulN (digF a P) (digF b P) P 6 6)) := ⟨_, rfl⟩
  obtain ⟨M, HM⟩ : ∃ M, Hid (M = rowL f) := ⟨_, rfl⟩
  have hRB := RB.made w P K Q f
  have hSt : ((w.alloc (.cells (ringRow P K Q f) 80)).drew).cell? ⟨w.heap.size, 0, none⟩ = some (.int .i64 P) ∧ ((w.alloc (.cells (ringRow P K Q f) 80)).drew).cell? ⟨w.heap.size, 1, none⟩ = some (.int .i64 K) ∧ ((w.alloc (.cells (ringRow P K Q f) 80)).drew).rangeAt w.heap.size 3 M ∧ Below w.heap.size w ((w.alloc (.cells (ringRow P K Q f) 80)).drew) := by
    rw [HM.out]
    refine ⟨(cell_of_row (w.alloc (.cells (ringRow P K Q f) 80)) w.heap.size 0 _ _ _ hRB), (cell_of_row (w.alloc (.cells (ringRow P K Q f) 80)) w.heap.size 1 _ _ _ hRB), fun j v hv => ?_, ((Below.refl _ _).alloc (Nat.le_refl _) _).drew⟩
    have h := cell_of_row (w.alloc (.cells (ringRow P K Q f) 80)) w.heap.size (3 + j) _ _ _ hRB
    have hj : j < 11 := by
      have := (List.getElem?_eq_some_iff.1 hv).1
      rwa [rowL_length] at this
    have e : (ringRow P K Q f)[3 + j]? = (rowL f)[j]? := by
      have : j = 0 ∨ j = 1 ∨ j = 2 ∨ j = 3 ∨ j = 4 ∨ j = 5 ∨ j = 6 ∨ j = 7 ∨ j = 8 ∨ j = 9 ∨ j = 10 := by omega
      rcases this with rfl | rfl | rfl | rfl | rfl | rfl | rfl | rfl | rfl | rfl | rfl <;> rfl
    exact h.trans (e.trans hv)
  have hlen : L.length = 11 := by rw [HL.out]; exact rowL_length _
  have hone : ∀ v ∈ L, v.oneCell' = true := by rw [HL.out]; exact rowL_one _
  have hsz : (Tryd.prog.info? 51).map (·.size) = some L.length := by rw [HL.out]; exact rowL_size _
  clear hRB
  go_enter Tryd.func43, Tryd.ntmps43
  go_upto_region 1 with fail
  go_cut [7] (fun s W => ∃ g, s = .pointer (some ⟨g, 0, none⟩) ∧ W.rangeAt g 0 L ∧ W.cell? ⟨w.heap.size, 0, none⟩ = some (.int .i64 P) ∧ W.cell? ⟨w.heap.size, 1, none⟩ = some (.int .i64 K) ∧ W.rangeAt w.heap.size 3 M ∧ Below w.heap.size w W)
  case first =>
    have hM0 : w.heap.size < w.heap.size + 1 ∧ (((w.alloc (.cells (ringRow P K Q f) 80)).alloc (.cells #[.int .i64 0, .int .i64 0, .int .i64 0, .int .i64 0, .int .i64 0, .int .i64 0, .int .i64 0, .int .i64 0, .int .i64 0, .int .i64 0, .int .i64 0] 51)).drew).there (w.heap.size + 1) 0 11 := by
      refine ⟨by omega, ?_⟩
      have h := (madeThere hSt).2
      have e : ((w.alloc (.cells (ringRow P K Q f) 80)).drew).heap.size = w.heap.size + 1 := by simp
      rw [e] at h
      exact h
    go_region_held3 (fun w' => w'.cell? ⟨w.heap.size, 0, none⟩ = some (.int .i64 P) ∧ w'.cell? ⟨w.heap.size, 1, none⟩ = some (.int .i64 K) ∧ w'.rangeAt w.heap.size 3 M ∧ Below w.heap.size w w') (first | exact RS.stored (by assumption) (by assumption) | exact RS.below (by assumption) ((Below.refl _ _).alloc (Nat.le_refl _) _) | assumption)
      (first
        | (go_at_call_of 19 (Value.int .i64 (a : Int)); refine (polyOf_any a P _ (by omega) hP hP').mono ?_; rintro e w1 ⟨rfl, hb1⟩; have hS1 := RS.below (by assumption) hb1; have hM1 := madeThere hS1; try (have ht1 := thereB (w := w) (by assumption) hb1))
        | (go_at_call_of 19 (Value.int .i64 (b : Int)); refine (polyOf_any b P _ (by omega) hP hP').mono ?_; rintro e w2 ⟨rfl, hb2⟩; have hS2 := RS.below (by assumption) hb2; have hM2 := madeThere hS2; try (have ht2 := thereB (w := w) (by assumption) hb2))
        | (go_at_call 54; refine (times_L _ _ P L HL _ hP hP' (digF_in a P (by omega)) (digF_in b P (by omega))).mono ?_; rintro e w3 ⟨rfl, hb3⟩; have hS3 := RS.below (by assumption) hb3; have hM3 := madeThere hS3; try (have ht3 := thereB (w := w) (by assumption) hb3)))
    all_goals
      go_wp2_with fail
      go_meet
      case rel =>
        refine ⟨_, rfl, rangeOf hlen (by assumption), ?_⟩
        first
          | exact RS.stored (by assumption) (by assumption)
          | exact RS.stored (RS.below (by assumption) ((Below.refl _ _).alloc (Nat.le_refl _) _)) (by assumption)
  case rest =>
    obtain ⟨g, rfl, hS⟩ := hcut
    have hS' : wc.drew.rangeAt g 0 L ∧ wc.drew.cell? ⟨w.heap.size, 0, none⟩ = some (.int .i64 P) ∧ wc.drew.cell? ⟨w.heap.size, 1, none⟩ = some (.int .i64 K) ∧ wc.drew.rangeAt w.heap.size 3 M ∧ Below w.heap.size w wc.drew := ⟨hS.1, hS.2.1, hS.2.2.1, hS.2.2.2.1, hS.2.2.2.2.drew⟩
    have hu51 := und51
    have hszM : (Tryd.prog.info? 51).map (·.size) = some M.length := by rw [HM.out]; exact rowL_size _
    have hF := mulN_in (a := digF a P) (b := digF b P) (j := 6) (show (0 : Int) < P by omega) 6
    have hR := redN_in (m := f) (d := K) (show (0 : Int) < P by omega) (11 - K) _ hF
    go_wp2_with fail
    refine wp_region_noPanic ?_
    refine wp_region_held_drew (S := fun w' => w'.rangeAt g 0 L ∧ w'.cell? ⟨w.heap.size, 0, none⟩ = some (.int .i64 P) ∧ w'.cell? ⟨w.heap.size, 1, none⟩ = some (.int .i64 K) ∧ w'.rangeAt w.heap.size 3 M ∧ Below w.heap.size w w') (by kernel_rfl) hS' (fun hSx => ?_)
    refine wpAnyH_take (i := 0) (v := .agg L.toArray) rfl (by kernel_rfl) (by kernel_rfl) (by kernel_rfl) (fun _ _ _ h => h) (yieldsIf_load_mid (by rfl) 51 _ rfl g 0 rfl L _ (fun _ h => h.1) und51 rfl hsz) hSx ?_
    try simp only [Act.put, List.setIfInBounds_toArray, List.set_cons_zero, List.set_cons_succ]
    refine wpAnyH_take (i := 1) (v := .pointer (some ⟨w.heap.size, 3, none⟩)) rfl (by kernel_rfl) (by kernel_rfl) (by kernel_rfl) (fun _ _ _ h => h) (Or.inl ⟨by rfl, fun w' hSw => by (try dsimp only at hSw); go_simp⟩) hSx ?_
    try simp only [Act.put, List.setIfInBounds_toArray, List.set_cons_zero, List.set_cons_succ]
    refine wpAnyH_take (i := 2) (v := .agg M.toArray) rfl (by kernel_rfl) (by kernel_rfl) (by kernel_rfl) (fun _ _ _ h => h) (yieldsIf_load_mid (by rfl) 51 _ rfl w.heap.size 3 rfl M _ (fun _ h => h.2.2.2.1) und51 rfl hszM) hSx ?_
    try simp only [Act.put, List.setIfInBounds_toArray, List.set_cons_zero, List.set_cons_succ]
    refine wpAnyH_take (i := 3) (v := .pointer (some ⟨w.heap.size, 1, none⟩)) rfl (by kernel_rfl) (by kernel_rfl) (by kernel_rfl) (fun _ _ _ h => h) (Or.inl ⟨by rfl, fun w' hSw => by (try dsimp only at hSw); go_simp⟩) hSx ?_
    try simp only [Act.put, List.setIfInBounds_toArray, List.set_cons_zero, List.set_cons_succ]
    refine wpAnyH_take (i := 4) (v := .int .i64 K) rfl (by kernel_rfl) (by kernel_rfl) (by kernel_rfl) (fun _ _ _ h => h) (Or.inl ⟨by rfl, fun w' hSw => by (try dsimp only at hSw); go_simp⟩) hSx ?_
    try simp only [Act.put, List.setIfInBounds_toArray, List.set_cons_zero, List.set_cons_succ]
    refine wpAnyH_take (i := 5) (v := .pointer (some ⟨w.heap.size, 0, none⟩)) rfl (by kernel_rfl) (by kernel_rfl) (by kernel_rfl) (fun _ _ _ h => h) (Or.inl ⟨by rfl, fun w' hSw => by (try dsimp only at hSw); go_simp⟩) hSx ?_
    try simp only [Act.put, List.setIfInBounds_toArray, List.set_cons_zero, List.set_cons_succ]
    refine wpAnyH_take (i := 6) (v := .int .i64 P) rfl (by kernel_rfl) (by kernel_rfl) (by kernel_rfl) (fun _ _ _ h => h) (Or.inl ⟨by rfl, fun w' hSw => by (try dsimp only at hSw); go_simp⟩) hSx ?_
    try simp only [Act.put, List.setIfInBounds_toArray, List.set_cons_zero, List.set_cons_succ]
    refine wpAnyH_take (i := 8) (v := .pointer (some ⟨w.heap.size, 0, none⟩)) rfl (by kernel_rfl) (by kernel_rfl) (by kernel_rfl) (fun _ _ _ h => h) (Or.inl ⟨by rfl, fun w' hSw => by (try dsimp only at hSw); go_simp⟩) hSx ?_
    try simp only [Act.put, List.setIfInBounds_toArray, List.set_cons_zero, List.set_cons_succ]
    refine wpAnyH_take (i := 9) (v := .int .i64 P) rfl (by kernel_rfl) (by kernel_rfl) (by kernel_rfl) (fun _ _ _ h => h) (Or.inl ⟨by rfl, fun w' hSw => by (try dsimp only at hSw); go_simp⟩) hSx ?_
    try simp only [Act.put, List.setIfInBounds_toArray, List.set_cons_zero, List.set_cons_succ]
    refine wpAnyH_ready (rs := [7]) (by kernel_rfl) (by simp) ?_
    refine AllReadyH.cons rfl (fun J hJ => ?_) AllReadyH.nil
    go_simp
    refine (modulo_L _ f K P L M HL HM _ hP hP' hK hK' hF hf).mono ?_
    rintro e w1 ⟨rfl, hb1⟩
    have hS1 := RS2 hSx hb1
    go_wp2_with fail
    refine hJ.out _ _ hS1 (fun hSy => ?_)
    clear hJ J
    try simp only [Act.put, List.setIfInBounds_toArray, List.set_cons_zero, List.set_cons_succ]
    refine wpAnyH_ready (rs := [10]) (by kernel_rfl) (by simp) ?_
    refine AllReadyH.cons rfl (fun J hJ => ?_) AllReadyH.nil
    go_simp
    refine (number_any _ P K _ hP hP' hK hK' hPK hR (fun t h1 h2 => redN_zero hfK.out _ _ t h1 (by omega))).mono ?_
    rintro e w2 ⟨rfl, hb2⟩
    have hS2 := RS2 hSy hb2
    go_wp2_with fail
    refine hJ.out _ _ hS2 (fun hSz => ?_)
    clear hJ J
    try simp only [Act.put, List.setIfInBounds_toArray, List.set_cons_zero, List.set_cons_succ]
    refine wpAnyH_ready (rs := [11]) (by kernel_rfl) (by simp) ?_
    refine AllReadyH.cons rfl (fun J hJ => ?_) AllReadyH.nil
    go_simp
    refine hJ.out _ _ hSz (fun _ => ?_)
    clear hJ J
    refine wpAnyH_done (by kernel_rfl) ?_ _
    refine NoPanic.normal ?_
    go_wp2
    go_ret
    exact ⟨rfl, hS2.2.2.2.2⟩

end Go.Proofs.YtgpkhfpejopacabDoor.Fd

/- The walks of Add and Mul. -/
namespace Go.Proofs.YtgpkhfpejopacabDoor.Fd
open Go.RowKit

/-- The sum of two elements, as a number. -/
def sumZ (p k a b : Int) : Int := hor (plusF (digF a.toNat p.toNat) (digF b.toNat p.toNat) p) p k.toNat k.toNat
/-- The product of two elements, as a number. -/
def prodZ (p k : Int) (l : List Int) (a b : Int) : Int := hor (redN (monL l) k.toNat p (11 - k.toNat) (mulN (digF a.toNat p.toNat) (digF b.toNat p.toNat) p 6 6)) p k.toNat k.toNat

theorem open_ok {p k : Int} {l es : List Int} (h : OpenIs p k l es 0) : FaultIs p k l 0 ∧ inL (ordZ p k) es := by
  rcases h with ⟨h, _⟩ | ⟨_, _, h⟩ | ⟨h1, h2, _⟩
  · exact absurd rfl h
  · exact absurd h (by decide)
  · exact ⟨h1, h2⟩
theorem sl_pair (w : World) (a b : Int) : Sl (w.alloc (.cells #[.int .i64 a, .int .i64 b] 3)) (.slice (some ⟨w.heap.size, 0, none⟩) 2 2) [a, b] := by
  refine ⟨_, 2, rfl, fun j hj => ⟨w.heap.size, 0, rfl, ?_⟩⟩
  have h := cell_of_row (w.alloc (.cells #[.int .i64 a, .int .i64 b] 3)) w.heap.size (0 + j) _ _ _ (heap_alloc_new w _)
  rw [h]
  have : j = 0 ∨ j = 1 := by simp at hj; omega
  rcases this with rfl | rfl <;> rfl
/-- What a field that is one, and elements of it, are as natural numbers. -/
theorem good_parts {p k : Int} {l : List Int} (h : FaultIs p k l 0) : ∃ P K : Nat, p = P ∧ k = K ∧ 2 ≤ P ∧ P ≤ 61 ∧ 1 ≤ K ∧ K ≤ 6 ∧ P ^ K ≤ 64 ∧ ordZ p k = ((P ^ K : Nat) : Int) ∧ l.length = K ∧ inP p (monL l) ∧ monL l K = 1 ∧ isPrimeB p = true := by
  obtain ⟨h0, h1, h2, h3⟩ := h.ok
  obtain ⟨P, K, rfl, rfl, hP, hP', hK, hK', hPK, hq⟩ := ord_nat h0
  have hl : l.length = K := by omega
  refine ⟨P, K, rfl, rfl, hP, hP', hK, hK', hPK, hq, hl, monL_in (by omega) h2, ?_, (ord_parts h0).1⟩
  have := monL_top l
  rwa [hl] at this

set_option maxHeartbeats 1000000 in
theorem Add_any (p k a b : Int) (l : List Int) (v : Value) (w : World) (hT : Tab w) (hl : Sl w v l) (hll : l.length ≤ maxLen) :
    Calls Tryd.prog 44 #[.agg #[.int .i64 p, .int .i64 k, v], .int .i64 a, .int .i64 b] w fun e w' => ∃ (s z : Int), e = .returned (.tuple #[.int .i64 s, .int .i64 z]) ∧ OpenIs p k l [a, b] z ∧ Hid (z ≠ 0 → s = 0) ∧ Hid (z = 0 → s = sumZ p k a b) ∧ Below w.heap.size w w' := by
  obtain ⟨A, ca, rfl, _⟩ := id hl
  have hbx : Below w.heap.size w ((w.alloc (.cells #[.int .i64 p, .int .i64 k, .slice A l.length ca] 27)).alloc (.cells #[.int .i64 a, .int .i64 b] 3)) := ((Below.refl _ _).alloc (Nat.le_refl _) _).alloc (by simp) _
  have hpair := sl_pair (w.alloc (.cells #[.int .i64 p, .int .i64 k, .slice A l.length ca] 27)) a b
  simp only [World.size_alloc] at hpair
  go_enter Tryd.func44, Tryd.ntmps44
  go_wp2_with fail
  refine (open_any p k l [a, b] _ _ _ (hT.below hbx) (hl.below hbx) hpair hll (by simp [maxLen])).mono ?_
  rintro e w1 ⟨z, x, y, c, f, rfl, hO, HZ, hb1⟩
  have hB1 : Below w.heap.size w w1 := hbx.trans (hb1.mono hbx.size)
  have HO : Hid (OpenIs p k l [a, b] z) := hO
  have hnew : RB (w1.alloc (.cells #[.int .i64 0, .int .i64 0, .int .i64 0, .int .i64 0, .int .i64 0, .int .i64 0, .int .i64 0, .int .i64 0, .int .i64 0, .int .i64 0, .int .i64 0, .int .i64 0, .int .i64 0, .int .i64 0] 80)) w1.heap.size 0 0 0 (fun _ => 0) := RB.made w1 0 0 0 (fun _ => 0)
  have hBA : Below w.heap.size w ((w1.alloc (.cells #[.int .i64 0, .int .i64 0, .int .i64 0, .int .i64 0, .int .i64 0, .int .i64 0, .int .i64 0, .int .i64 0, .int .i64 0, .int .i64 0, .int .i64 0, .int .i64 0, .int .i64 0, .int .i64 0] 80)).setRow w1.heap.size (ringRow x y c f)) := bsetRow (hB1.alloc hB1.size _) hB1.size _
  obtain ⟨fs, hu⟩ := und53
  clear hpair hO
  by_cases hz : z = 0
  · subst hz
    obtain ⟨rfl, rfl, rfl, rfl⟩ := HZ.out rfl
    obtain ⟨hF, hin⟩ := open_ok HO.out
    obtain ⟨P, K, rfl, rfl, hP, hP', hK, hK', hPK, hq, hlen, hm, hmK, _⟩ := good_parts hF
    have ha := hin 0 (by simp)
    have hb := hin 1 (by simp)
    rw [hq] at ha hb
    simp only [List.getD_cons_zero, List.getD_cons_succ] at ha hb
    obtain ⟨a', rfl⟩ := Int.eq_ofNat_of_zero_le ha.1
    obtain ⟨b', rfl⟩ := Int.eq_ofNat_of_zero_le hb.1
    have ha' : a' < P ^ K := by omega
    have hb' : b' < P ^ K := by omega
    clear hin hF ha hb HZ hq
    go_wp2_with (first
      | (refine wpList_store_row rfl 80 _ _ rfl w1.heap.size _ rfl rfl 80 _ hnew (inf53 _ _ _ _) rfl (ringRow_one _ _ _ _) ?_)
      | (refine wpList_load_row rfl 80 _ rfl w1.heap.size rfl 80 _ (0, 0) _ (hnew.whole _ _ _ _) hu rfl (inf53 _ _ _ _) ?_))
    refine (add_any P K a' b' _ (monL l) _ hP (by omega) hK hK' hPK ha' hb').mono ?_
    rintro e w2 ⟨rfl, hb2⟩
    go_wp2
    go_ret2
    exact ⟨_, _, rfl, HO.out, (fun h => absurd rfl h : (0 : Int) ≠ 0 → _), (fun _ => by unfold sumZ; simp : (0 : Int) = 0 → _), hBA.trans (hb2.mono hBA.size)⟩
  · have hzb : (z != 0) = true := by simpa using hz
    go_wp2_with (first
      | (refine wpList_store_row rfl 80 _ _ rfl w1.heap.size _ rfl rfl 80 _ hnew (inf53 _ _ _ _) rfl (ringRow_one _ _ _ _) ?_))
    go_ret2
    exact ⟨0, z, rfl, HO.out, (fun _ => rfl : z ≠ 0 → _), (fun h => absurd h hz : z = 0 → _), hBA⟩

set_option maxHeartbeats 1000000 in
theorem Mul_any (p k a b : Int) (l : List Int) (v : Value) (w : World) (hT : Tab w) (hl : Sl w v l) (hll : l.length ≤ maxLen) :
    Calls Tryd.prog 30 #[.agg #[.int .i64 p, .int .i64 k, v], .int .i64 a, .int .i64 b] w fun e w' => ∃ (s z : Int), e = .returned (.tuple #[.int .i64 s, .int .i64 z]) ∧ OpenIs p k l [a, b] z ∧ Hid (z ≠ 0 → s = 0) ∧ Hid (z = 0 → s = prodZ p k l a b) ∧ Below w.heap.size w w' := by
  obtain ⟨A, ca, rfl, _⟩ := id hl
  have hbx : Below w.heap.size w ((w.alloc (.cells #[.int .i64 p, .int .i64 k, .slice A l.length ca] 27)).alloc (.cells #[.int .i64 a, .int .i64 b] 3)) := ((Below.refl _ _).alloc (Nat.le_refl _) _).alloc (by simp) _
  have hpair := sl_pair (w.alloc (.cells #[.int .i64 p, .int .i64 k, .slice A l.length ca] 27)) a b
  simp only [World.size_alloc] at hpair
  go_enter Tryd.func30, Tryd.ntmps30
  go_wp2_with fail
  refine (open_any p k l [a, b] _ _ _ (hT.below hbx) (hl.below hbx) hpair hll (by simp [maxLen])).mono ?_
  rintro e w1 ⟨z, x, y, c, f, rfl, hO, HZ, hb1⟩
  have hB1 : Below w.heap.size w w1 := hbx.trans (hb1.mono hbx.size)
  have HO : Hid (OpenIs p k l [a, b] z) := hO
  have hnew : RB (w1.alloc (.cells #[.int .i64 0, .int .i64 0, .int .i64 0, .int .i64 0, .int .i64 0, .int .i64 0, .int .i64 0, .int .i64 0, .int .i64 0, .int .i64 0, .int .i64 0, .int .i64 0, .int .i64 0, .int .i64 0] 80)) w1.heap.size 0 0 0 (fun _ => 0) := RB.made w1 0 0 0 (fun _ => 0)
  have hBA : Below w.heap.size w ((w1.alloc (.cells #[.int .i64 0, .int .i64 0, .int .i64 0, .int .i64 0, .int .i64 0, .int .i64 0, .int .i64 0, .int .i64 0, .int .i64 0, .int .i64 0, .int .i64 0, .int .i64 0, .int .i64 0, .int .i64 0] 80)).setRow w1.heap.size (ringRow x y c f)) := bsetRow (hB1.alloc hB1.size _) hB1.size _
  obtain ⟨fs, hu⟩ := und53
  clear hpair hO
  by_cases hz : z = 0
  · subst hz
    obtain ⟨rfl, rfl, rfl, rfl⟩ := HZ.out rfl
    obtain ⟨hF, hin⟩ := open_ok HO.out
    obtain ⟨P, K, rfl, rfl, hP, hP', hK, hK', hPK, hq, hlen, hm, hmK, _⟩ := good_parts hF
    have ha := hin 0 (by simp)
    have hb := hin 1 (by simp)
    rw [hq] at ha hb
    simp only [List.getD_cons_zero, List.getD_cons_succ] at ha hb
    obtain ⟨a', rfl⟩ := Int.eq_ofNat_of_zero_le ha.1
    obtain ⟨b', rfl⟩ := Int.eq_ofNat_of_zero_le hb.1
    have ha' : a' < P ^ K := by omega
    have hb' : b' < P ^ K := by omega
    have HMK : Hid (monL l K = 1) := hmK
    clear hin hF ha hb HZ hq hmK
    go_wp2_with (first
      | (refine wpList_store_row rfl 80 _ _ rfl w1.heap.size _ rfl rfl 80 _ hnew (inf53 _ _ _ _) rfl (ringRow_one _ _ _ _) ?_)
      | (refine wpList_load_row rfl 80 _ rfl w1.heap.size rfl 80 _ (0, 0) _ (hnew.whole _ _ _ _) hu rfl (inf53 _ _ _ _) ?_))
    refine (mul_any P K a' b' _ (monL l) _ hP (by omega) hK hK' hPK ha' hb' hm HMK).mono ?_
    rintro e w2 ⟨rfl, hb2⟩
    go_wp2
    go_ret2
    exact ⟨_, _, rfl, HO.out, (fun h => absurd rfl h : (0 : Int) ≠ 0 → _), (fun _ => by unfold prodZ; simp : (0 : Int) = 0 → _), hBA.trans (hb2.mono hBA.size)⟩
  · have hzb : (z != 0) = true := by simpa using hz
    go_wp2_with (first
      | (refine wpList_store_row rfl 80 _ _ rfl w1.heap.size _ rfl rfl 80 _ hnew (inf53 _ _ _ _) rfl (ringRow_one _ _ _ _) ?_))
    go_ret2
    exact ⟨0, z, rfl, HO.out, (fun _ => rfl : z ≠ 0 → _), (fun h => absurd h hz : z = 0 → _), hBA⟩

end Go.Proofs.YtgpkhfpejopacabDoor.Fd

/- The walks of Sum and Times of the document's answer. -/
namespace Go.Proofs.YtgpkhfpejopacabDoor.Fd
open Go.RowKit

theorem digL_all {n p k : Nat} (hn : n < p ^ k) (hp : 2 ≤ p) (t : Nat) : (digL n p k).getD t 0 = digF n p t := by
  by_cases h : t < k
  · exact digL_at _ _ _ _ h
  · rw [digF_small hn hp t (by omega)]
    simp [digL, h]
theorem Own.of_dig {w : World} {base n p k : Nat} {v : Value} (h : w.ownsRow base 3 1 v k ((digL n p k).map (Value.int .i64))) (hk : 1 ≤ k) (hn : n < p ^ k) (hp : 2 ≤ p) :
    ∃ g cap, v = .slice (some ⟨g, 0, none⟩) k cap ∧ base ≤ g ∧ Own w g k (digF n p) := by
  obtain ⟨g, cap, e, hb, hO⟩ := Own.of h (by omega)
  exact ⟨g, cap, e, hb, hO.congr (fun t _ => digL_all hn hp t)⟩

end Go.Proofs.YtgpkhfpejopacabDoor.Fd

namespace Go.Proofs.YtgpkhfpejopacabDoor.Fd
open Go.RowKit

theorem prod_same {P K a b : Nat} {m : Nat → Int} (hP : 2 ≤ P) (hK : 1 ≤ K) (hK' : K ≤ 6) (ha : a < P ^ K) (hb : b < P ^ K) :
    redN m K P (11 - K) (mulN (digF a P) (digF b P) P 6 6) = redN m K P K (mulN (digF a P) (digF b P) P K K) := by
  have hp : (0 : Int) < P := by omega
  have e1 : mulN (digF a P) (digF b P) P 6 6 = mulN (digF a P) (digF b P) P K K := by
    rw [show (6 : Nat) = K + (6 - K) by omega, mulN_few hp (fun t ht => digF_small ha hP t ht), ← show (6 : Nat) = K + (6 - K) by omega, mulN_short hp (fun t ht => digF_small hb hP t ht) hK']
  rw [e1]
  have hin := mulN_in (a := digF a P) (b := digF b P) (j := K) hp K
  by_cases h1 : K = 1
  · subst h1
    have h := redN_more (m := m) (d := 1) 1 hin (fun t ht => mulN_over 1 t (by omega)) (Nat.le_refl _) 9
    exact h
  · have h0 : ∀ t, 2 * K - 2 < t → mulN (digF a P) (digF b P) P K K t = 0 := fun t ht => mulN_over K t (by omega)
    have h2 := redN_more (m := m) (d := K) (2 * K - 2) hin h0 (by omega) (12 - 2 * K)
    have h3 := redN_more (m := m) (d := K) (2 * K - 2) hin h0 (by omega) 1
    rw [show 2 * K - 2 + 1 - K + (12 - 2 * K) = 11 - K by omega] at h2
    rw [show 2 * K - 2 + 1 - K + 1 = K by omega] at h3
    rw [h2, h3]

end Go.Proofs.YtgpkhfpejopacabDoor.Fd

/- The law FieldSums, walked: sums and products of any two are the document's, errors and all. -/
namespace Go.Proofs.YtgpkhfpejopacabDoor.Fd
open Go.RowKit

theorem open_err {p k : Int} {l es : List Int} {z ze : Int} (hF : FaultIs p k l ze) (h0 : ze ≠ 0) (h : OpenIs p k l es z) : z = ze := by
  rcases h with ⟨_, h⟩ | ⟨h, _, _⟩ | ⟨h, _, _⟩
  · exact h.one hF
  · exact absurd (hF.one h) h0
  · exact absurd (hF.one h) h0
theorem open_in {p k : Int} {l es : List Int} {z : Int} (hF : FaultIs p k l 0) (hi : inL (ordZ p k) es) (h : OpenIs p k l es z) : z = 0 := by
  rcases h with ⟨h0, h⟩ | ⟨_, h, _⟩ | ⟨_, _, h⟩
  · exact absurd (h.one hF) h0
  · exact absurd hi h
  · exact h
theorem open_out {p k : Int} {l es : List Int} {z : Int} (hF : FaultIs p k l 0) (hi : ¬ inL (ordZ p k) es) (h : OpenIs p k l es z) : z = 1 := by
  rcases h with ⟨h0, h⟩ | ⟨_, _, h⟩ | ⟨_, h, _⟩
  · exact absurd (h.one hF) h0
  · exact h
  · exact absurd h hi
theorem inB_iff (q a : Int) : inB q a = true ↔ 0 ≤ a ∧ a < q := by simp [inB]
theorem inL_pair (q a b : Int) : inL q [a, b] ↔ inB q a = true ∧ inB q b = true := by
  rw [inB_iff, inB_iff]
  constructor
  · intro h
    exact ⟨h 0 (by simp), h 1 (by simp)⟩
  · rintro ⟨h1, h2⟩ j hj
    have : j = 0 ∨ j = 1 := by simp at hj; omega
    rcases this with rfl | rfl
    · exact h1
    · exact h2

end Go.Proofs.YtgpkhfpejopacabDoor.Fd

/- The walks of pow, Inv and Pow; sums and products of a true field's elements. -/
namespace Go.Proofs.YtgpkhfpejopacabDoor.Fd
open Go.RowKit

theorem mulQ_cast {P K : Nat} {m : Nat → Int} (hR : Ring1 P K m) (a b : Nat) : ((mulQ P K m a b : Nat) : Int) = hor (redN m K P K (mulN (digF a P) (digF b P) P K K)) P K K := by
  unfold mulQ
  exact Int.toNat_of_nonneg (hor_bd (k := K) (show (2 : Int) ≤ P by have := hR.two; omega) (mulQ_in hR a b) K).1
theorem addQ_cast {P K : Nat} (hP : 2 ≤ P) (a b : Nat) : ((addQ P K a b : Nat) : Int) = hor (plusF (digF a P) (digF b P) P) P K K := by
  unfold addQ
  exact Int.toNat_of_nonneg (hor_bd (k := K) (show (2 : Int) ≤ P by omega) (plusF_in _ _ _ (by omega)) K).1
theorem mul_Q (P K a b : Nat) (Q : Int) (m : Nat → Int) (w : World) (hR : Ring1 P K m) (hP' : P ≤ 64) (hK' : K ≤ 6) (hPK : P ^ K ≤ 64) (ha : a < P ^ K) (hb : b < P ^ K) (s : Nat) (hs : Hid (s = mulQ P K m a b)) :
    Calls Tryd.prog 43 #[.agg (ringRow P K Q m), .int .i64 a, .int .i64 b] w fun e w' => e = .returned (.int .i64 s) ∧ Below w.heap.size w w' := by
  have h := mul_any P K a b Q m w hR.two hP' hR.one hK' hPK ha hb hR.low hR.top
  rw [prod_same hR.two hR.one hK' ha hb, ← mulQ_cast hR, ← hs.out] at h
  exact h

end Go.Proofs.YtgpkhfpejopacabDoor.Fd

/- The walk of Inv; Add, Mul and Inv on a true field; the closed fact. -/
namespace Go.Proofs.YtgpkhfpejopacabDoor.Fd
open Go.RowKit

theorem sl_one (w : World) (a : Int) : Sl (w.alloc (.cells #[.int .i64 a] 3)) (.slice (some ⟨w.heap.size, 0, none⟩) 1 1) [a] := by
  refine ⟨_, 1, rfl, fun j hj => ⟨w.heap.size, 0, rfl, ?_⟩⟩
  have h := cell_of_row (w.alloc (.cells #[.int .i64 a] 3)) w.heap.size (0 + j) _ _ _ (heap_alloc_new w _)
  rw [h]
  have : j = 0 := by simp at hj; omega
  subst this; rfl
/-- A field that is one, in natural numbers. -/
structure GoodF (P K : Nat) (l : List Int) : Prop where
  fault : FaultIs (P : Int) K l 0
  field : FieldQ P K (monL l)
  le61 : P ≤ 61
  le6 : K ≤ 6
  le64 : P ^ K ≤ 64
  ord : ordZ (P : Int) K = ((P ^ K : Nat) : Int)
  len : l.length = K
theorem good_of {p k : Int} {l : List Int} (h : FaultIs p k l 0) : ∃ P K : Nat, p = P ∧ k = K ∧ GoodF P K l := by
  obtain ⟨h0, h1, h2, h3⟩ := h.ok
  obtain ⟨P, K, rfl, rfl, hP, hP', hK, hK', hPK, hq, hlen, hmi, hmK, hpr⟩ := good_parts h
  rw [Int.toNat_natCast, Int.toNat_natCast] at h3
  exact ⟨P, K, rfl, rfl, h, field_of_irr hpr hK hPK hlen h2 h3, hP', hK', hPK, hq, hlen⟩
theorem in_pair {P K : Nat} {l : List Int} (hG : GoodF P K l) {a b : Nat} (ha : a < P ^ K) (hb : b < P ^ K) : inL (ordZ (P : Int) K) [(a : Int), (b : Int)] := by
  rw [inL_pair, inB_iff, inB_iff, hG.ord]; omega
theorem in_one {P K : Nat} {l : List Int} (hG : GoodF P K l) {a : Nat} (ha : a < P ^ K) : inL (ordZ (P : Int) K) [(a : Int)] := by
  intro j hj
  have : j = 0 := by simp at hj; omega
  subst this
  rw [hG.ord]
  show 0 ≤ (a : Int) ∧ (a : Int) < _
  omega

theorem AddG (P K a b : Nat) (l : List Int) (v : Value) (w : World) (hT : Tab w) (hl : Sl w v l) (hll : l.length ≤ maxLen) (hG : GoodF P K l) (ha : a < P ^ K) (hb : b < P ^ K) (s : Nat) (hs : Hid (s = addQ P K a b)) :
    Calls Tryd.prog 44 #[.agg #[.int .i64 P, .int .i64 K, v], .int .i64 a, .int .i64 b] w fun e w' => e = .returned (.tuple #[.int .i64 s, .int .i64 0]) ∧ Below w.heap.size w w' := by
  refine (Add_any P K a b l v w hT hl hll).mono ?_
  rintro e w' ⟨x, z, rfl, hO, _, H1, hB⟩
  obtain rfl := open_in hG.fault (in_pair hG ha hb) hO
  have h := H1.out rfl
  unfold sumZ at h
  simp only [Int.toNat_natCast] at h
  rw [← addQ_cast hG.field.two, ← hs.out] at h
  exact ⟨by rw [h], hB⟩
theorem MulG (P K a b : Nat) (l : List Int) (v : Value) (w : World) (hT : Tab w) (hl : Sl w v l) (hll : l.length ≤ maxLen) (hG : GoodF P K l) (ha : a < P ^ K) (hb : b < P ^ K) (s : Nat) (hs : Hid (s = mulQ P K (monL l) a b)) :
    Calls Tryd.prog 30 #[.agg #[.int .i64 P, .int .i64 K, v], .int .i64 a, .int .i64 b] w fun e w' => e = .returned (.tuple #[.int .i64 s, .int .i64 0]) ∧ Below w.heap.size w w' := by
  refine (Mul_any P K a b l v w hT hl hll).mono ?_
  rintro e w' ⟨x, z, rfl, hO, _, H1, hB⟩
  obtain rfl := open_in hG.fault (in_pair hG ha hb) hO
  have h := H1.out rfl
  unfold prodZ at h
  simp only [Int.toNat_natCast] at h
  rw [prod_same hG.field.two hG.field.one hG.le6 ha hb, ← mulQ_cast hG.field.toRing1, ← hs.out] at h
  exact ⟨by rw [h], hB⟩

def zBk (f : Nat → Int) : Bool := (List.range 11).all fun t => f t == 0
theorem zBk_iff (f : Nat → Int) : zBk f = true ↔ isZ f := by
  unfold zBk isZ
  rw [List.all_eq_true]
  simp
theorem fact_no : ∀ n, n < 3 → ¬ goodAt 2 3 n := by
  intro n hn h
  have h0 : zBk (redN (digF (2 ^ 1 + 0) 2) 1 (2 : Nat) (11 - 1) (digF (2 ^ 3 + 0) 2)) = true := by decide +kernel
  have h1 : zBk (redN (digF (2 ^ 1 + 1) 2) 1 (2 : Nat) (11 - 1) (digF (2 ^ 3 + 1) 2)) = true := by decide +kernel
  have h2 : zBk (redN (digF (2 ^ 1 + 0) 2) 1 (2 : Nat) (11 - 1) (digF (2 ^ 3 + 2) 2)) = true := by decide +kernel
  have : n = 0 ∨ n = 1 ∨ n = 2 := by omega
  rcases this with rfl | rfl | rfl
  · exact h 1 (by omega) (by omega) 0 (by decide) ((zBk_iff _).1 h0)
  · exact h 1 (by omega) (by omega) 1 (by decide) ((zBk_iff _).1 h1)
  · exact h 1 (by omega) (by omega) 0 (by decide) ((zBk_iff _).1 h2)
theorem fact_yes : goodAt 2 3 3 := by
  intro e h1 h2 b hb hz
  have he : e = 1 := by omega
  subst he
  have h0 : zBk (redN (digF (2 ^ 1 + 0) 2) 1 (2 : Nat) (11 - 1) (digF (2 ^ 3 + 3) 2)) = false := by decide +kernel
  have h1 : zBk (redN (digF (2 ^ 1 + 1) 2) 1 (2 : Nat) (11 - 1) (digF (2 ^ 3 + 3) 2)) = false := by decide +kernel
  have : b = 0 ∨ b = 1 := by simp at hb; omega
  rcases this with rfl | rfl
  · rw [(zBk_iff _).2 hz] at h0; cases h0
  · rw [(zBk_iff _).2 hz] at h1; cases h1
theorem fact_ord : ordZ 2 3 = 8 := by decide +kernel
theorem fact_least {q d : Int} {l : List Int} {z : Int} (h : LeastIs 2 3 q d l z) : q = 2 ∧ d = 3 ∧ l = digL 3 2 3 ∧ z = 0 :=
  h.one (.inr ⟨2, 3, rfl, rfl, by rw [fact_ord]; decide, .inl ⟨3, by decide, fact_yes, fact_no, rfl, rfl, rfl, rfl⟩⟩)
theorem fact_good : GoodF 2 3 (digL 3 2 3) := by
  have hin : inL (2 : Int) (digL 3 2 3) := fun j hj => by
    rw [digL_length] at hj
    rw [digL_at _ _ _ _ hj]; exact digF_in 3 2 (by omega) j
  have hirr : irrP (monL (digL 3 2 3)) 3 2 := by rw [monL_dig 3 2 3 (by decide) (by decide)]; exact fact_yes
  have hF : FaultIs ((2 : Nat) : Int) ((3 : Nat) : Int) (digL 3 2 3) 0 := .inr (.inr (.inr (.inr ⟨by rw [show ((2 : Nat) : Int) = 2 from rfl, show ((3 : Nat) : Int) = 3 from rfl, fact_ord]; decide, by rw [digL_length], hin, hirr, rfl⟩)))
  obtain ⟨P, K, e1, e2, hG⟩ := good_of hF
  obtain rfl : 2 = P := by omega
  obtain rfl : 3 = K := by omega
  exact hG
theorem fact_mul : mulQ 2 3 (monL (digL 3 2 3)) 4 2 = 3 := by decide +kernel

end Go.Proofs.YtgpkhfpejopacabDoor.Fd

namespace Go.Proofs.YtgpkhfpejopacabDoor.Fd
open Go.RowKit

end Go.Proofs.YtgpkhfpejopacabDoor.Fd
