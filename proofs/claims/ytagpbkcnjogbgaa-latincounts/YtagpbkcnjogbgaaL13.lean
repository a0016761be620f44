/- The walk of the document's TransversalsOf. -/
import Derived.Test.YtagpbkcnjogbgaaL1
import Derived.Test.YtagpbkcnjogbgaaG45
import Derived.Deep.QuietTactic
import Derived.BigQuiet
namespace Go.Proofs.Ytagpbkcnjogbgaa
open Go.RowKit

open Classical in
noncomputable def trK (n : Nat) (s : Nat → Nat → Nat) (k : Nat) : Nat := (List.range k).countP fun k => decide (Tr n s (unr n k))
open Classical in
theorem trK_succ (n : Nat) (s : Nat → Nat → Nat) (k : Nat) : trK n s (k + 1) = trK n s k + if Tr n s (unr n k) then 1 else 0 := by
  unfold trK
  rw [List.range_succ, List.countP_append, List.countP_singleton]
  congr 1
  by_cases h : Tr n s (unr n k)
  · simp [h]
  · simp [h]
theorem trK_le (n : Nat) (s : Nat → Nat → Nat) (k : Nat) : trK n s k ≤ k := by
  unfold trK
  have := List.countP_le_length (p := fun k => @decide (Tr n s (unr n k)) (Classical.propDecidable _)) (l := List.range k)
  simpa using this
theorem trK_all (n : Nat) (s : Nat → Nat → Nat) : trK n s (fac n) = trN n s := by
  unfold trK trN els
  rw [List.filter_map, List.length_map, List.countP_eq_length_filter]
  rfl
theorem run_makeB (n : Nat) (hn : n ≤ 100000000) (w : World) : (Instr.makeSlice 54 (.int .i64 (n : Int)) (.int .i64 (n : Int))).run Try.prog w = .ok (.slice (some ⟨w.heap.size, 0, none⟩) n n) (w.alloc (.cells (madeCells #[.bool false] n) 4)) := by
  obtain ⟨i4, hi, hz0, hz1, hz2⟩ := info4
  have h := run_make (P := Try.prog) w 54 4 i4 (.bool false) und52 hi hz0 .i64 .i64 n n (by omega) (by omega) (by rw [hz2]; omega) (by omega)
  simpa [hz1, Value.cells] using h
theorem ownB_new (w : World) (n : Nat) : OwnB (w.alloc (.cells (madeCells #[.bool false] n) 4)) w.heap.size n (fun _ => false) := by
  refine ⟨_, heap_alloc_new w _, fun j hj => ?_⟩
  rw [Array.getElem?_eq_getElem (by rw [size_madeCells]; exact hj)]
  simp [madeCells, Nat.mod_one]
/-- What is seen of an order of the columns, so far. -/
structure SeenI (n : Nat) (s : Nat → Nat → Nat) (p : List Nat) (i : Nat) (f : Nat → Bool) : Prop where
  f : ∀ x, x < n → (f x = true ↔ ∃ t, t < i ∧ s t (p.getD t 0) = x)
  un : ∀ t t', t < i → t' < i → s t (p.getD t 0) = s t' (p.getD t' 0) → t = t'
theorem SeenI.step {n : Nat} {s : Nat → Nat → Nat} {p : List Nat} {i : Nat} {f : Nat → Bool} (h : SeenI n s p i f) (hx : s i (p.getD i 0) < n) (hf : f (s i (p.getD i 0)) = false) : SeenI n s p (i + 1) (upU f (s i (p.getD i 0))) := by
  have no : ∀ t, t < i → s t (p.getD t 0) ≠ s i (p.getD i 0) := fun t ht e => by
    have := (h.f _ hx).2 ⟨t, ht, e⟩
    rw [hf] at this; cases this
  refine ⟨fun x hx' => ?_, fun t t' ht ht' e => ?_⟩
  · unfold upU
    by_cases e : x = s i (p.getD i 0)
    · subst e
      simp only [if_true, true_iff]
      exact ⟨i, by omega, rfl⟩
    · rw [if_neg e, h.f x hx']
      constructor
      · rintro ⟨t, ht, e'⟩; exact ⟨t, by omega, e'⟩
      · rintro ⟨t, ht, e'⟩
        by_cases hti : t = i
        · subst hti; exact (e e'.symm).elim
        · exact ⟨t, by omega, e'⟩
  · by_cases h1 : t = i
    · by_cases h2 : t' = i
      · omega
      · subst h1; exact (no t' (by omega) e.symm).elim
    · by_cases h2 : t' = i
      · subst h2; exact (no t (by omega) e).elim
      · exact h.un t t' (by omega) (by omega) e
theorem SeenI.bad {n : Nat} {s : Nat → Nat → Nat} {p : List Nat} {i : Nat} {f : Nat → Bool} (h : SeenI n s p i f) (hi : i < n) (hx : s i (p.getD i 0) < n) (hf : f (s i (p.getD i 0)) = true) : ¬ Tr n s p := fun hT => by
  obtain ⟨t, ht, e⟩ := (h.f _ hx).1 hf
  have := hT t i (by omega) hi e
  omega

set_option maxRecDepth 100000 in
set_option maxHeartbeats 8000000 in
theorem TransversalsOf_any (n : Nat) (L : List Int) (v : Value) (w : World) (hv : Sl w v L) (G : GoodS n L) (h7 : n ≤ 7) :
    Calls Try.prog 13 #[.agg #[.int .i64 (n : Int), v]] w fun e w' => e = .returned (.int .i64 (trN n (sq n L) : Int)) ∧ Below w.heap.size w w' := by
  rw [← trK_all]
  have hpos : 0 < n * n := Nat.mul_pos G.pos G.pos
  obtain ⟨a, off, cap, rfl, ha, hcell⟩ := hv.form G.len hpos
  obtain ⟨z, hz⟩ : ∃ z, z = n * n := ⟨_, rfl⟩
  have hz99 : z ≤ 99 := by rw [hz]; exact Nat.le_trans (Nat.mul_le_mul h7 h7) (by decide)
  obtain ⟨s, Hs⟩ : ∃ s, Hid (sq n L = s) := ⟨_, rfl⟩
  have HL : Hid (∀ i j, i < n → j < n → s i j < n) := by rw [← Hs.out]; exact G.lat.lt
  have HC : Hid (∀ i j, i < n → j < n → i * n + j < z ∧ w.cell? ⟨a, off + (i * n + j), none⟩ = some (.int .i64 (s i j : Int))) := fun i j hi hj => by
    have hl := cell_lt hi hj
    rw [← Hs.out]
    exact ⟨by rw [hz]; exact hl, by rw [hcell _ hl, G.val hi hj]⟩
  have hf5040 : fac n ≤ 5040 := by
    rcases (show n = 1 ∨ n = 2 ∨ n = 3 ∨ n = 4 ∨ n = 5 ∨ n = 6 ∨ n = 7 by have := G.pos; omega) with rfl | rfl | rfl | rfl | rfl | rfl | rfl <;> decide
  have hn1 := G.pos
  have C1 := fun W => Factorial_any n W (by omega)
  obtain ⟨F, HF⟩ : ∃ F, Hid (fac n = F) := ⟨_, rfl⟩
  have C2 := fun k W (hk : k < F) => PermOfRank_own n k W (by omega) (by rw [HF.out]; exact hk)
  have HP : Hid (∀ k, k < F → IsP n (unr n k)) := fun k hk => unr_isP (by rw [HF.out]; exact hk)
  rw [HF.out] at C1 hf5040
  rw [← hz, Hs.out, HF.out]
  have hmk := run_makeB n (by omega)
  have b0 := balloc w (.cells #[.int .i64 (n : Int), .slice (some ⟨a, off, none⟩) z cap] 24)
  have hx1 : (w.alloc (.cells #[.int .i64 (n : Int), .slice (some ⟨a, off, none⟩) z cap] 24)).cell? ⟨w.heap.size, 1, none⟩ = some (.slice (some ⟨a, off, none⟩) z cap) := by rw [cell_of_row _ _ _ _ _ _ (heap_alloc_new w _)]; rfl
  have hsz : w.heap.size < (w.alloc (.cells #[.int .i64 (n : Int), .slice (some ⟨a, off, none⟩) z cap] 24)).heap.size := by simp
  clear hcell hpos hv G hz
  go_enter Try.func13, Try.ntmps13
  go_wp2_with (go_at_call 26; refine (C1 _).mono ?_; rintro e w1 ⟨rfl, rfl⟩)
  clear C1
  go_loopw [5, 6] (fun o i_ wr => ∃ k X : Nat, i_ = .int .i64 (k : Int) ∧ k ≤ F ∧ o = .int .i64 (X : Int) ∧ Hid (trK n s k = X) ∧ X ≤ k ∧ wr.cell? ⟨w.heap.size, 1, none⟩ = some (.slice (some ⟨a, off, none⟩) z cap) ∧ w.heap.size < wr.heap.size ∧ Below w.heap.size w wr) (fun _ i _ => (F - intOf i).toNat)
  case atStart => exact ⟨0, 0, rfl, by omega, rfl, (rfl : trK n s 0 = 0), by omega, hx1, hsz, b0⟩
  case round =>
    clear hx1 b0 hsz
    obtain ⟨k, X, rfl, hk, rfl, HX, hXb, hx1, hsz, hB⟩ := hrel
    by_cases hkl : k < F
    · have hdk : decide ((k : Int) < (F : Int)) = true := by simp; omega
      have D := C2 k wr hkl
      have hP := HP.out k hkl
      obtain ⟨p, Hp⟩ : ∃ p, Hid (unr n k = p) := ⟨_, rfl⟩
      have Hp' : unrL n (List.range n) k = p := Hp.out
      rw [Hp'] at D
      rw [Hp.out] at hP
      have HPP : Hid (IsP n p) := hP
      have HX2 : Hid ((Tr n s p → trK n s (k + 1) = X + 1) ∧ (¬ Tr n s p → trK n s (k + 1) = X)) := by
        rw [← HX.out, trK_succ, Hp.out]
        exact ⟨fun h => by rw [if_pos h], fun h => by rw [if_neg h]; rfl⟩
      clear hP Hp' HX
      go_wp2_with (go_at_call 27; refine D.mono ?_; rintro e w1 ⟨y, rfl, hO, b1⟩; obtain ⟨yg, yc, ey, hyb, hYO⟩ := Own.of (l := p.map Int.ofNat) hO (by omega); subst ey)
      have hE0 := ownB_new w1 n
      have hY0 := hYO.below (balloc w1 (.cells (madeCells #[.bool false] n) 4))
      have hyl := hYO.lt
      have hB0 := Below.next (Below.next hB b1) (balloc w1 (.cells (madeCells #[.bool false] n) 4))
      have hx2 := (Below.next b1 (balloc w1 (.cells (madeCells #[.bool false] n) 4))).cell (p := ⟨w.heap.size, 1, none⟩) hsz
      rw [hx1] at hx2
      have hs1 := b1.size
      have hsw := hB.size
      have hs2 : w1.heap.size < (w1.alloc (.cells (madeCells #[.bool false] n) 4)).heap.size := by simp
      clear hO hYO D hx1
      go_loopw [10, 11] (fun o i_ wr => ∃ (i : Nat) (ok : Bool) (f : Nat → Bool), i_ = .int .i64 (i : Int) ∧ i ≤ n ∧ o = .bool ok ∧ Hid ((ok = true → SeenI n s p i f) ∧ (ok = false → ¬ Tr n s p)) ∧ OwnB wr w1.heap.size n f ∧ Own wr yg n (fun j => (p.map Int.ofNat).getD j 0) ∧ wr.cell? ⟨w.heap.size, 1, none⟩ = some (.slice (some ⟨a, off, none⟩) z cap) ∧ w1.heap.size < wr.heap.size ∧ Below w.heap.size w wr) (fun _ i _ => (n - intOf i).toNat)
      case atStart => exact ⟨0, true, _, rfl, by omega, rfl, ⟨fun _ => ⟨fun x _ => ⟨fun e => (by cases e), fun ⟨t, ht, _⟩ => (by omega)⟩, fun t t' ht => by omega⟩, fun e => by cases e⟩, hE0, hY0, hx2, hs2, hB0⟩
      case round =>
        clear hE0 hY0 hB0 hx2 hs2
        obtain ⟨i, ok, f, rfl, hi, rfl, HI, hE, hY, hx2, hs2, hB2⟩ := hrel
        by_cases hil : i < n
        · have hdi : decide ((i : Int) < (n : Int)) = true := by simp; omega
          cases ok with
          | true =>
            have hii : (i : Int) < n := by omega
            have hi0 : (0 : Int) ≤ (i : Int) := by omega
            have cy := hY.cell i hil
            have hpi : (p.map Int.ofNat).getD i 0 = (p.getD i 0 : Int) := by
              have : i < p.length := by rw [HPP.out.len]; exact hil
              simp [this]
            rw [hpi] at cy
            have hpn := HPP.out.at hil
            have hxn := HL.out i (p.getD i 0) hil hpn
            obtain ⟨g1, c1⟩ := HC.out i (p.getD i 0) hil hpn
            replace c1 := (hB2.cell (p := ⟨a, off + (i * n + p.getD i 0), none⟩) ha).trans c1
            have HI1 := HI.out.1 rfl
            have HS1 : Hid (f (s i (p.getD i 0)) = false → SeenI n s p (i + 1) (upU f (s i (p.getD i 0)))) := fun hf => HI1.step hxn hf
            have HS2 : Hid (f (s i (p.getD i 0)) = true → ¬ Tr n s p) := fun hf => HI1.bad hil hxn hf
            have m1 : (i : Int) * (n : Int) = ((i * n : Nat) : Int) := by simp
            generalize s i (p.getD i 0) = x at *
            generalize p.getD i 0 = c at *
            obtain ⟨q, hq⟩ : ∃ q, q = i * n := ⟨_, rfl⟩
            rw [← hq] at c1 m1 g1
            obtain ⟨r, hr⟩ : ∃ r, r = q + c := ⟨_, rfl⟩
            have e1 : (q : Int) + (c : Int) = (r : Int) := by omega
            rw [← hr] at c1 g1
            have r1 : (r : Int) < (z : Int) := by omega
            have hq99 : q ≤ 99 := by omega
            have hr99 : r ≤ 99 := by omega
            have hwq := IntKind.wrap_i64 (q : Int)
            have wq : IntKind.i64.wrap (q : Int) = (q : Int) := by rw [IntKind.wrap_i64]; omega
            have wr' : IntKind.i64.wrap (r : Int) = (r : Int) := by rw [IntKind.wrap_i64]; omega
            have hxx : (x : Int) < n := by omega
            have ce := hE.cell x hxn
            have cf := hE.frozen x
            clear hq hr HI HI1 hwq hpi
            cases hf : f x with
            | true =>
              rw [hf] at ce
              have HTt : Hid (¬ Tr n s p) := HS2.out hf
              clear HS1 HS2
              go_wp2
              go_quiet (fail)
              go_wp2
              go_roundw
              case rel =>
                have hbd := bdrewN (Below.refl wr.heap.size wr) nq
                have bS := (bdrewN (Below.refl w1.heap.size wr) nq).setCell (p := ⟨w1.heap.size, x, none⟩) (Nat.le_refl _) (.bool true)
                exact ⟨i + 1, false, upU f x, by go_num, by omega, rfl, ⟨fun e => (by cases e), fun _ => HTt.out⟩, (hE.below hbd hs2).set x, (hY.below hbd).other _ _ (by show yg ≠ w1.heap.size; omega), (bS.cell (p := ⟨w.heap.size, 1, none⟩) (by show w.heap.size < w1.heap.size; omega)).trans hx2, Nat.lt_of_lt_of_le hs2 bS.size, (bdrewN hB2 _).setCell (by show w.heap.size ≤ w1.heap.size; omega) _⟩
              case measure => simp [intOf]; omega
            | false =>
              rw [hf] at ce
              have HSt : Hid (SeenI n s p (i + 1) (upU f x)) := HS1.out hf
              clear HS1 HS2
              go_wp2
              go_quiet (fail)
              go_wp2
              go_roundw
              case rel =>
                have hbd := bdrewN (Below.refl wr.heap.size wr) nq
                have bS := (bdrewN (Below.refl w1.heap.size wr) nq).setCell (p := ⟨w1.heap.size, x, none⟩) (Nat.le_refl _) (.bool true)
                exact ⟨i + 1, true, upU f x, by go_num, by omega, rfl, ⟨fun _ => HSt.out, fun e => (by cases e)⟩, (hE.below hbd hs2).set x, (hY.below hbd).other _ _ (by show yg ≠ w1.heap.size; omega), (bS.cell (p := ⟨w.heap.size, 1, none⟩) (by show w.heap.size < w1.heap.size; omega)).trans hx2, Nat.lt_of_lt_of_le hs2 bS.size, (bdrewN hB2 _).setCell (by show w.heap.size ≤ w1.heap.size; omega) _⟩
              case measure => simp [intOf]; omega
          | false =>
            have HN : Hid (trK n s (k + 1) = X) := HX2.out.2 (HI.out.2 rfl)
            clear HI HX2
            go_wp2
            go_roundw
            case rel => exact ⟨k + 1, X, by go_num, by omega, rfl, HN, by omega, hx2, by omega, hB2⟩
            case measure => simp [intOf]; omega
        · have hdi : decide ((i : Int) < (n : Int)) = false := by simp; omega
          obtain rfl : i = n := by omega
          cases ok with
          | true =>
            have HN : Hid (trK i s (k + 1) = X + 1) := HX2.out.1 fun t t' ht ht' e => (HI.out.1 rfl).un t t' ht ht' e
            clear HI HX2
            go_wp2
            go_roundw
            case rel => exact ⟨k + 1, X + 1, by go_num, by omega, by go_num, HN, by omega, hx2, by omega, hB2⟩
            case measure => simp [intOf]; omega
          | false =>
            have HN : Hid (trK i s (k + 1) = X) := HX2.out.2 (HI.out.2 rfl)
            clear HI HX2
            go_wp2
            go_roundw
            case rel => exact ⟨k + 1, X, by go_num, by omega, rfl, HN, by omega, hx2, by omega, hB2⟩
            case measure => simp [intOf]; omega
    · have hdk : decide ((k : Int) < (F : Int)) = false := by simp; omega
      obtain rfl : k = F := by omega
      have hX := HX.out
      subst hX
      go_wp2
      go_ret
      exact ⟨rfl, hB⟩
end Go.Proofs.Ytagpbkcnjogbgaa
