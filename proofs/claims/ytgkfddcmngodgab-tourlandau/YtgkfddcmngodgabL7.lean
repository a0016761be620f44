/- The law TourLandau, over what the program's faces are to tell. -/
import Derived.Test.YtgkfddcmngodgabS2
import Derived.Test.YtgkfddcmngodgabU6b
namespace Go.Proofs.Ytgkfddcmngodgab
open Go.RowKit

def scZ (s : Int) (l : List Int) : List Int := if tF s l = 0 then (scT (tB s.toNat l) s.toNat).map Int.ofNat else []
theorem scZ_ok {n : Nat} {l : List Int} (h : tF n l = 0) : scZ n l = (scT (tB n l) n).map Int.ofNat := by unfold scZ; rw [if_pos h, Int.toNat_natCast]
/-- A table as it comes. -/
structure SqC (w : World) (v : Value) (l : List Int) : Prop where
  sl : Sl w v l
  len : l.length ≤ maxLen
theorem SqC.below {w w' : World} {v : Value} {l : List Int} (h : SqC w v l) (b : Below w.heap.size w w') : SqC w' v l := ⟨h.sl.below b, h.len⟩
def FScores : Prop := ∀ (s : Int) (l : List Int) (v : Value) (w : World), SqC w v l → Calls Try.prog 5 #[.agg #[.int .i64 s, v]] w fun e w' => (∃ y, e = .returned (.tuple #[y, .int .i64 (tF s l : Int)]) ∧ Sl w' y (scZ s l)) ∧ Below w.heap.size w w'
def FCould : Prop := ∀ (l : List Int) (v : Value) (w : World), SqC w v l → Calls Try.prog 6 #[v] w fun e w' => e = .returned (.tuple #[.bool (cZ l).1, .int .i64 ((cZ l).2 : Int)]) ∧ Below w.heap.size w w'
def FPaths3 : Prop := ∀ (v : Value) (w : World), Sl w v [0, 1, 0, 0, 0, 1, 1, 0, 0] → Calls Try.prog 9 #[.agg #[.int .i64 3, v]] w fun e w' => e = .returned (.tuple #[.int .i64 3, .int .i64 0]) ∧ Below w.heap.size w w'
def FRings3 : Prop := ∀ (v : Value) (w : World), Sl w v [0, 1, 0, 0, 0, 1, 1, 0, 0] → Calls Try.prog 10 #[.agg #[.int .i64 3, v]] w fun e w' => e = .returned (.tuple #[.int .i64 1, .int .i64 0]) ∧ Below w.heap.size w w'
theorem sl_form {w : World} {y : Value} {l : List Int} (h : Sl w y l) : ∃ a m c, y = .slice a m c := by
  obtain ⟨a, c, e, _⟩ := h
  exact ⟨a, _, c, e⟩
theorem toNat_back (L : List Nat) : (L.map Int.ofNat).map Int.toNat = L := by
  rw [List.map_map]
  exact (List.map_congr_left fun x _ => rfl).trans (List.map_id L)
theorem cZ_ok {l : List Int} (h : (cZ l).2 = 0) : 1 ≤ l.length ∧ l.length ≤ 9 ∧ ∃ L : List Nat, l = L.map Int.ofNat ∧ (∀ x ∈ L, x < l.length) ∧ (cZ l).1 = coB L := by
  unfold cZ at h ⊢
  by_cases h1 : 9 < l.length
  · rw [if_pos h1] at h; cases h
  rw [if_neg h1] at h ⊢
  by_cases h2 : l.length = 0
  · rw [if_pos h2] at h; cases h
  rw [if_neg h2] at h ⊢
  by_cases h3 : (List.range l.length).any (fun i => decide (l.getD i 0 < 0) || decide ((l.length : Int) ≤ l.getD i 0)) = true
  · rw [if_pos h3] at h; cases h
  rw [if_neg h3]
  have hx : ∀ x ∈ l, 0 ≤ x ∧ x < (l.length : Int) := fun x hx => by
    obtain ⟨i, hi, e⟩ := List.getElem_of_mem hx
    have hg : l.getD i 0 = x := by rw [List.getD_eq_getElem?_getD, List.getElem?_eq_getElem hi]; exact e
    have h4 : ¬ ((decide (l.getD i 0 < 0) || decide ((l.length : Int) ≤ l.getD i 0)) = true) := fun hh => h3 (List.any_eq_true.2 ⟨i, List.mem_range.2 hi, hh⟩)
    rw [hg] at h4
    simp at h4
    omega
  refine ⟨by omega, by omega, l.map Int.toNat, ?_, fun x hm => ?_, rfl⟩
  · rw [List.map_map]
    refine ((List.map_congr_left fun x hm => ?_).trans (List.map_id l)).symm
    show ((x.toNat : Nat) : Int) = x
    have := (hx x hm).1
    omega
  · obtain ⟨y, hy, rfl⟩ := List.mem_map.1 hm
    have := hx y hy
    omega
theorem score_lt {n : Nat} {l : List Int} (hg : GoodT n l) {a : Nat} (ha : a < n) : (List.range n).countP (tB n l a) < n := by
  have h : (List.range n).countP (tB n l a) ≤ (List.range n).length := List.countP_le_length
  rw [List.length_range] at h
  rcases Nat.lt_or_ge ((List.range n).countP (tB n l a)) n with k | k
  · exact k
  · have e : (List.range n).countP (tB n l a) = (List.range n).length := by rw [List.length_range]; omega
    have := List.countP_eq_length.1 e a (List.mem_range.2 ha)
    rw [hg.irr a ha] at this
    cases this
theorem cZ_good {n : Nat} {l : List Int} (hg : GoodT n l) : cZ ((scT (tB n l) n).map Int.ofNat) = (true, 0) := by
  have hn := hg.one
  have hn9 := hg.le
  have hl : ((scT (tB n l) n).map Int.ofNat).length = n := by rw [List.length_map, scT_len]
  unfold cZ
  rw [hl, if_neg (by omega), if_neg (by omega), if_neg, toNat_back, landau hg.trn hg.irr]
  intro h
  obtain ⟨i, hi, h⟩ := List.any_eq_true.1 h
  have hi := List.mem_range.1 hi
  have e : ((scT (tB n l) n).map Int.ofNat).getD i 0 = (((List.range n).countP (tB n l i) : Nat) : Int) := by
    rw [← scT_at hi, List.getD_eq_getElem?_getD, List.getElem?_map, List.getD_eq_getElem?_getD, List.getElem?_eq_getElem (by rw [scT_len]; exact hi)]
    rfl
  have := score_lt hg hi
  rw [e] at h
  simp at h
  omega
set_option maxRecDepth 100000 in
set_option maxHeartbeats 8000000 in
theorem tourFact_any (FN : FPaths3) (FR : FRings3) (w : World) : Calls Try.prog 4 #[] w fun e w' => e = .returned (.bool true) ∧ Below w.heap.size w w' := by
  have D31 := ring3_any w
  have H22 : Hid FPaths3 := FN
  have H13 : Hid FRings3 := FR
  go_enter Try.func4, Try.ntmps4
  go_wp2_with (first
    | (go_at_call 8; refine D31.mono ?_; rintro e w1 ⟨⟨y, rfl, hy⟩, b1⟩; clear D31; obtain ⟨ya, ym, yc, rfl⟩ := sl_form hy
       have b2 := balloc w1 (.cells #[.int .i64 3, .slice ya ym yc] 24)
       have HX := sq_cells 3 (.slice ya ym yc) w1
       obtain ⟨x0, x1⟩ := HX _ (Below.refl _ _)
       have hy2 := hy.below b2
       have D22 := H22.out _ _ hy2
       have hB := b1.trans (b2.mono b1.size))
    | (go_at_call 9; refine D22.mono ?_; rintro e w2 ⟨rfl, b3⟩; clear D22 x0 x1
       obtain ⟨x0, x1⟩ := HX w2 b3
       have D13 := H13.out _ _ (hy2.below b3)
       replace hB := hB.trans (b3.mono hB.size))
    | (go_at_call 10; refine D13.mono ?_; rintro e w3 ⟨rfl, b4⟩; clear D13 x0 x1; replace hB := hB.trans (b4.mono hB.size)))
  go_ret
  exact ⟨rfl, hB⟩
set_option maxRecDepth 100000 in
set_option maxHeartbeats 16000000 in
theorem Landau_law (FS : FScores) (FC : FCould) (FN : FPaths3) (FR : FRings3) (s : Int) (l m : List Int) (v u : Value) (w : World) (h : SqC w v l) (k : SqC w u m) :
    Calls Try.prog 3 #[.agg #[.int .i64 s, v], u] w fun e w' => e = .returned (.bool true) ∧ Below w.heap.size w w' := by
  have b1 := balloc w (.cells #[.int .i64 s, v] 24)
  have HX := sq_cells s v w
  obtain ⟨w0, Hw0⟩ : ∃ w0, Hid (w.alloc (.cells #[.int .i64 s, v] 24) = w0) := ⟨_, rfl⟩
  rw [Hw0.out] at b1 HX
  have HX2 : Hid (∀ W, Below w0.heap.size w0 W → W.cell? ⟨w.heap.size, 0, none⟩ = some (.int .i64 s) ∧ W.cell? ⟨w.heap.size, 1, none⟩ = some v) := HX
  have HB0 : Hid (∀ W, Below w0.heap.size w0 W → Below w.heap.size w W) := fun W b => Below.next b1 b
  obtain ⟨z, Hz⟩ : ∃ z, Hid (tF s l = z) := ⟨_, rfl⟩
  obtain ⟨S, HS⟩ : ∃ x, Hid (scZ s l = x) := ⟨_, rfl⟩
  obtain ⟨c, Hc⟩ : ∃ x, Hid ((cZ m).1 = x) := ⟨_, rfl⟩
  obtain ⟨f, Hf⟩ : ∃ x, Hid ((cZ m).2 = x) := ⟨_, rfl⟩
  have H5 : Hid (∀ W, Below w0.heap.size w0 W → Calls Try.prog 5 #[.agg #[.int .i64 s, v]] W fun e w' => (∃ y, e = .returned (.tuple #[y, .int .i64 (z : Int)]) ∧ Sl w' y S) ∧ Below W.heap.size W w') := fun W b => by rw [← Hz.out, ← HS.out]; exact FS s l v W (h.below (HB0.out W b))
  have HM : Hid (∀ W, Below w0.heap.size w0 W → Calls Try.prog 6 #[u] W fun e w' => e = .returned (.tuple #[.bool c, .int .i64 (f : Int)]) ∧ Below W.heap.size W w') := fun W b => by rw [← Hc.out, ← Hf.out]; exact FC m u W (k.below (HB0.out W b))
  have H6 : Hid (z = 0 → ∀ W y, Sl W y S → Calls Try.prog 6 #[y] W fun e w' => e = .returned (.tuple #[.bool true, .int .i64 0]) ∧ Below W.heap.size W w') := fun hz W y hy => by
    obtain ⟨n, hsn, hg⟩ := tF_ok (by rw [Hz.out]; exact hz)
    subst hsn
    have hn9 := hg.le
    have h0 : tF (n : Int) l = 0 := by rw [Hz.out]; exact hz
    have hS : S = (scT (tB n l) n).map Int.ofNat := by rw [← HS.out, scZ_ok h0]
    subst hS
    have q := FC _ y W ⟨hy, by rw [List.length_map, scT_len]; unfold maxLen; omega⟩
    rw [cZ_good hg] at q
    exact q
  have H7 : Hid (f = 0 → m.length ≤ 5 → ∀ W, Below w0.heap.size w0 W → Calls Try.prog 7 #[u] W fun e w' => e = .returned (.bool c) ∧ Below W.heap.size W w') := fun hf h5 W b => by
    obtain ⟨k1, k9, L, hL, hx, hc⟩ := cZ_ok (by rw [Hf.out]; exact hf)
    have hLl : L.length = m.length := by rw [hL, List.length_map]
    have q := SomeOf_any L.length L (by omega) (by omega) rfl u W (by rw [← hL]; exact (k.below (HB0.out W b)).sl) c ?_
    · exact q
    · rw [← Hc.out, hc]
      exact some_few (by omega) (by omega) rfl fun x hm => by rw [hLl]; exact hx x hm
  have D28 := tourFact_any FN FR w0
  have hB : Below w0.heap.size w0 w0 := Below.refl _ _
  rw [← Hw0.out] at D28
  have hml := k.len
  unfold maxLen at hml
  obtain ⟨a, uc, rfl, _⟩ := k.sl
  obtain ⟨ml, Hml⟩ : ∃ x, Hid (m.length = x) := ⟨_, rfl⟩
  rw [Hml.out] at H7 hml HM ⊢
  clear HX b1 h k FS FC FN FR
  by_cases hz : z = 0
  · have H6' := H6.out hz
    subst hz
    clear H6
    by_cases hf : f = 0
    · by_cases h5 : ml ≤ 5
      · have H7' := H7.out hf h5
        subst hf
        have hd5 : decide (5 < (ml : Int)) = false := by simp; omega
        have hd5n : decide (5 < ml) = false := by simp; omega
        have hd5i : ¬ (5 : Int) < (ml : Int) := by omega
        have ecc : (c == c) = true := by simp
        clear H7 h5
        go_enter Try.func3, Try.ntmps3
        go_wp2_with (first
          | (go_at_call 4; refine D28.mono ?_; rintro e wa ⟨rfl, ba⟩; clear D28; rw [Hw0.out] at ba; replace hB := hB.trans (ba.mono hB.size); obtain ⟨x0, x1⟩ := HX2.out wa hB; have D5 := H5.out wa hB)
          | (go_at_call 5; refine D5.mono ?_; rintro e wb ⟨⟨y, rfl, hy⟩, bb⟩; clear D5 x0 x1; replace hB := hB.trans (bb.mono hB.size); obtain ⟨x0, x1⟩ := HX2.out wb hB; obtain ⟨ya, ym, yc, rfl⟩ := sl_form hy; have D6a := H6' wb _ hy)
          | (go_at_call 6; refine D6a.mono ?_; rintro e wc ⟨rfl, bc⟩; clear D6a; replace hB := hB.trans (bc.mono hB.size); have D6 := HM.out wc hB)
          | (go_at_call 6; refine D6.mono ?_; rintro e wd ⟨rfl, bd⟩; clear D6; replace hB := hB.trans (bd.mono hB.size); have D7 := H7' wd hB)
          | (go_at_call 7; refine D7.mono ?_; rintro e we ⟨rfl, be⟩; clear D7; replace hB := hB.trans (be.mono hB.size)))
        go_ret
        exact ⟨by first | rfl | (cases c <;> rfl), HB0.out _ hB⟩
      · subst hf
        have hd5 : decide (5 < (ml : Int)) = true := by simp; omega
        have hd5n : decide (5 < ml) = true := by simp; omega
        have hd5i : (5 : Int) < (ml : Int) := by omega
        clear H7 h5
        go_enter Try.func3, Try.ntmps3
        go_wp2_with (first
          | (go_at_call 4; refine D28.mono ?_; rintro e wa ⟨rfl, ba⟩; clear D28; rw [Hw0.out] at ba; replace hB := hB.trans (ba.mono hB.size); obtain ⟨x0, x1⟩ := HX2.out wa hB; have D5 := H5.out wa hB)
          | (go_at_call 5; refine D5.mono ?_; rintro e wb ⟨⟨y, rfl, hy⟩, bb⟩; clear D5 x0 x1; replace hB := hB.trans (bb.mono hB.size); obtain ⟨x0, x1⟩ := HX2.out wb hB; obtain ⟨ya, ym, yc, rfl⟩ := sl_form hy; have D6a := H6' wb _ hy)
          | (go_at_call 6; refine D6a.mono ?_; rintro e wc ⟨rfl, bc⟩; clear D6a; replace hB := hB.trans (bc.mono hB.size); have D6 := HM.out wc hB)
          | (go_at_call 6; refine D6.mono ?_; rintro e wd ⟨rfl, bd⟩; clear D6; replace hB := hB.trans (bd.mono hB.size)))
        go_ret
        exact ⟨by first | rfl | (cases c <;> rfl), HB0.out _ hB⟩
    · have hfb : ((f : Int) != 0) = true := by simp [hf]
      clear H7 hf
      go_enter Try.func3, Try.ntmps3
      go_wp2_with (first
        | (go_at_call 4; refine D28.mono ?_; rintro e wa ⟨rfl, ba⟩; clear D28; rw [Hw0.out] at ba; replace hB := hB.trans (ba.mono hB.size); obtain ⟨x0, x1⟩ := HX2.out wa hB; have D5 := H5.out wa hB)
        | (go_at_call 5; refine D5.mono ?_; rintro e wb ⟨⟨y, rfl, hy⟩, bb⟩; clear D5 x0 x1; replace hB := hB.trans (bb.mono hB.size); obtain ⟨x0, x1⟩ := HX2.out wb hB; obtain ⟨ya, ym, yc, rfl⟩ := sl_form hy; have D6a := H6' wb _ hy)
        | (go_at_call 6; refine D6a.mono ?_; rintro e wc ⟨rfl, bc⟩; clear D6a; replace hB := hB.trans (bc.mono hB.size); have D6 := HM.out wc hB)
        | (go_at_call 6; refine D6.mono ?_; rintro e wd ⟨rfl, bd⟩; clear D6; replace hB := hB.trans (bd.mono hB.size)))
      go_ret
      exact ⟨by first | rfl | (cases c <;> rfl), HB0.out _ hB⟩
  · have hzb : ((z : Int) == 0) = false := by simp [hz]
    clear H6 hz
    by_cases hf : f = 0
    · by_cases h5 : ml ≤ 5
      · have H7' := H7.out hf h5
        subst hf
        have hd5 : decide (5 < (ml : Int)) = false := by simp; omega
        have hd5n : decide (5 < ml) = false := by simp; omega
        have hd5i : ¬ (5 : Int) < (ml : Int) := by omega
        have ecc : (c == c) = true := by simp
        clear H7 h5
        go_enter Try.func3, Try.ntmps3
        go_wp2_with (first
          | (go_at_call 4; refine D28.mono ?_; rintro e wa ⟨rfl, ba⟩; clear D28; rw [Hw0.out] at ba; replace hB := hB.trans (ba.mono hB.size); obtain ⟨x0, x1⟩ := HX2.out wa hB; have D5 := H5.out wa hB)
          | (go_at_call 5; refine D5.mono ?_; rintro e wb ⟨⟨y, rfl, hy⟩, bb⟩; clear D5 x0 x1; replace hB := hB.trans (bb.mono hB.size); obtain ⟨x0, x1⟩ := HX2.out wb hB; obtain ⟨ya, ym, yc, rfl⟩ := sl_form hy; have D6 := HM.out wb hB)
          | (go_at_call 6; refine D6.mono ?_; rintro e wd ⟨rfl, bd⟩; clear D6; replace hB := hB.trans (bd.mono hB.size); have D7 := H7' wd hB)
          | (go_at_call 7; refine D7.mono ?_; rintro e we ⟨rfl, be⟩; clear D7; replace hB := hB.trans (be.mono hB.size)))
        go_ret
        exact ⟨by first | rfl | (cases c <;> rfl), HB0.out _ hB⟩
      · subst hf
        have hd5 : decide (5 < (ml : Int)) = true := by simp; omega
        have hd5n : decide (5 < ml) = true := by simp; omega
        have hd5i : (5 : Int) < (ml : Int) := by omega
        clear H7 h5
        go_enter Try.func3, Try.ntmps3
        go_wp2_with (first
          | (go_at_call 4; refine D28.mono ?_; rintro e wa ⟨rfl, ba⟩; clear D28; rw [Hw0.out] at ba; replace hB := hB.trans (ba.mono hB.size); obtain ⟨x0, x1⟩ := HX2.out wa hB; have D5 := H5.out wa hB)
          | (go_at_call 5; refine D5.mono ?_; rintro e wb ⟨⟨y, rfl, hy⟩, bb⟩; clear D5 x0 x1; replace hB := hB.trans (bb.mono hB.size); obtain ⟨x0, x1⟩ := HX2.out wb hB; obtain ⟨ya, ym, yc, rfl⟩ := sl_form hy; have D6 := HM.out wb hB)
          | (go_at_call 6; refine D6.mono ?_; rintro e wd ⟨rfl, bd⟩; clear D6; replace hB := hB.trans (bd.mono hB.size)))
        go_ret
        exact ⟨by first | rfl | (cases c <;> rfl), HB0.out _ hB⟩
    · have hfb : ((f : Int) != 0) = true := by simp [hf]
      clear H7 hf
      go_enter Try.func3, Try.ntmps3
      go_wp2_with (first
        | (go_at_call 4; refine D28.mono ?_; rintro e wa ⟨rfl, ba⟩; clear D28; rw [Hw0.out] at ba; replace hB := hB.trans (ba.mono hB.size); obtain ⟨x0, x1⟩ := HX2.out wa hB; have D5 := H5.out wa hB)
        | (go_at_call 5; refine D5.mono ?_; rintro e wb ⟨⟨y, rfl, hy⟩, bb⟩; clear D5 x0 x1; replace hB := hB.trans (bb.mono hB.size); obtain ⟨x0, x1⟩ := HX2.out wb hB; obtain ⟨ya, ym, yc, rfl⟩ := sl_form hy; have D6 := HM.out wb hB)
        | (go_at_call 6; refine D6.mono ?_; rintro e wd ⟨rfl, bd⟩; clear D6; replace hB := hB.trans (bd.mono hB.size)))
      go_ret
      exact ⟨by first | rfl | (cases c <;> rfl), HB0.out _ hB⟩
end Go.Proofs.Ytgkfddcmngodgab
