/- The walk of Inv; Add, Mul and Inv on a true field; the closed fact. -/
import Derived.Test.YtgdkfbgehbdkjaaDoorFL5
import Derived.Test.YtgdkfbgehbdkjaaDoorAlgE
import Derived.Test.YtgdkfbgehbdkjaaDoorW17
/- The walks of pow, Inv and Pow; sums and products of a true field's elements. -/
namespace Go.Proofs.YtgdkfbgehbdkjaaDoor.Fd
open Go.RowKit

theorem mulQ_cast {P K : Nat} {m : Nat → Int} (hR : Ring1 P K m) (a b : Nat) : ((mulQ P K m a b : Nat) : Int) = hor (redN m K P K (mulN (digF a P) (digF b P) P K K)) P K K := by
  unfold mulQ
  exact Int.toNat_of_nonneg (hor_bd (k := K) (show (2 : Int) ≤ P by have := hR.two; omega) (mulQ_in hR a b) K).1
theorem addQ_cast {P K : Nat} (hP : 2 ≤ P) (a b : Nat) : ((addQ P K a b : Nat) : Int) = hor (plusF (digF a P) (digF b P) P) P K K := by
  unfold addQ
  exact Int.toNat_of_nonneg (hor_bd (k := K) (show (2 : Int) ≤ P by omega) (plusF_in _ _ _ (by omega)) K).1
theorem mul_Q (P K a b : Nat) (Q : Int) (m : Nat → Int) (w : World) (hR : Ring1 P K m) (hP' : P ≤ 64) (hK' : K ≤ 6) (hPK : P ^ K ≤ 64) (ha : a < P ^ K) (hb : b < P ^ K) (s : Nat) (hs : Hid (s = mulQ P K m a b)) :
    Calls Tryd.prog 78 #[.agg (ringRow P K Q m), .int .i64 a, .int .i64 b] w fun e w' => e = .returned (.int .i64 s) ∧ Below w.heap.size w w' := by
  have h := mul_any P K a b Q m w hR.two hP' hR.one hK' hPK ha hb hR.low hR.top
  rw [prod_same hR.two hR.one hK' ha hb, ← mulQ_cast hR, ← hs.out] at h
  exact h

set_option maxRecDepth 100000 in
set_option maxHeartbeats 1000000 in
theorem pow_any (P K a : Nat) (n Q : Int) (m : Nat → Int) (w : World) (hR : Ring1 P K m) (hP' : P ≤ 64) (hK' : K ≤ 6) (hPK : P ^ K ≤ 64) (ha : a < P ^ K) (hn : 0 ≤ n) (hn' : n ≤ 9223372036854775807) (s : Nat) (hs : Hid (s = powQ P K m a n.toNat)) :
    Calls Tryd.prog 75 #[.agg (ringRow P K Q m), .int .i64 a, .int .i64 n] w fun e w' => e = .returned (.int .i64 s) ∧ Below w.heap.size w w' := by
  obtain ⟨fs, hu⟩ := und53
  have hone := one_lt hR
  go_enter Tryd.func75, Tryd.ntmps75
  go_wp2
  go_loopw [1, 2, 7] (fun x y o wr => ∃ (b c : Nat) (j : Int), x = .int .i64 b ∧ y = .int .i64 j ∧ o = .int .i64 c ∧ 0 ≤ j ∧ j ≤ 9223372036854775807 ∧ b < P ^ K ∧ c < P ^ K ∧ Hid (mulQ P K m c (powQ P K m b j.toNat) = s) ∧ RB wr w.heap.size P K Q m ∧ Below w.heap.size w wr) (fun _ y _ _ => (intOf y).toNat)
  case atStart =>
    refine ⟨a, 1, n, rfl, rfl, rfl, hn, hn', ha, hone, ?_, RB.made w P K Q m, (Below.refl _ _).alloc (Nat.le_refl _) _⟩
    show mulQ P K m 1 (powQ P K m a n.toNat) = s
    rw [one_mulQ hR (powQ_lt hR a _), hs.out]
  case round =>
    obtain ⟨b, c, j, rfl, rfl, rfl, hj, hj', hb, hc, HI, hRB, hB⟩ := hrel
    by_cases hlt : 0 < j
    · have hq0 : 0 ≤ j / 2 := by omega
      have hq1 : j / 2 < j := by omega
      have hw : wrap64 (j.tdiv 2) = j / 2 := by rw [Int.tdiv_eq_ediv_of_nonneg hj]; unfold wrap64; omega
      obtain ⟨bb, Hbb⟩ : ∃ x, Hid (x = mulQ P K m b b) := ⟨_, rfl⟩
      have hbb : bb < P ^ K := by rw [Hbb.out]; exact mulQ_lt hR b b
      have HSQ : Hid (∀ k, powQ P K m bb k = powQ P K m b (2 * k)) := by
        intro k
        have e : bb = powQ P K m b 2 := by
          rw [Hbb.out]
          show _ = mulQ P K m b (powQ P K m b 1)
          rw [powQ_first hR hb]
        rw [e, powQ_mul hR]
      by_cases hodd : j % 2 = 1
      · have hb1 : (j % 2 == 1) = true := by simpa using hodd
        obtain ⟨cb, Hcb⟩ : ∃ x, Hid (x = mulQ P K m c b) := ⟨_, rfl⟩
        have hcb : cb < P ^ K := by rw [Hcb.out]; exact mulQ_lt hR c b
        have HN : Hid (mulQ P K m cb (powQ P K m bb (j / 2).toNat) = s) := by
          show mulQ P K m cb (powQ P K m bb (j / 2).toNat) = s
          rw [HSQ.out, Hcb.out, mulQ_assoc hR, ← HI.out]
          rw [show j.toNat = 2 * (j / 2).toNat + 1 by omega]
          rfl
        clear hodd
        go_wp2_with (first
          | (refine wpList_load_row rfl 87 _ rfl w.heap.size rfl 87 _ (0, 0) _ hRB hu rfl (inf53 _ _ _ _) ?_))
        refine (mul_Q P K c b Q m _ hR hP' hK' hPK hc hb cb Hcb).mono ?_
        rintro e w1 ⟨rfl, hb1⟩
        have hRB1 := hRB.below hb1
        have hB1 : Below w.heap.size w w1 := hB.trans (hb1.mono hB.size)
        go_wp2_with (first
          | (refine wpList_load_row rfl 87 _ rfl w.heap.size rfl 87 _ (0, 0) _ hRB1 hu rfl (inf53 _ _ _ _) ?_))
        refine (mul_Q P K b b Q m _ hR hP' hK' hPK hb hb bb Hbb).mono ?_
        rintro e w2 ⟨rfl, hb2⟩
        have hRB2 := hRB1.below hb2
        have hB2 : Below w.heap.size w w2 := hB1.trans (hb2.mono hB1.size)
        go_wp2
        go_roundw
        case rel => exact ⟨bb, cb, j / 2, rfl, rfl, rfl, hq0, by omega, hbb, hcb, HN, hRB2, hB2⟩
        case measure => simp [intOf]; omega
      · have hb1 : (j % 2 == 1) = false := by simpa using hodd
        have HN : Hid (mulQ P K m c (powQ P K m bb (j / 2).toNat) = s) := by
          show mulQ P K m c (powQ P K m bb (j / 2).toNat) = s
          rw [HSQ.out, ← HI.out, show 2 * (j / 2).toNat = j.toNat by omega]
        clear hodd
        go_wp2_with (first
          | (refine wpList_load_row rfl 87 _ rfl w.heap.size rfl 87 _ (0, 0) _ hRB hu rfl (inf53 _ _ _ _) ?_))
        refine (mul_Q P K b b Q m _ hR hP' hK' hPK hb hb bb Hbb).mono ?_
        rintro e w2 ⟨rfl, hb2⟩
        have hRB2 := hRB.below hb2
        have hB2 : Below w.heap.size w w2 := hB.trans (hb2.mono hB.size)
        go_wp2
        go_roundw
        case rel => exact ⟨bb, c, j / 2, rfl, rfl, rfl, hq0, by omega, hbb, hc, HN, hRB2, hB2⟩
        case measure => simp [intOf]; omega
    · have hc' : c = s := by
        have h := HI.out
        rw [show j.toNat = 0 by omega] at h
        show c = s
        rw [← h]
        exact (mulQ_one hR hc).symm
      subst hc'
      go_wp2
      go_ret
      exact ⟨rfl, hB⟩

end Go.Proofs.YtgdkfbgehbdkjaaDoor.Fd

namespace Go.Proofs.YtgdkfbgehbdkjaaDoor.Fd
open Go.RowKit

theorem sl_one (w : World) (a : Int) : Sl (w.alloc (.cells #[.int .i64 a] 3)) (.slice (some ⟨w.heap.size, 0, none⟩) 1 1) [a] := by
  refine ⟨_, 1, rfl, fun j hj => ⟨w.heap.size, 0, rfl, ?_⟩⟩
  have h := cell_of_row (w.alloc (.cells #[.int .i64 a] 3)) w.heap.size (0 + j) _ _ _ (heap_alloc_new w _)
  rw [h]
  have : j = 0 := by simp at hj; omega
  subst this; rfl
/-- A field that is one, in natural numbers. -/
structure GoodF (P K : Nat) (l : List Int) : Prop where
  fault : FaultIs (P : Int) K l 0
  field : FieldQ P K (monL l)
  le61 : P ≤ 61
  le6 : K ≤ 6
  le64 : P ^ K ≤ 64
  ord : ordZ (P : Int) K = ((P ^ K : Nat) : Int)
  len : l.length = K
theorem good_of {p k : Int} {l : List Int} (h : FaultIs p k l 0) : ∃ P K : Nat, p = P ∧ k = K ∧ GoodF P K l := by
  obtain ⟨h0, h1, h2, h3⟩ := h.ok
  obtain ⟨P, K, rfl, rfl, hP, hP', hK, hK', hPK, hq, hlen, hmi, hmK, hpr⟩ := good_parts h
  rw [Int.toNat_natCast, Int.toNat_natCast] at h3
  exact ⟨P, K, rfl, rfl, h, field_of_irr hpr hK hPK hlen h2 h3, hP', hK', hPK, hq, hlen⟩
theorem in_pair {P K : Nat} {l : List Int} (hG : GoodF P K l) {a b : Nat} (ha : a < P ^ K) (hb : b < P ^ K) : inL (ordZ (P : Int) K) [(a : Int), (b : Int)] := by
  rw [inL_pair, inB_iff, inB_iff, hG.ord]; omega
theorem in_one {P K : Nat} {l : List Int} (hG : GoodF P K l) {a : Nat} (ha : a < P ^ K) : inL (ordZ (P : Int) K) [(a : Int)] := by
  intro j hj
  have : j = 0 := by simp at hj; omega
  subst this
  rw [hG.ord]
  show 0 ≤ (a : Int) ∧ (a : Int) < _
  omega

theorem AddG (P K a b : Nat) (l : List Int) (v : Value) (w : World) (hT : Tab w) (hl : Sl w v l) (hll : l.length ≤ maxLen) (hG : GoodF P K l) (ha : a < P ^ K) (hb : b < P ^ K) (s : Nat) (hs : Hid (s = addQ P K a b)) :
    Calls Tryd.prog 77 #[.agg #[.int .i64 P, .int .i64 K, v], .int .i64 a, .int .i64 b] w fun e w' => e = .returned (.tuple #[.int .i64 s, .int .i64 0]) ∧ Below w.heap.size w w' := by
  refine (Add_any P K a b l v w hT hl hll).mono ?_
  rintro e w' ⟨x, z, rfl, hO, _, H1, hB⟩
  obtain rfl := open_in hG.fault (in_pair hG ha hb) hO
  have h := H1.out rfl
  unfold sumZ at h
  simp only [Int.toNat_natCast] at h
  rw [← addQ_cast hG.field.two, ← hs.out] at h
  exact ⟨by rw [h], hB⟩
theorem MulG (P K a b : Nat) (l : List Int) (v : Value) (w : World) (hT : Tab w) (hl : Sl w v l) (hll : l.length ≤ maxLen) (hG : GoodF P K l) (ha : a < P ^ K) (hb : b < P ^ K) (s : Nat) (hs : Hid (s = mulQ P K (monL l) a b)) :
    Calls Tryd.prog 76 #[.agg #[.int .i64 P, .int .i64 K, v], .int .i64 a, .int .i64 b] w fun e w' => e = .returned (.tuple #[.int .i64 s, .int .i64 0]) ∧ Below w.heap.size w w' := by
  refine (Mul_any P K a b l v w hT hl hll).mono ?_
  rintro e w' ⟨x, z, rfl, hO, _, H1, hB⟩
  obtain rfl := open_in hG.fault (in_pair hG ha hb) hO
  have h := H1.out rfl
  unfold prodZ at h
  simp only [Int.toNat_natCast] at h
  rw [prod_same hG.field.two hG.field.one hG.le6 ha hb, ← mulQ_cast hG.field.toRing1, ← hs.out] at h
  exact ⟨by rw [h], hB⟩

set_option maxRecDepth 100000 in
set_option maxHeartbeats 1000000 in
theorem InvG (P K a : Nat) (l : List Int) (v : Value) (w : World) (hT : Tab w) (hl : Sl w v l) (hll : l.length ≤ maxLen) (hG : GoodF P K l) (ha : a < P ^ K) (ha1 : 1 ≤ a) (s : Nat) (hs : Hid (s = powQ P K (monL l) a (P ^ K - 2))) :
    Calls Tryd.prog 65 #[.agg #[.int .i64 P, .int .i64 K, v], .int .i64 a] w fun e w' => e = .returned (.tuple #[.int .i64 s, .int .i64 0]) ∧ Below w.heap.size w w' := by
  obtain ⟨A, ca, rfl, _⟩ := id hl
  have hbx : Below w.heap.size w ((w.alloc (.cells #[.int .i64 P, .int .i64 K, .slice A l.length ca] 24)).alloc (.cells #[.int .i64 a] 3)) := ((Below.refl _ _).alloc (Nat.le_refl _) _).alloc (by simp) _
  have hpair := sl_one (w.alloc (.cells #[.int .i64 P, .int .i64 K, .slice A l.length ca] 24)) a
  simp only [World.size_alloc] at hpair
  obtain ⟨fs, hu⟩ := und53
  go_enter Tryd.func65, Tryd.ntmps65
  go_wp2_with fail
  refine (open_any P K l [(a : Int)] _ _ _ (hT.below hbx) (hl.below hbx) hpair hll (by simp [maxLen])).mono ?_
  rintro e w1 ⟨z, x, y, c, f, rfl, hO, HZ, hb1⟩
  have hB1 : Below w.heap.size w w1 := hbx.trans (hb1.mono hbx.size)
  obtain rfl := open_in hG.fault (in_one hG ha) hO
  obtain ⟨rfl, rfl, rfl, rfl⟩ := HZ.out rfl
  have hnew : RB (w1.alloc (.cells #[.int .i64 0, .int .i64 0, .int .i64 0, .int .i64 0, .int .i64 0, .int .i64 0, .int .i64 0, .int .i64 0, .int .i64 0, .int .i64 0, .int .i64 0, .int .i64 0, .int .i64 0, .int .i64 0] 87)) w1.heap.size 0 0 0 (fun _ => 0) := RB.made w1 0 0 0 (fun _ => 0)
  have hRB := hnew.whole P K (ordZ (P : Int) K) (monL l)
  have hBA : Below w.heap.size w ((w1.alloc (.cells #[.int .i64 0, .int .i64 0, .int .i64 0, .int .i64 0, .int .i64 0, .int .i64 0, .int .i64 0, .int .i64 0, .int .i64 0, .int .i64 0, .int .i64 0, .int .i64 0, .int .i64 0, .int .i64 0] 87)).setRow w1.heap.size (ringRow P K (ordZ (P : Int) K) (monL l))) := bsetRow (hB1.alloc hB1.size _) hB1.size _
  have hc2 : ((w1.alloc (.cells #[.int .i64 0, .int .i64 0, .int .i64 0, .int .i64 0, .int .i64 0, .int .i64 0, .int .i64 0, .int .i64 0, .int .i64 0, .int .i64 0, .int .i64 0, .int .i64 0, .int .i64 0, .int .i64 0] 87)).setRow w1.heap.size (ringRow P K (ordZ (P : Int) K) (monL l))).cell? ⟨w1.heap.size, 2, none⟩ = some (.int .i64 (ordZ (P : Int) K)) := cell_of_row _ _ _ _ _ _ hRB
  have ho := ord_bd (P : Int) K
  have ho2 : 2 ≤ ordZ (P : Int) K := by rw [hG.ord]; have := one_lt hG.field.toRing1; omega
  have hab : ((a : Int) == 0) = false := by simp; omega
  have HS : Hid (s = powQ P K (monL l) a (ordZ (P : Int) K - 2).toNat) := by
    show s = powQ P K (monL l) a (ordZ (P : Int) K - 2).toNat
    rw [hG.ord, hs.out]
    congr 1; omega
  clear hpair hO HZ
  go_wp2_with (first
    | (refine wpList_store_row rfl 87 _ _ rfl w1.heap.size _ rfl rfl 87 _ hnew (inf53 _ _ _ _) rfl (ringRow_one _ _ _ _) ?_)
    | (refine wpList_load_row rfl 87 _ rfl w1.heap.size rfl 87 _ (0, 0) _ hRB hu rfl (inf53 _ _ _ _) ?_))
  refine (pow_any P K a _ _ (monL l) _ hG.field.toRing1 (by have := hG.le61; omega) hG.le6 hG.le64 ha (by omega) (by omega) s HS).mono ?_
  rintro e w2 ⟨rfl, hb2⟩
  go_wp2
  go_ret2
  exact ⟨rfl, hBA.trans (hb2.mono hBA.size)⟩

def zBk (f : Nat → Int) : Bool := (List.range 11).all fun t => f t == 0
theorem zBk_iff (f : Nat → Int) : zBk f = true ↔ isZ f := by
  unfold zBk isZ
  rw [List.all_eq_true]
  simp
theorem fact_no : ∀ n, n < 3 → ¬ goodAt 2 3 n := by
  intro n hn h
  have h0 : zBk (redN (digF (2 ^ 1 + 0) 2) 1 (2 : Nat) (11 - 1) (digF (2 ^ 3 + 0) 2)) = true := by decide +kernel
  have h1 : zBk (redN (digF (2 ^ 1 + 1) 2) 1 (2 : Nat) (11 - 1) (digF (2 ^ 3 + 1) 2)) = true := by decide +kernel
  have h2 : zBk (redN (digF (2 ^ 1 + 0) 2) 1 (2 : Nat) (11 - 1) (digF (2 ^ 3 + 2) 2)) = true := by decide +kernel
  have : n = 0 ∨ n = 1 ∨ n = 2 := by omega
  rcases this with rfl | rfl | rfl
  · exact h 1 (by omega) (by omega) 0 (by decide) ((zBk_iff _).1 h0)
  · exact h 1 (by omega) (by omega) 1 (by decide) ((zBk_iff _).1 h1)
  · exact h 1 (by omega) (by omega) 0 (by decide) ((zBk_iff _).1 h2)
theorem fact_yes : goodAt 2 3 3 := by
  intro e h1 h2 b hb hz
  have he : e = 1 := by omega
  subst he
  have h0 : zBk (redN (digF (2 ^ 1 + 0) 2) 1 (2 : Nat) (11 - 1) (digF (2 ^ 3 + 3) 2)) = false := by decide +kernel
  have h1 : zBk (redN (digF (2 ^ 1 + 1) 2) 1 (2 : Nat) (11 - 1) (digF (2 ^ 3 + 3) 2)) = false := by decide +kernel
  have : b = 0 ∨ b = 1 := by simp at hb; omega
  rcases this with rfl | rfl
  · rw [(zBk_iff _).2 hz] at h0; cases h0
  · rw [(zBk_iff _).2 hz] at h1; cases h1
theorem fact_ord : ordZ 2 3 = 8 := by decide +kernel
theorem fact_least {q d : Int} {l : List Int} {z : Int} (h : LeastIs 2 3 q d l z) : q = 2 ∧ d = 3 ∧ l = digL 3 2 3 ∧ z = 0 :=
  h.one (.inr ⟨2, 3, rfl, rfl, by rw [fact_ord]; decide, .inl ⟨3, by decide, fact_yes, fact_no, rfl, rfl, rfl, rfl⟩⟩)
theorem fact_good : GoodF 2 3 (digL 3 2 3) := by
  have hin : inL (2 : Int) (digL 3 2 3) := fun j hj => by
    rw [digL_length] at hj
    rw [digL_at _ _ _ _ hj]; exact digF_in 3 2 (by omega) j
  have hirr : irrP (monL (digL 3 2 3)) 3 2 := by rw [monL_dig 3 2 3 (by decide) (by decide)]; exact fact_yes
  have hF : FaultIs ((2 : Nat) : Int) ((3 : Nat) : Int) (digL 3 2 3) 0 := .inr (.inr (.inr (.inr ⟨by rw [show ((2 : Nat) : Int) = 2 from rfl, show ((3 : Nat) : Int) = 3 from rfl, fact_ord]; decide, by rw [digL_length], hin, hirr, rfl⟩)))
  obtain ⟨P, K, e1, e2, hG⟩ := good_of hF
  obtain rfl : 2 = P := by omega
  obtain rfl : 3 = K := by omega
  exact hG
theorem fact_mul : mulQ 2 3 (monL (digL 3 2 3)) 4 2 = 3 := by decide +kernel

end Go.Proofs.YtgdkfbgehbdkjaaDoor.Fd
