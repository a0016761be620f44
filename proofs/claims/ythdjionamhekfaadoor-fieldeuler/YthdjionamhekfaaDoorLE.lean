/- The law FieldEuler, walked: of an odd order half of all are squares, those that are 1 to the power of (q - 1) / 2; of an even one all are. -/
import Derived.Test.YthdjionamhekfaaDoorW26
import Derived.Test.YthdjionamhekfaaDoorW10
import Derived.Test.YthdjionamhekfaaDoorAlgK
namespace Go.Proofs.YthdjionamhekfaaDoor
open Go.RowKit

def eqTo (s : List Int) (a : Int) : Nat → Bool
  | 0 => false
  | n + 1 => eqTo s a n || s.getD n 0 == a
theorem eqTo_all (s : List Int) (a : Int) : eqTo s a s.length = decide (a ∈ s) := by
  have h : ∀ n, n ≤ s.length → (eqTo s a n = true ↔ ∃ j, j < n ∧ s.getD j 0 = a) := by
    intro n
    induction n with
    | zero => intro _; simp [eqTo]
    | succ n ih =>
      intro hn
      rw [eqTo, Bool.or_eq_true, ih (by omega), beq_iff_eq]
      constructor
      · rintro (⟨j, hj, e⟩ | e)
        · exact ⟨j, by omega, e⟩
        · exact ⟨n, by omega, e⟩
      · rintro ⟨j, hj, e⟩
        by_cases ej : j = n
        · subst ej; exact .inr e
        · exact .inl ⟨j, by omega, e⟩
  rw [Bool.eq_iff_iff, h _ (Nat.le_refl _), decide_eq_true_eq, List.mem_iff_getElem]
  constructor
  · rintro ⟨j, hj, e⟩
    exact ⟨j, hj, by simpa [hj] using e⟩
  · rintro ⟨j, hj, e⟩
    exact ⟨j, hj, by simpa [hj] using e⟩

set_option maxRecDepth 100000 in
set_option maxHeartbeats 4000000 in
theorem lawE_any (p k a : Int) (l : List Int) (v : Value) (w : World) (hT : Tab w) (hl : Sl w v l) (hll : l.length ≤ maxLen) :
    Calls Tryd.prog 4 #[.agg #[.int .i64 p, .int .i64 k, v], .int .i64 a] w fun e w' => e = .returned (.bool true) ∧ Below w.heap.size w w' := by
  obtain ⟨A, ca, rfl, _⟩ := id hl
  have hF0 := FB.made w p k (.slice A l.length ca)
  have hB0 : Below w.heap.size w (w.alloc (.cells #[.int .i64 p, .int .i64 k, .slice A l.length ca] 24)) := (Below.refl _ _).alloc (Nat.le_refl _) _
  go_enter Tryd.func4, Tryd.ntmps4
  go_wp2_with fail
  refine (fact_any _ (hT.below hB0)).mono ?_
  rintro e w1 ⟨rfl, hb1⟩
  have hF1 := hF0.below hb1
  have hB1 : Below w.heap.size w w1 := hB0.trans (hb1.mono hB0.size)
  have hc1 := hF1.cells
  go_wp2_with fail
  refine (Squares_any p k l _ _ (hT.below hB1) (hl.below hB1) hll).mono ?_
  rintro e w2 ⟨u, s, z1, rfl, hsl, hFa, _, HS, hb2⟩
  have hF2 := hF1.below hb2
  have hB2 : Below w.heap.size w w2 := hB1.trans (hb2.mono hB1.size)
  have hc2 := hF2.cells
  have HFa : Hid (FaultIs p k l z1) := hFa
  clear hFa hc1 hF1 hF0 hB0
  by_cases h1 : z1 = 0
  · subst h1
    obtain ⟨P, K, rfl, rfl, hG⟩ := good_of HFa.out
    have hR := hG.field.toRing1
    have hP2 := hR.two
    have hP61 := hG.le61
    have hK6 := hG.le6
    have hs := HS.out rfl
    simp only [Int.toNat_natCast] at hs
    obtain ⟨SQ, q1, q2, q3⟩ := good_sq hG
    obtain ⟨q, HQ⟩ : ∃ q : Nat, Hid (q = P ^ K) := ⟨_, rfl⟩
    have hq64 : q ≤ 64 := by rw [HQ.out]; exact hG.le64
    have hq1 : 1 < q := by rw [HQ.out]; exact one_lt hR
    have hlen : s.length = if q % 2 = 0 then q - 1 else (q - 1) / 2 := by rw [hs, sq_len_of q1, HQ.out]; exact q2
    obtain ⟨n, Hn⟩ : ∃ n : Nat, Hid (s.length = n) := ⟨_, rfl⟩
    rw [Hn.out] at hlen
    have hn64 : n ≤ 64 := by rw [hlen]; split <;> omega
    obtain ⟨ua, uc, rfl, huc⟩ := hsl
    rw [Hn.out] at huc
    have HU : Hid (∀ j, j < n → ∃ b off, ua = some ⟨b, off, none⟩ ∧ w2.cell? ⟨b, off + j, none⟩ = some (.int .i64 (s.getD j 0))) := huc
    have HSQ : Hid (s = sqTo P K (monL l) (P ^ K)) := hs
    have HGd : Hid (GoodF P K l) := hG
    rw [Hn.out]
    have HLEN : Hid (n = if q % 2 = 0 then q - 1 else (q - 1) / 2) := hlen
    have HSQ1 : Hid (∀ j, isSq P K (monL l) j = SQ.contains j) := q1
    have HSQ3 : Hid (q % 2 = 1 → ∀ a, 1 ≤ a → a < q → SQ.contains a = (powQ P K (monL l) a ((q - 1) / 2) == 1)) := by rw [HQ.out]; exact q3
    clear huc hs HS HFa hR hb1 hb2 hlen q1 q2 q3
    go_wp2_with fail
    go_loop [8, 9] (fun y i => ∃ (j : Nat) (z : Nat), i = .int .i64 j ∧ y = .int .i64 z ∧ j ≤ K ∧ Hid (z = P ^ j)) (fun _ i => (K - intOf i).toNat)
    case atStart => exact ⟨0, 1, rfl, rfl, by omega, (by show 1 = P ^ 0; simp)⟩
    case round =>
      obtain ⟨j, z, rfl, rfl, hj, HZ⟩ := hrel
      by_cases hlt : j < K
      · have hji : (j : Int) < K := by omega
        have hz64 : z * P ≤ 64 := by
          rw [HZ.out, ← Nat.pow_succ]
          exact Nat.le_trans (Nat.pow_le_pow_right (by omega) (by omega)) HGd.out.le64
        have hzp : (z : Int) * (P : Int) ≤ 64 := by exact_mod_cast hz64
        have hzp0 : 0 ≤ (z : Int) * (P : Int) := Int.mul_nonneg (by omega) (by omega)
        go_wp2_with fail
        go_round
        case rel => exact ⟨j + 1, z * P, by go_num, by rw [Int.natCast_mul], by omega, (by show z * P = P ^ (j + 1); rw [Nat.pow_succ, HZ.out])⟩
        case measure => simp [intOf]; omega
      · obtain rfl : j = K := by omega
        obtain rfl : z = q := by rw [HZ.out, HQ.out]
        by_cases hev : z % 2 = 0
        · have hlen := HLEN.out
          rw [if_pos hev] at hlen
          have hm2 : (z : Int) % 2 = 0 := by omega
          have hdd : ((n : Int) == (z : Int) - 1) = true := by simp; omega
          clear hlen
          go_wp2_with fail
          go_ret
          exact ⟨rfl, hB2⟩
        · have hlen := HLEN.out
          rw [if_neg hev] at hlen
          have hm2 : (z : Int) % 2 = 1 := by omega
          obtain ⟨h, Hh⟩ : ∃ h : Nat, Hid (h = (z - 1) / 2) := ⟨_, rfl⟩
          have hhd : ((z : Int) - 1) / 2 = (h : Int) := by rw [Hh.out]; omega
          have hnh : n = h := by rw [hlen, Hh.out]
          subst hnh
          have hnn : ((n : Int) != (n : Int)) = false := by simp
          clear hlen
          have hB2' := hB2
          by_cases har : 0 ≤ a ∧ a < (z : Int)
          · obtain ⟨b, rfl⟩ := Int.eq_ofNat_of_zero_le har.1
            have hb : b < z := by omega
            obtain ⟨r, Hr⟩ : ∃ r : Nat, Hid (r = powQ P j (monL l) b ((n : Int)).toNat) := ⟨_, rfl⟩
            have C : Calls Tryd.prog 9 #[.agg #[.int .i64 P, .int .i64 j, .slice A l.length ca], .int .i64 (b : Int), .int .i64 (n : Int)] w2 fun e w' => e = .returned (.tuple #[.int .i64 r, .int .i64 0]) ∧ Below w2.heap.size w2 w' :=
              PowG P j b n l _ w2 (hT.below hB2) (hl.below hB2) hll HGd.out (by rw [← HQ.out]; exact hb) (by omega) (by omega) r Hr
            by_cases hb0 : b = 0
            · subst hb0
              go_wp2_with (go_at_call 9; refine C.mono ?_; rintro e w3 ⟨rfl, hb3⟩)
              go_ret
              exact ⟨rfl, hB2.trans (hb3.mono hB2.size)⟩
            · have hb0' : ((b : Int) == 0) = false := by simp; omega
              have HEU : Hid (decide ((b : Int) ∈ s) = (r == 1)) := by
                show decide ((b : Int) ∈ s) = (r == 1)
                have e1 := HSQ3.out (by omega) b (by omega) hb
                rw [Hr.out, Int.toNat_natCast, Hh.out, ← e1, ← HSQ1.out, Bool.eq_iff_iff, decide_eq_true_eq, HSQ.out]
                exact sq_mem (by rw [← HQ.out]; exact hb)
              go_wp2_with (go_at_call 9; refine C.mono ?_; rintro e w3 ⟨rfl, hb3⟩)
              have hB3 : Below w.heap.size w w3 := hB2.trans (hb3.mono hB2.size)
              go_loop [11, 12] (fun y i => ∃ (t : Nat) (c : Bool), i = .int .i64 t ∧ y = .bool c ∧ t ≤ n ∧ Hid (c = eqTo s b t)) (fun _ i => (n - intOf i).toNat)
              case atStart => exact ⟨0, false, rfl, rfl, by omega, rfl⟩
              case round =>
                obtain ⟨t, c, rfl, rfl, ht, HC⟩ := hrel
                by_cases hlt2 : t < n
                · have hti : (t : Int) < n := by omega
                  obtain ⟨g, off, rfl, hcc0⟩ := HU.out t hlt2
                  have hcc := (hb3.cell (p := ⟨g, off + t, none⟩) (block_lt_of_cell hcc0)).trans hcc0
                  obtain ⟨x, Hx⟩ : ∃ x : Int, Hid (x = s.getD t 0) := ⟨_, rfl⟩
                  rw [← Hx.out] at hcc
                  obtain ⟨d, Hd⟩ : ∃ d : Bool, Hid ((x == (b : Int)) = d) := ⟨_, rfl⟩
                  have hd := Hd.out
                  have HN : Hid ((c || d) = eqTo s b (t + 1)) := by show (c || d) = (eqTo s b t || s.getD t 0 == (b : Int)); rw [HC.out, ← Hx.out, Hd.out]
                  clear hcc0
                  cases c
                  · cases d
                    · go_wp2_with fail
                      go_round
                      case rel => exact ⟨t + 1, false, by go_num, rfl, by omega, HN⟩
                      case measure => simp [intOf]; omega
                    · go_wp2_with fail
                      go_round
                      case rel => exact ⟨t + 1, true, by go_num, rfl, by omega, HN⟩
                      case measure => simp [intOf]; omega
                  · go_wp2_with fail
                    go_round
                    case rel => exact ⟨t + 1, true, by go_num, rfl, by omega, HN⟩
                    case measure => simp [intOf]; omega
                · obtain rfl : t = n := by omega
                  have hce : c = (r == 1) := by
                    rw [HC.out, ← HEU.out, ← eqTo_all, Hn.out]
                  by_cases hr1 : r = 1
                  · subst hr1
                    have hc' : c = true := by rw [hce]; rfl
                    subst hc'
                    clear hce
                    go_wp2_with fail
                    go_ret
                    exact ⟨rfl, hB3⟩
                  · have hr1' : ((r : Int) == 1) = false := by simp; omega
                    have hc' : c = false := by rw [hce]; simpa using hr1
                    subst hc'
                    clear hce
                    go_wp2_with fail
                    go_ret
                    exact ⟨rfl, hB3⟩
          · have hO : OpenIs (P : Int) j l [a] 1 := .inr (.inl ⟨HGd.out.fault, fun h => har ?_, rfl⟩)
            · have C := Pow_bad P j a n l _ w2 (hT.below hB2) (hl.below hB2) hll 1 hO (by decide)
              go_wp2_with (go_at_call 9; refine C.mono ?_; rintro e w3 ⟨rfl, hb3⟩)
              go_ret
              exact ⟨rfl, hB2.trans (hb3.mono hB2.size)⟩
            · have h2 := h 0 (by simp)
              rw [HGd.out.ord, ← HQ.out] at h2
              simpa using h2
  · have hd : (z1 != 0) = true := by simpa using h1
    obtain ⟨ua, uc, rfl, huc⟩ := hsl
    go_wp2_with fail
    go_ret
    exact ⟨rfl, hB2⟩

end Go.Proofs.YthdjionamhekfaaDoor
