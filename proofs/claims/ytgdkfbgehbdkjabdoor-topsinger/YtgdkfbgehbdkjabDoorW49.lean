/- Logarithms, traces, powers and inverses: the program's inner functions and the document's. -/
import Derived.Test.YtgdkfbgehbdkjabDoorW37
namespace Go.Proofs.YtgdkfbgehbdkjabDoor.Fd
open Go.RowKit

theorem inv_mod_all : ∀ n : Fin 64, ∀ j : Fin 64, (decide (2 ≤ n.val) && Nat.gcd j.val n.val == 1) = true → (List.range n.val).any (fun u => j.val * u % n.val == 1) = true := by decide +kernel
theorem inv_mod {n j : Nat} (hn : n < 64) (hj : j < n) (h2 : 2 ≤ n) (h : Nat.gcd j n = 1) : ∃ u, j * u % n = 1 := by
  have h1 := inv_mod_all ⟨n, hn⟩ ⟨j, by omega⟩ (by simp [h2, h])
  rw [List.any_eq_true] at h1
  obtain ⟨u, _, hu⟩ := h1
  exact ⟨u, by simpa using hu⟩
section
variable {P K : Nat} {m : Nat → Int}
/-- The powers of the root are all but 0. -/
theorem root_all (hF : FieldQ P K m) (hPK : P ^ K ≤ 64) {r : Nat} (hr : r < P ^ K) (hr1 : 1 ≤ r) (ho : IsOrd P K m r (P ^ K - 1)) {a : Nat} (h1 : 1 ≤ a) (ha : a < P ^ K) : ∃ i, i < P ^ K - 1 ∧ powQ P K m r i = a := by
  have hR := hF.toRing1
  have h1q := one_lt hR
  obtain ⟨g, hg, hall, hone⟩ := hF.gen
  obtain ⟨j, hj, rfl⟩ := hall r hr1 hr
  obtain ⟨k, hk, rfl⟩ := hall a h1 ha
  by_cases hsmall : P ^ K - 1 = 1
  · refine ⟨0, by omega, ?_⟩
    rw [show k = 0 by omega]; rfl
  · obtain ⟨n, Hn⟩ : ∃ n, n = P ^ K - 1 := ⟨_, rfl⟩
    rw [← Hn] at hj hk hone ho hsmall ⊢
    have hd : Nat.gcd j n = 1 := by
      have hdn : Nat.gcd j n ∣ n := Nat.gcd_dvd_right j n
      have hdj : Nat.gcd j n ∣ j := Nat.gcd_dvd_left j n
      obtain ⟨c, hc⟩ := hdn
      obtain ⟨b, hb⟩ := hdj
      have hnp : 0 < n := by omega
      have hgp : 0 < Nat.gcd j n := Nat.gcd_pos_of_pos_right j hnp
      have hcp : 0 < c := by
        apply Nat.pos_of_ne_zero
        intro e
        rw [e, Nat.mul_zero] at hc
        omega
      have hp : powQ P K m (powQ P K m g j) c = 1 := by
        rw [powQ_mul hR]
        have e : j * c = n * b := by
          rw [hb]
          conv => rhs; rw [hc]
          rw [Nat.mul_assoc, Nat.mul_assoc, Nat.mul_comm b c]
        rw [e, ← powQ_mul hR, hone, powQ_one hR]
      apply Classical.byContradiction
      intro hne
      have hlt : c < n := by
        have h2 : 2 ≤ Nat.gcd j n := by omega
        have h3 : 2 * c ≤ Nat.gcd j n * c := Nat.mul_le_mul_right c h2
        rw [← hc] at h3
        omega
      exact ho.2.2 c hcp hlt hp
    obtain ⟨u, hu⟩ := inv_mod (by omega) hj (by omega) hd
    refine ⟨u * k % n, Nat.mod_lt _ (by omega), ?_⟩
    rw [powQ_mul hR, powQ_period hR hone]
    have e : j * (u * k % n) % n = k := by
      rw [Nat.mul_mod, Nat.mod_mod, ← Nat.mul_mod, ← Nat.mul_assoc, Nat.mul_mod, hu, Nat.one_mul, Nat.mod_mod, Nat.mod_eq_of_lt hk]
    rw [e]
def LogIs (P K : Nat) (m : Nat → Int) (r a n : Nat) : Prop := powQ P K m r n = a ∧ ∀ j, j < n → powQ P K m r j ≠ a
theorem LogIs.one {r a n n' : Nat} (h : LogIs P K m r a n) (h' : LogIs P K m r a n') : n = n' := by
  apply Classical.byContradiction
  intro e
  by_cases hlt : n < n'
  · exact h'.2 n hlt h.1
  · exact h.2 n' (by omega) h'.1
/-- The sum of a, a to the power of P, .. (n of them), and s. -/
def trQ (P K : Nat) (m : Nat → Int) : Nat → Nat → Nat → Nat
  | 0, s, _ => s
  | n + 1, s, a => trQ P K m n (addQ P K s a) (powQ P K m a P)
theorem root_pos (hg : ∃ g, 1 ≤ g ∧ g < P ^ K ∧ IsOrd P K m g (P ^ K - 1)) {r : Nat} (h : RootIs P K m r) : 1 ≤ r ∧ r < P ^ K ∧ IsOrd P K m r (P ^ K - 1) := by
  rcases h with ⟨h1, h2, h3, _⟩ | ⟨_, h⟩
  · exact ⟨h1, h2, h3⟩
  · obtain ⟨g, hg1, hg, ho⟩ := hg
    exact absurd ho (h g hg1 hg)
end

theorem tab_ord : genTab.all (fun r => (List.range (r.1 ^ r.2.1 - 1)).all fun j => j == 0 || r.2.2.2.2.2.getD j 0 != 1) = true := by decide +kernel
theorem good_ord {P K : Nat} {l : List Int} (hG : GoodF P K l) : ∃ g, 1 ≤ g ∧ g < P ^ K ∧ IsOrd P K (monL l) g (P ^ K - 1) := by
  obtain ⟨h0, h1, h2, h3⟩ := hG.fault.ok
  rw [Int.toNat_natCast, Int.toNat_natCast] at h3
  have hR := hG.field.toRing1
  have h1q := one_lt hR
  obtain ⟨n, s, c, L, hmem, hm⟩ := row_of_irr (ord_parts h0).1 hR.one hG.le64 hG.len h2 h3
  have hT := tab_of_row hR hm (List.all_eq_true.1 gen_ok _ hmem)
  have ho := List.all_eq_true.1 tab_ord _ hmem
  simp only [List.all_eq_true, List.mem_range, Bool.or_eq_true, beq_iff_eq, bne_iff_ne] at ho
  obtain ⟨g, hg, hpow, hone⟩ := hT.pows
  refine ⟨g, ?_, hg, by omega, hone, fun j hj1 hj2 e => ?_⟩
  · apply Classical.byContradiction
    intro h
    rw [show g = 0 by omega, powQ_zero_pos hR _ (by omega)] at hone
    omega
  · rcases ho j hj2 with h | h
    · omega
    · exact h (by rw [hpow j hj2]; exact e)
theorem inv_unique {P K : Nat} {m : Nat → Int} (hF : FieldQ P K m) {a b : Nat} (h1 : 1 ≤ a) (ha : a < P ^ K) (hb : b < P ^ K) (h : mulQ P K m a b = 1) : b = powQ P K m a (P ^ K - 2) := by
  have hR := hF.toRing1
  have hi := inv_ok hF h1 ha
  have e : mulQ P K m (mulQ P K m (powQ P K m a (P ^ K - 2)) a) b = mulQ P K m (powQ P K m a (P ^ K - 2)) (mulQ P K m a b) := mulQ_assoc hR _ _ _
  rw [mulQ_comm hR (powQ P K m a (P ^ K - 2)) a, hi, one_mulQ hR hb, h, mulQ_one hR (powQ_lt hR a _)] at e
  exact e
theorem pow_cut {P K : Nat} {m : Nat → Int} (hF : FieldQ P K m) {a n : Nat} (ha : a < P ^ K) (hn : P ^ K < n) : powQ P K m a (n % (P ^ K - 1) + (P ^ K - 1)) = powQ P K m a n := by
  have hR := hF.toRing1
  have h1q := one_lt hR
  by_cases h0 : a = 0
  · subst h0
    rw [powQ_zero_pos hR _ (by omega), powQ_zero_pos hR _ (by omega)]
  · have h := fermat hF (by omega) ha
    rw [powQ_period hR h n, powQ_add hR, h, mulQ_one hR (powQ_lt hR a _)]

theorem add_Q (P K a b : Nat) (Q : Int) (m : Nat → Int) (w : World) (hP : 2 ≤ P) (hP' : P ≤ 64) (hK : 1 ≤ K) (hK' : K ≤ 6) (hPK : P ^ K ≤ 64) (ha : a < P ^ K) (hb : b < P ^ K) (s : Nat) (hs : Hid (s = addQ P K a b)) :
    Calls Tryd.prog 80 #[.agg (ringRow P K Q m), .int .i64 a, .int .i64 b] w fun e w' => e = .returned (.int .i64 s) ∧ Below w.heap.size w w' := by
  have h := add_any P K a b Q m w hP hP' hK hK' hPK ha hb
  rw [← addQ_cast hP, ← hs.out] at h
  exact h

set_option maxRecDepth 100000 in
set_option maxHeartbeats 1000000 in
theorem trace_any (P K a : Nat) (Q : Int) (m : Nat → Int) (w : World) (hR : Ring1 P K m) (hP' : P ≤ 64) (hK' : K ≤ 6) (hPK : P ^ K ≤ 64) (ha : a < P ^ K) :
    Calls Tryd.prog 67 #[.agg (ringRow P K Q m), .int .i64 a] w fun e w' => ∃ t : Nat, e = .returned (.int .i64 t) ∧ Hid (t = trQ P K m K 0 a) ∧ Below w.heap.size w w' := by
  obtain ⟨fs, hu⟩ := und53
  have hRB0 := RB.made w P K Q m
  have h1q := one_lt hR
  have hP2 := hR.two
  have hc1 : (w.alloc (.cells (ringRow P K Q m) 69)).cell? ⟨w.heap.size, 1, none⟩ = some (.int .i64 K) := cell_of_row _ _ _ _ _ _ hRB0
  go_enter Tryd.func67, Tryd.ntmps67
  go_wp2
  go_loopw [1, 5, 8] (fun x s i wr => ∃ j b c : Nat, i = .int .i64 j ∧ x = .int .i64 b ∧ s = .int .i64 c ∧ j ≤ K ∧ b < P ^ K ∧ c < P ^ K ∧ Hid (trQ P K m (K - j) c b = trQ P K m K 0 a) ∧ RB wr w.heap.size P K Q m ∧ Below w.heap.size w wr) (fun _ _ i _ => (K - intOf i).toNat)
  case atStart => exact ⟨0, a, 0, rfl, rfl, rfl, by omega, ha, by omega, (rfl : trQ P K m (K - 0) 0 a = trQ P K m K 0 a), hRB0, (Below.refl _ _).alloc (Nat.le_refl _) _⟩
  case round =>
    clear hRB0
    obtain ⟨j, b, c, rfl, rfl, rfl, hj, hb, hc, HI, hRB, hB⟩ := hrel
    by_cases hlt : j < K
    · obtain ⟨s, Hs⟩ : ∃ s, Hid (s = addQ P K c b) := ⟨_, rfl⟩
      obtain ⟨y, Hy⟩ : ∃ y, Hid (y = powQ P K m b ((P : Int)).toNat) := ⟨_, rfl⟩
      have hs : s < P ^ K := by rw [Hs.out]; exact addQ_lt hR c b
      have hy : y < P ^ K := by rw [Hy.out]; exact powQ_lt hR b _
      have hdec : decide ((j : Int) < K) = true := by simp; omega
      have HN : Hid (trQ P K m (K - (j + 1)) s y = trQ P K m K 0 a) := by
        show trQ P K m (K - (j + 1)) s y = trQ P K m K 0 a
        rw [← HI.out, show K - j = (K - (j + 1)) + 1 by omega, Hs.out, Hy.out, Int.toNat_natCast]
        rfl
      go_wp2_with (first
        | (refine wpList_load_row rfl 69 _ rfl w.heap.size rfl 69 _ (0, 0) _ hRB hu rfl (inf53 _ _ _ _) ?_))
      refine (add_Q P K c b Q m _ hR.two hP' hR.one hK' hPK hc hb s Hs).mono ?_
      rintro e w1 ⟨rfl, hb1⟩
      have hRB1 := hRB.below hb1
      have hB1 : Below w.heap.size w w1 := hB.trans (hb1.mono hB.size)
      have hc0 : w1.cell? ⟨w.heap.size, 0, none⟩ = some (.int .i64 P) := cell_of_row _ _ _ _ _ _ hRB1
      go_wp2_with (first
        | (refine wpList_load_row rfl 69 _ rfl w.heap.size rfl 69 _ (0, 0) _ hRB1 hu rfl (inf53 _ _ _ _) ?_))
      refine (pow_any P K b _ Q m _ hR hP' hK' hPK hb (by omega) (by omega) y Hy).mono ?_
      rintro e w2 ⟨rfl, hb2⟩
      have hRB2 := hRB1.below hb2
      have hB2 : Below w.heap.size w w2 := hB1.trans (hb2.mono hB1.size)
      go_wp2
      go_roundw
      case rel => exact ⟨j + 1, y, s, by go_num, rfl, rfl, by omega, hy, hs, HN, hRB2, hB2⟩
      case measure => simp [intOf]; omega
    · go_wp2
      go_ret
      have h := HI.out
      rw [show K - j = 0 by omega] at h
      exact ⟨c, rfl, h, hB⟩

end Go.Proofs.YtgdkfbgehbdkjabDoor.Fd
