/- The document's Things, Factorial and Ways, walked. -/
import Derived.Test.YtmogmkdcplgfjaaV0
import Derived.Test.YtmogmkdcplgfjaaSuB
import Derived.Test.YtmogmkdcplgfjaaSuL
import Derived.Deep.RegionHeld3
namespace Go.Proofs.Ytmogmkdcplgfjaa
open Go.RowKit

set_option maxRecDepth 100000 in
set_option maxHeartbeats 4000000 in
theorem Things_any (s : Nat) (w : World) (hs : s < 2 ^ 12) :
    Calls Try.prog 31 #[.int .i64 (s : Int)] w fun e w' => e = .returned (.int .i64 ((thF 12 s : Nat) : Int)) ∧ w' = w := by
  obtain ⟨z, Hz⟩ : ∃ z, Hid (thF 12 s = z) := ⟨_, rfl⟩
  have H0 : Hid (0 + thF 12 s = z) := by show _ = _; rw [Nat.zero_add]; exact Hz.out
  rw [Hz.out]
  clear Hz
  go_enter Try.func31, Try.ntmps31
  go_wp2
  go_loopw [0, 3] (fun xv iv wr => ∃ (f y i : Nat), xv = .int .i64 (y : Int) ∧ iv = .int .i64 (i : Int) ∧ f ≤ 12 ∧ y < 2 ^ f ∧ y < 4096 ∧ i ≤ 24 - f ∧ Hid (i + thF f y = z) ∧ wr = w) (fun xv _ _ => (intOf xv).toNat)
  case atStart => exact ⟨12, s, 0, rfl, rfl, by omega, hs, hs, by omega, H0, rfl⟩
  case round =>
    obtain ⟨f, y, i, rfl, rfl, hf, hy, hy2, hi, HI, e1⟩ := hrel
    subst e1
    by_cases h0 : 0 < y
    · have hd : decide (0 < y) = true := by simpa using h0
      obtain ⟨g, rfl⟩ : ∃ g, f = g + 1 := by
        cases f with
        | zero => rw [Nat.pow_zero] at hy; omega
        | succ g => exact ⟨g, rfl⟩
      have HI2 : Hid (i + y % 2 + thF g (y / 2) = z) := by
        show _ = _
        rw [Nat.add_assoc]
        exact HI.out
      obtain ⟨r, Hr⟩ : ∃ r, Hid (y % 2 = r) := ⟨_, rfl⟩
      have er : (y : Int).tmod 2 = (r : Int) := by rw [← Hr.out]; rfl
      have hr1 : r ≤ 1 := by rw [← Hr.out]; omega
      rw [Hr.out] at HI2
      obtain ⟨u, Hu⟩ : ∃ u, Hid (y / 2 = u) := ⟨_, rfl⟩
      have eu : (y : Int).tdiv 2 = (u : Int) := by rw [← Hu.out]; rfl
      have hu1 : u < 2 ^ g := by rw [← Hu.out]; rw [Nat.pow_succ] at hy; omega
      have hu2 : u < y := by rw [← Hu.out]; omega
      rw [Hu.out] at HI2
      go_wp2
      go_roundw
      case rel => exact ⟨g, u, i + r, rfl, by go_num, by omega, hu1, by omega, by omega, HI2, trivial⟩
      case measure => simp [intOf]; omega
    · have hd : decide (0 < y) = false := by simpa using h0
      have HZ : Hid (i = z) := by
        show _ = _
        rw [← HI.out, show y = 0 by omega, thF_zero, Nat.add_zero]
      go_wp2
      go_ret
      exact ⟨by rw [HZ.out]; rfl, rfl⟩
theorem fac_le {n m : Nat} (h : n ≤ m) : fac n ≤ fac m := by
  induction h with
  | refl => exact Nat.le_refl _
  | step _ ih => exact Nat.le_trans ih (Nat.le_mul_of_pos_left _ (Nat.succ_pos _))
set_option maxRecDepth 100000 in
set_option maxHeartbeats 4000000 in
theorem Factorial_any (n : Nat) (w : World) (hn : n ≤ 12) :
    Calls Try.prog 32 #[.int .i64 (n : Int)] w fun e w' => e = .returned (.int .i64 ((fac n : Nat) : Int)) ∧ w' = w := by
  have HFB : Hid (∀ i, i ≤ 12 → fac i ≤ 479001600) := fun i hi => Nat.le_trans (fac_le hi) (by decide)
  have HZ : Hid (∀ i p, n < i → i ≤ n + 2 → fac (i - 1) = p → i = n + 1 ∨ n = 0 → p = fac n) := fun i p h1 h2 h3 h4 => by
    rcases h4 with h4 | h4
    · rw [← h3, h4]; rfl
    · subst h4
      rcases Nat.lt_or_ge i 2 with h | h
      · have e : i = 1 := by omega
        subst e
        exact h3.symm
      · have e : i = 2 := by omega
        subst e
        exact h3.symm
  obtain ⟨z, Hz⟩ : ∃ z, Hid (fac n = z) := ⟨_, rfl⟩
  rw [Hz.out] at HZ ⊢
  go_enter Try.func32, Try.ntmps32
  go_wp2
  go_loopw [3, 4] (fun fv iv wr => ∃ (i p : Nat), iv = .int .i64 (i : Int) ∧ fv = .int .i64 (p : Int) ∧ 2 ≤ i ∧ i ≤ n + 2 ∧ i ≤ 13 ∧ (i ≤ n + 1 ∨ n = 0) ∧ Hid (fac (i - 1) = p) ∧ wr = w) (fun _ iv _ => (n + 2 - intOf iv).toNat)
  case atStart => exact ⟨2, 1, rfl, rfl, by omega, by omega, by omega, by omega, rfl, rfl⟩
  case round =>
    obtain ⟨i, p, rfl, rfl, h2, hi, hi13, hor, HP, e1⟩ := hrel
    subst e1
    by_cases hle : i ≤ n
    · have hd : decide (i ≤ n) = true := by simpa using hle
      obtain ⟨q, Hq⟩ : ∃ q, Hid (p * i = q) := ⟨_, rfl⟩
      have HP2 : Hid (fac (i + 1 - 1) = q) := by
        show _ = _
        obtain ⟨j, rfl⟩ : ∃ j, i = j + 1 := ⟨i - 1, by omega⟩
        rw [← Hq.out, ← HP.out, Nat.mul_comm]; rfl
      have hqb : q ≤ 479001600 := by rw [← HP2.out]; exact HFB.out _ (by omega)
      have eq1 : (p : Int) * (i : Int) = (q : Int) := by rw [← Hq.out]; simp
      have hqw : IntKind.i64.wrap (q : Int) = (q : Int) := IntWalk.i64_in _ (by omega)
      go_wp2
      go_roundw
      case rel => exact ⟨i + 1, q, by go_num, rfl, by omega, by omega, by omega, by omega, HP2, trivial⟩
      case measure => simp [intOf]; omega
    · have hd : decide (i ≤ n) = false := by simpa using hle
      have HE : Hid (p = z) := HZ.out i p (by omega) hi HP.out (by omega)
      go_wp2
      go_ret
      exact ⟨by rw [HE.out]; rfl, rfl⟩
/-- A row of Pascal's, done down to one place. -/
def wyF (m j : Nat) : Nat → Nat := fun t => if j < t then chs m t else chs (m - 1) t
theorem wyF_set {m j : Nat} (hm : 1 ≤ m) (hj : 1 ≤ j) : updV (wyF m j) j (chs (m - 1) j + chs (m - 1) (j - 1)) = wyF m (j - 1) := by
  funext t
  unfold updV wyF
  by_cases e : t = j
  · subst e
    rw [if_pos rfl, if_pos (by omega)]
    obtain ⟨a, rfl⟩ : ∃ a, m = a + 1 := ⟨m - 1, by omega⟩
    obtain ⟨b, rfl⟩ : ∃ b, t = b + 1 := ⟨t - 1, by omega⟩
    show chs a (b + 1) + chs a b = chs a b + chs a (b + 1)
    exact Nat.add_comm _ _
  · rw [if_neg e]
    by_cases h : j < t
    · rw [if_pos h, if_pos (by omega)]
    · rw [if_neg h, if_neg (by omega)]
theorem wyF_end {m q : Nat} : ∀ t, t < q → wyF m 0 t = wyF (m + 1) q t := fun t ht => by
  unfold wyF
  rw [if_neg (show ¬ q < t by omega), Nat.add_sub_cancel]
  by_cases h : 0 < t
  · rw [if_pos h]
  · rw [if_neg h, show t = 0 by omega, chs_zero, chs_zero]
/-- Ways as the document reckons them. -/
def wyN (n k : Int) : Nat := if 0 ≤ k ∧ k ≤ n then chs n.toNat k.toNat else 0
set_option maxRecDepth 100000 in
set_option maxHeartbeats 16000000 in
theorem ways_in (n k q : Nat) (w : World) (hn : n ≤ 61) (hkn : k + k ≤ n) (hq : q = k + 1) (z : Nat) (Hz : Hid (chs n k = z)) (kk : Nat) (hkk : kk = k ∨ (kk = n - k ∧ k < kk)) :
    Calls Try.prog 33 #[.int .i64 (n : Int), .int .i64 (kk : Int)] w fun e w' => e = .returned (.int .i64 (z : Int)) ∧ Below w.heap.size w w' := by
  have hk30 : k ≤ 30 := by omega
  have hkkn : kk ≤ n := by omega
  have hmk : ∀ w : World, (Instr.makeSlice 22 (.int .i64 ((k : Int) + 1)) (.int .i64 ((k : Int) + 1))).run Try.prog w = .ok (.slice (some ⟨w.heap.size, 0, none⟩) q q) (w.alloc (.cells (madeCells #[.int .i64 0] q) 3)) := fun w => by
    rw [show (k : Int) + 1 = (q : Int) by omega]
    exact run_makeN q (by omega) w
  have hO0 : OwV 3 nV (w.alloc (.cells (madeCells #[.int .i64 0] q) 3)) w.heap.size q (fun _ => 0) := OwV.made q w _ _ (by intro j; rfl)
  have hB0 := balloc w (.cells (madeCells #[.int .i64 0] q) 3)
  have hS0 : OwV 3 nV ((w.alloc (.cells (madeCells #[.int .i64 0] q) 3)).setCell ⟨w.heap.size, 0, none⟩ (nV 1)) w.heap.size q (wyF 1 q) := (hO0.set 0 1).congr fun t ht => by
    unfold updV wyF
    rw [if_neg (show ¬ q < t by omega)]
    cases t with
    | zero => rfl
    | succ t => rfl
  have hB1 : Below w.heap.size w ((w.alloc (.cells (madeCells #[.int .i64 0] q) 3)).setCell ⟨w.heap.size, 0, none⟩ (nV 1)) := hB0.setCell (Nat.le_refl _) _
  rw [World.setCell_alloc_new] at hS0 hB1
  have hf0 := hO0.frozen 0
  have hc00 := hO0.cell 0 (by omega)
  have HST : Hid (∀ m j, 1 ≤ m → 1 ≤ j → updV (wyF m j) j (chs (m - 1) j + chs (m - 1) (j - 1)) = wyF m (j - 1)) := fun m j => wyF_set
  have HEN : Hid (∀ m, ∀ t, t < q → wyF m 0 t = wyF (m + 1) q t) := fun m => wyF_end
  have HKQ : Hid (∀ m, ∀ t, t < q → wyF m q t = wyF m k t) := fun m t ht => by
    unfold wyF
    rw [if_neg (show ¬ q < t by omega), if_neg (show ¬ k < t by omega)]
  have HTW : Hid (∀ m j, m ≤ 61 → chs m j ≤ 2305843009213693952) := fun m j hm => Nat.le_trans (chs_two m j) (Nat.pow_le_pow_right (by decide) hm : 2 ^ m ≤ 2 ^ 61)
  have HWA : Hid (∀ m j, wyF m j j = chs (m - 1) j) := fun m j => by unfold wyF; rw [if_neg (by omega)]
  have HWB : Hid (∀ m j, wyF m j (j - 1) = chs (m - 1) (j - 1)) := fun m j => by unfold wyF; rw [if_neg (by omega)]
  have HAD : Hid (∀ m j, 1 ≤ m → 1 ≤ j → chs (m - 1) j + chs (m - 1) (j - 1) = chs m j) := fun m j h1 h2 => by
    obtain ⟨a, rfl⟩ : ∃ a, m = a + 1 := ⟨m - 1, by omega⟩
    obtain ⟨b, rfl⟩ : ∃ b, j = b + 1 := ⟨j - 1, by omega⟩
    show chs a (b + 1) + chs a b = chs a b + chs a (b + 1)
    exact Nat.add_comm _ _
  have HFI : Hid (wyF (n + 1) q k = z) := by show _ = _; unfold wyF; rw [if_neg (by omega), Nat.add_sub_cancel]; exact Hz.out
  clear hO0 hB0 Hz
  obtain ⟨g, Hg⟩ : ∃ g, Hid (w.heap.size = g) := ⟨_, rfl⟩
  have hd1 : decide (n < kk) = false := by simp; omega
  have hd0 : decide ((kk : Int) < 0) = false := by simp
  have hq1 : k < q := by omega
  have hq2 : q ≤ k + 1 := by omega
  rcases hkk with rfl | ⟨h1, h2⟩
  · have hd2 : decide ((n : Int) - (kk : Int) < (kk : Int)) = false := by simp; omega
    clear hq hkkn
    have hnk3 : ¬ (n : Int) - (kk : Int) < (kk : Int) := by omega
    go_enter Try.func33, Try.ntmps33
    go_wp2
    rw [Hg.out] at hS0 hB1 ⊢
    go_loopw [6, 7] (fun mv _ wr => ∃ (m : Nat), mv = .int .i64 (m : Int) ∧ 1 ≤ m ∧ m ≤ n + 1 ∧ OwV 3 nV wr g q (wyF m q) ∧ Below g w wr) (fun mv _ _ => (n + 1 - intOf mv).toNat)
    case atStart => exact ⟨1, rfl, by omega, by omega, hS0, hB1⟩
    case round =>
      clear hS0 hB1 hmk hf0 hc00
      obtain ⟨m, rfl, hm1, hm, hO, hB⟩ := hrel
      by_cases hle : m ≤ n
      · have hd : decide (m ≤ n) = true := by simpa using hle
        have hO1 := hO.congr (HKQ.out m)
        clear hO
        go_wp2
        go_loopw [7] (fun jv wr => ∃ (j : Nat), jv = .int .i64 (j : Int) ∧ j ≤ kk ∧ OwV 3 nV wr g q (wyF m j) ∧ Below g w wr) (fun jv _ => (intOf jv).toNat)
        case atStart => exact ⟨kk, rfl, by omega, hO1, hB⟩
        case round =>
          clear hO1 hB
          obtain ⟨j, rfl, hj, hO, hB⟩ := hrel
          rcases Nat.lt_or_ge 0 j with hj0 | hj0
          · have hdj : decide (0 < j) = true := by simpa using hj0
            obtain ⟨p, rfl⟩ : ∃ p, j = p + 1 := ⟨j - 1, by omega⟩
            have hcx := hO.cell (p + 1) (by omega)
            have hcy := hO.cell p (by omega)
            have had := HAD.out m (p + 1) hm1 (by omega)
            have hst := HST.out m (p + 1) hm1 (by omega)
            have h61 := HTW.out m (p + 1) (by omega)
            rw [HWA.out m (p + 1)] at hcx
            rw [show wyF m (p + 1) p = chs (m - 1) p from HWB.out m (p + 1)] at hcy
            rw [Nat.add_sub_cancel] at hst had
            rw [← had] at h61
            obtain ⟨x, Hx⟩ : ∃ x, Hid (chs (m - 1) (p + 1) = x) := ⟨_, rfl⟩
            obtain ⟨y, Hy⟩ : ∃ y, Hid (chs (m - 1) p = y) := ⟨_, rfl⟩
            rw [Hx.out] at hcx hst h61
            rw [Hy.out] at hcy hst h61
            replace hcx : wr.cell? ⟨g, p + 1, none⟩ = some (.int .i64 (x : Int)) := hcx
            replace hcy : wr.cell? ⟨g, p, none⟩ = some (.int .i64 (y : Int)) := hcy
            have HO2 : Hid (OwV 3 nV (wr.drew.setCell ⟨g, p + 1, none⟩ (.int .i64 ((x : Int) + (y : Int)))) g q (wyF m p)) := by
              have h := (hO.below (Below.refl _ wr).drew).set (p + 1) (x + y)
              rw [hst] at h
              exact h
            have HB2 : Hid (Below g w (wr.drew.setCell ⟨g, p + 1, none⟩ (.int .i64 ((x : Int) + (y : Int))))) := (hB.drew).setCell (Nat.le_refl _) _
            have hfz := hO.frozen (p + 1)
            have ep : ((p + 1 : Nat) : Int) - 1 = (p : Int) := by omega
            have hpq : (p : Int) < (q : Int) := by omega
            have hpq1 : (p : Int) + 1 < (q : Int) := by omega
            have hpw : IntKind.i64.wrap (p : Int) = (p : Int) := IntWalk.i64_in _ (by omega)
            have hp0 : ¬ ((p : Int) + 1 < 0) := by omega
            have hp00 : (0 : Int) ≤ (p : Int) + 1 := by omega
            have hxw : IntKind.i64.wrap ((x : Int) + (y : Int)) = (x : Int) + (y : Int) := IntWalk.i64_in _ (by omega)
            have hd61 : decide ((2305843009213693952 : Int) < (x : Int) + (y : Int)) = false := by simp; omega
            have hle61 : ¬ (2305843009213693952 : Int) < (x : Int) + (y : Int) := by omega
            clear hst had hO hB
            go_wp2
            refine wp_region_noPanic ?_
            refine wp_region_held_drew (S := fun _ => True) (by kernel_rfl) trivial (fun hSx => ?_)
            refine wpAnyH_take (i := 0) (v := .slice (some ⟨g, 0, none⟩) q q) rfl (by kernel_rfl) (by kernel_rfl) (by kernel_rfl) (fun _ _ _ h => h) (Or.inl ⟨by rfl, fun w' hSw => by (try dsimp only at hSw); go_simp⟩) trivial ?_
            try simp only [Act.put, List.setIfInBounds_toArray]
            refine wpAnyH_take (i := 1) (v := .int .i64 ((p : Int) + 1)) rfl (by kernel_rfl) (by kernel_rfl) (by kernel_rfl) (fun _ _ _ h => h) (Or.inl ⟨by rfl, fun w' hSw => by (try dsimp only at hSw); go_simp⟩) trivial ?_
            try simp only [Act.put]
            refine wpAnyH_take (i := 2) (v := .slice (some ⟨g, 0, none⟩) q q) rfl (by kernel_rfl) (by kernel_rfl) (by kernel_rfl) (fun _ _ _ h => h) (Or.inl ⟨by rfl, fun w' hSw => by (try dsimp only at hSw); go_simp⟩) trivial ?_
            try simp only [Act.put]
            refine wpAnyH_take (i := 3) (v := .int .i64 ((p : Int) + 1)) rfl (by kernel_rfl) (by kernel_rfl) (by kernel_rfl) (fun _ _ _ h => h) (Or.inl ⟨by rfl, fun w' hSw => by (try dsimp only at hSw); go_simp⟩) trivial ?_
            try simp only [Act.put]
            refine wpAnyH_take (i := 4) (v := .pointer (some ⟨g, p + 1, none⟩)) rfl (by kernel_rfl) (by kernel_rfl) (by kernel_rfl) (fun _ _ _ h => h) (Or.inl ⟨by rfl, fun w' hSw => by (try dsimp only at hSw); go_simp⟩) trivial ?_
            try simp only [Act.put]
            refine wpAnyH_take (i := 6) (v := .slice (some ⟨g, 0, none⟩) q q) rfl (by kernel_rfl) (by kernel_rfl) (by kernel_rfl) (fun _ _ _ h => h) (Or.inl ⟨by rfl, fun w' hSw => by (try dsimp only at hSw); go_simp⟩) trivial ?_
            try simp only [Act.put]
            refine wpAnyH_take (i := 7) (v := .int .i64 ((p : Int) + 1)) rfl (by kernel_rfl) (by kernel_rfl) (by kernel_rfl) (fun _ _ _ h => h) (Or.inl ⟨by rfl, fun w' hSw => by (try dsimp only at hSw); go_simp⟩) trivial ?_
            try simp only [Act.put]
            refine wpAnyH_take (i := 8) (v := .int .i64 (p : Int)) rfl (by kernel_rfl) (by kernel_rfl) (by kernel_rfl) (fun _ _ _ h => h) (Or.inl ⟨by rfl, fun w' hSw => by (try dsimp only at hSw); go_simp⟩) trivial ?_
            try simp only [Act.put]
            refine wpAnyH_take (i := 9) (v := .pointer (some ⟨g, p, none⟩)) rfl (by kernel_rfl) (by kernel_rfl) (by kernel_rfl) (fun _ _ _ h => h) (Or.inl ⟨by rfl, fun w' hSw => by (try dsimp only at hSw); go_simp⟩) trivial ?_
            try simp only [Act.put]
            refine wpAnyH_ready (rs := [5, 10]) (by kernel_rfl) (by simp) ?_
            refine (AllReadyH.cons rfl (fun J hJ => ?_) (AllReadyH.cons rfl (fun J hJ => ?_) AllReadyH.nil))
            · go_simp
              refine hJ.out _ _ trivial (fun _ => ?_)
              clear hJ J
              try simp only [Act.put, List.setIfInBounds_toArray]
              refine wpAnyH_ready (rs := [10]) (by kernel_rfl) (by simp) ?_
              refine (AllReadyH.cons rfl (fun J hJ => ?_) AllReadyH.nil)
              go_simp
              refine hJ.out _ _ trivial (fun _ => ?_)
              clear hJ J
              try simp only [Act.put, List.setIfInBounds_toArray]
              refine wpAnyH_take (i := 11) (v := .int .i64 ((x : Int) + (y : Int))) rfl (by kernel_rfl) (by kernel_rfl) (by kernel_rfl) (fun _ _ _ h => h) (Or.inl ⟨by rfl, fun w' hSw => by (try dsimp only at hSw); go_simp⟩) trivial ?_
              try simp only [Act.put, List.setIfInBounds_toArray]
              refine wpAnyH_take (i := 12) (v := .pointer (some ⟨g, p + 1, none⟩)) rfl (by kernel_rfl) (by kernel_rfl) (by kernel_rfl) (fun _ _ _ h => h) (Or.inl ⟨by rfl, fun w' hSw => by (try dsimp only at hSw); go_simp⟩) trivial ?_
              try simp only [Act.put]
              refine wpAnyH_ready (rs := [13]) (by kernel_rfl) (by simp) ?_
              refine (AllReadyH.cons rfl (fun J hJ => ?_) AllReadyH.nil)
              go_simp
              refine hJ.out _ _ trivial (fun _ => ?_)
              clear hJ J
              try simp only [Act.put, List.setIfInBounds_toArray]
              refine wpAnyH_done (by kernel_rfl) ?_ _
              refine NoPanic.normal ?_
              clear hSx
              go_wp2
              go_roundw
              case rel => exact ⟨p, by go_num, by omega, HO2.out, HB2.out⟩
              case measure => simp [intOf]
            · go_simp
              refine hJ.out _ _ trivial (fun _ => ?_)
              clear hJ J
              try simp only [Act.put, List.setIfInBounds_toArray]
              refine wpAnyH_ready (rs := [5]) (by kernel_rfl) (by simp) ?_
              refine (AllReadyH.cons rfl (fun J hJ => ?_) AllReadyH.nil)
              go_simp
              refine hJ.out _ _ trivial (fun _ => ?_)
              clear hJ J
              try simp only [Act.put, List.setIfInBounds_toArray]
              refine wpAnyH_take (i := 11) (v := .int .i64 ((x : Int) + (y : Int))) rfl (by kernel_rfl) (by kernel_rfl) (by kernel_rfl) (fun _ _ _ h => h) (Or.inl ⟨by rfl, fun w' hSw => by (try dsimp only at hSw); go_simp⟩) trivial ?_
              try simp only [Act.put, List.setIfInBounds_toArray]
              refine wpAnyH_take (i := 12) (v := .pointer (some ⟨g, p + 1, none⟩)) rfl (by kernel_rfl) (by kernel_rfl) (by kernel_rfl) (fun _ _ _ h => h) (Or.inl ⟨by rfl, fun w' hSw => by (try dsimp only at hSw); go_simp⟩) trivial ?_
              try simp only [Act.put]
              refine wpAnyH_ready (rs := [13]) (by kernel_rfl) (by simp) ?_
              refine (AllReadyH.cons rfl (fun J hJ => ?_) AllReadyH.nil)
              go_simp
              refine hJ.out _ _ trivial (fun _ => ?_)
              clear hJ J
              try simp only [Act.put, List.setIfInBounds_toArray]
              refine wpAnyH_done (by kernel_rfl) ?_ _
              refine NoPanic.normal ?_
              clear hSx
              go_wp2
              go_roundw
              case rel => exact ⟨p, by go_num, by omega, HO2.out, HB2.out⟩
              case measure => simp [intOf]
          · obtain rfl : j = 0 := by omega
            have hO2 := hO.congr (HEN.out m)
            go_wp2
            go_roundw
            case rel => exact ⟨m + 1, by go_num, by omega, by omega, hO2, hB⟩
            case measure => simp [intOf]; omega
      · have hd : decide (m ≤ n) = false := by simpa using hle
        obtain rfl : m = n + 1 := by omega
        have hc := hO.cell kk (by omega)
        rw [HFI.out] at hc
        replace hc : wr.cell? ⟨g, kk, none⟩ = some (.int .i64 (z : Int)) := hc
        have hkq : (kk : Int) < (q : Int) := by omega
        go_wp2
        go_ret
        exact ⟨rfl, by rw [Hg.out]; exact hB⟩
  · have hnk2 : (n : Int) - (kk : Int) = (k : Int) := by omega
    have hd2 : decide ((k : Int) < (kk : Int)) = true := by simp; omega
    have hd3 : decide (k < kk) = true := by simpa using h2
    clear h1 hq hkkn
    go_enter Try.func33, Try.ntmps33
    go_wp2
    rw [Hg.out] at hS0 hB1 ⊢
    go_loopw [6, 7] (fun mv _ wr => ∃ (m : Nat), mv = .int .i64 (m : Int) ∧ 1 ≤ m ∧ m ≤ n + 1 ∧ OwV 3 nV wr g q (wyF m q) ∧ Below g w wr) (fun mv _ _ => (n + 1 - intOf mv).toNat)
    case atStart => exact ⟨1, rfl, by omega, by omega, hS0, hB1⟩
    case round =>
      clear hS0 hB1 hmk hf0 hc00
      obtain ⟨m, rfl, hm1, hm, hO, hB⟩ := hrel
      by_cases hle : m ≤ n
      · have hd : decide (m ≤ n) = true := by simpa using hle
        have hO1 := hO.congr (HKQ.out m)
        clear hO
        go_wp2
        go_loopw [7] (fun jv wr => ∃ (j : Nat), jv = .int .i64 (j : Int) ∧ j ≤ k ∧ OwV 3 nV wr g q (wyF m j) ∧ Below g w wr) (fun jv _ => (intOf jv).toNat)
        case atStart => exact ⟨k, rfl, by omega, hO1, hB⟩
        case round =>
          clear hO1 hB
          obtain ⟨j, rfl, hj, hO, hB⟩ := hrel
          rcases Nat.lt_or_ge 0 j with hj0 | hj0
          · have hdj : decide (0 < j) = true := by simpa using hj0
            obtain ⟨p, rfl⟩ : ∃ p, j = p + 1 := ⟨j - 1, by omega⟩
            have hcx := hO.cell (p + 1) (by omega)
            have hcy := hO.cell p (by omega)
            have had := HAD.out m (p + 1) hm1 (by omega)
            have hst := HST.out m (p + 1) hm1 (by omega)
            have h61 := HTW.out m (p + 1) (by omega)
            rw [HWA.out m (p + 1)] at hcx
            rw [show wyF m (p + 1) p = chs (m - 1) p from HWB.out m (p + 1)] at hcy
            rw [Nat.add_sub_cancel] at hst had
            rw [← had] at h61
            obtain ⟨x, Hx⟩ : ∃ x, Hid (chs (m - 1) (p + 1) = x) := ⟨_, rfl⟩
            obtain ⟨y, Hy⟩ : ∃ y, Hid (chs (m - 1) p = y) := ⟨_, rfl⟩
            rw [Hx.out] at hcx hst h61
            rw [Hy.out] at hcy hst h61
            replace hcx : wr.cell? ⟨g, p + 1, none⟩ = some (.int .i64 (x : Int)) := hcx
            replace hcy : wr.cell? ⟨g, p, none⟩ = some (.int .i64 (y : Int)) := hcy
            have HO2 : Hid (OwV 3 nV (wr.drew.setCell ⟨g, p + 1, none⟩ (.int .i64 ((x : Int) + (y : Int)))) g q (wyF m p)) := by
              have h := (hO.below (Below.refl _ wr).drew).set (p + 1) (x + y)
              rw [hst] at h
              exact h
            have HB2 : Hid (Below g w (wr.drew.setCell ⟨g, p + 1, none⟩ (.int .i64 ((x : Int) + (y : Int))))) := (hB.drew).setCell (Nat.le_refl _) _
            have hfz := hO.frozen (p + 1)
            have ep : ((p + 1 : Nat) : Int) - 1 = (p : Int) := by omega
            have hpq : (p : Int) < (q : Int) := by omega
            have hpq1 : (p : Int) + 1 < (q : Int) := by omega
            have hpw : IntKind.i64.wrap (p : Int) = (p : Int) := IntWalk.i64_in _ (by omega)
            have hp0 : ¬ ((p : Int) + 1 < 0) := by omega
            have hp00 : (0 : Int) ≤ (p : Int) + 1 := by omega
            have hxw : IntKind.i64.wrap ((x : Int) + (y : Int)) = (x : Int) + (y : Int) := IntWalk.i64_in _ (by omega)
            have hd61 : decide ((2305843009213693952 : Int) < (x : Int) + (y : Int)) = false := by simp; omega
            have hle61 : ¬ (2305843009213693952 : Int) < (x : Int) + (y : Int) := by omega
            clear hst had hO hB
            go_wp2
            refine wp_region_noPanic ?_
            refine wp_region_held_drew (S := fun _ => True) (by kernel_rfl) trivial (fun hSx => ?_)
            refine wpAnyH_take (i := 0) (v := .slice (some ⟨g, 0, none⟩) q q) rfl (by kernel_rfl) (by kernel_rfl) (by kernel_rfl) (fun _ _ _ h => h) (Or.inl ⟨by rfl, fun w' hSw => by (try dsimp only at hSw); go_simp⟩) trivial ?_
            try simp only [Act.put, List.setIfInBounds_toArray]
            refine wpAnyH_take (i := 1) (v := .int .i64 ((p : Int) + 1)) rfl (by kernel_rfl) (by kernel_rfl) (by kernel_rfl) (fun _ _ _ h => h) (Or.inl ⟨by rfl, fun w' hSw => by (try dsimp only at hSw); go_simp⟩) trivial ?_
            try simp only [Act.put]
            refine wpAnyH_take (i := 2) (v := .slice (some ⟨g, 0, none⟩) q q) rfl (by kernel_rfl) (by kernel_rfl) (by kernel_rfl) (fun _ _ _ h => h) (Or.inl ⟨by rfl, fun w' hSw => by (try dsimp only at hSw); go_simp⟩) trivial ?_
            try simp only [Act.put]
            refine wpAnyH_take (i := 3) (v := .int .i64 ((p : Int) + 1)) rfl (by kernel_rfl) (by kernel_rfl) (by kernel_rfl) (fun _ _ _ h => h) (Or.inl ⟨by rfl, fun w' hSw => by (try dsimp only at hSw); go_simp⟩) trivial ?_
            try simp only [Act.put]
            refine wpAnyH_take (i := 4) (v := .pointer (some ⟨g, p + 1, none⟩)) rfl (by kernel_rfl) (by kernel_rfl) (by kernel_rfl) (fun _ _ _ h => h) (Or.inl ⟨by rfl, fun w' hSw => by (try dsimp only at hSw); go_simp⟩) trivial ?_
            try simp only [Act.put]
            refine wpAnyH_take (i := 6) (v := .slice (some ⟨g, 0, none⟩) q q) rfl (by kernel_rfl) (by kernel_rfl) (by kernel_rfl) (fun _ _ _ h => h) (Or.inl ⟨by rfl, fun w' hSw => by (try dsimp only at hSw); go_simp⟩) trivial ?_
            try simp only [Act.put]
            refine wpAnyH_take (i := 7) (v := .int .i64 ((p : Int) + 1)) rfl (by kernel_rfl) (by kernel_rfl) (by kernel_rfl) (fun _ _ _ h => h) (Or.inl ⟨by rfl, fun w' hSw => by (try dsimp only at hSw); go_simp⟩) trivial ?_
            try simp only [Act.put]
            refine wpAnyH_take (i := 8) (v := .int .i64 (p : Int)) rfl (by kernel_rfl) (by kernel_rfl) (by kernel_rfl) (fun _ _ _ h => h) (Or.inl ⟨by rfl, fun w' hSw => by (try dsimp only at hSw); go_simp⟩) trivial ?_
            try simp only [Act.put]
            refine wpAnyH_take (i := 9) (v := .pointer (some ⟨g, p, none⟩)) rfl (by kernel_rfl) (by kernel_rfl) (by kernel_rfl) (fun _ _ _ h => h) (Or.inl ⟨by rfl, fun w' hSw => by (try dsimp only at hSw); go_simp⟩) trivial ?_
            try simp only [Act.put]
            refine wpAnyH_ready (rs := [5, 10]) (by kernel_rfl) (by simp) ?_
            refine (AllReadyH.cons rfl (fun J hJ => ?_) (AllReadyH.cons rfl (fun J hJ => ?_) AllReadyH.nil))
            · go_simp
              refine hJ.out _ _ trivial (fun _ => ?_)
              clear hJ J
              try simp only [Act.put, List.setIfInBounds_toArray]
              refine wpAnyH_ready (rs := [10]) (by kernel_rfl) (by simp) ?_
              refine (AllReadyH.cons rfl (fun J hJ => ?_) AllReadyH.nil)
              go_simp
              refine hJ.out _ _ trivial (fun _ => ?_)
              clear hJ J
              try simp only [Act.put, List.setIfInBounds_toArray]
              refine wpAnyH_take (i := 11) (v := .int .i64 ((x : Int) + (y : Int))) rfl (by kernel_rfl) (by kernel_rfl) (by kernel_rfl) (fun _ _ _ h => h) (Or.inl ⟨by rfl, fun w' hSw => by (try dsimp only at hSw); go_simp⟩) trivial ?_
              try simp only [Act.put, List.setIfInBounds_toArray]
              refine wpAnyH_take (i := 12) (v := .pointer (some ⟨g, p + 1, none⟩)) rfl (by kernel_rfl) (by kernel_rfl) (by kernel_rfl) (fun _ _ _ h => h) (Or.inl ⟨by rfl, fun w' hSw => by (try dsimp only at hSw); go_simp⟩) trivial ?_
              try simp only [Act.put]
              refine wpAnyH_ready (rs := [13]) (by kernel_rfl) (by simp) ?_
              refine (AllReadyH.cons rfl (fun J hJ => ?_) AllReadyH.nil)
              go_simp
              refine hJ.out _ _ trivial (fun _ => ?_)
              clear hJ J
              try simp only [Act.put, List.setIfInBounds_toArray]
              refine wpAnyH_done (by kernel_rfl) ?_ _
              refine NoPanic.normal ?_
              clear hSx
              go_wp2
              go_roundw
              case rel => exact ⟨p, by go_num, by omega, HO2.out, HB2.out⟩
              case measure => simp [intOf]
            · go_simp
              refine hJ.out _ _ trivial (fun _ => ?_)
              clear hJ J
              try simp only [Act.put, List.setIfInBounds_toArray]
              refine wpAnyH_ready (rs := [5]) (by kernel_rfl) (by simp) ?_
              refine (AllReadyH.cons rfl (fun J hJ => ?_) AllReadyH.nil)
              go_simp
              refine hJ.out _ _ trivial (fun _ => ?_)
              clear hJ J
              try simp only [Act.put, List.setIfInBounds_toArray]
              refine wpAnyH_take (i := 11) (v := .int .i64 ((x : Int) + (y : Int))) rfl (by kernel_rfl) (by kernel_rfl) (by kernel_rfl) (fun _ _ _ h => h) (Or.inl ⟨by rfl, fun w' hSw => by (try dsimp only at hSw); go_simp⟩) trivial ?_
              try simp only [Act.put, List.setIfInBounds_toArray]
              refine wpAnyH_take (i := 12) (v := .pointer (some ⟨g, p + 1, none⟩)) rfl (by kernel_rfl) (by kernel_rfl) (by kernel_rfl) (fun _ _ _ h => h) (Or.inl ⟨by rfl, fun w' hSw => by (try dsimp only at hSw); go_simp⟩) trivial ?_
              try simp only [Act.put]
              refine wpAnyH_ready (rs := [13]) (by kernel_rfl) (by simp) ?_
              refine (AllReadyH.cons rfl (fun J hJ => ?_) AllReadyH.nil)
              go_simp
              refine hJ.out _ _ trivial (fun _ => ?_)
              clear hJ J
              try simp only [Act.put, List.setIfInBounds_toArray]
              refine wpAnyH_done (by kernel_rfl) ?_ _
              refine NoPanic.normal ?_
              clear hSx
              go_wp2
              go_roundw
              case rel => exact ⟨p, by go_num, by omega, HO2.out, HB2.out⟩
              case measure => simp [intOf]
          · obtain rfl : j = 0 := by omega
            have hO2 := hO.congr (HEN.out m)
            go_wp2
            go_roundw
            case rel => exact ⟨m + 1, by go_num, by omega, by omega, hO2, hB⟩
            case measure => simp [intOf]; omega
      · have hd : decide (m ≤ n) = false := by simpa using hle
        obtain rfl : m = n + 1 := by omega
        have hc := hO.cell k (by omega)
        rw [HFI.out] at hc
        replace hc : wr.cell? ⟨g, k, none⟩ = some (.int .i64 (z : Int)) := hc
        have hkq : (k : Int) < (q : Int) := by omega
        go_wp2
        go_ret
        exact ⟨rfl, by rw [Hg.out]; exact hB⟩

set_option maxRecDepth 100000 in
theorem Ways_any (n : Nat) (k : Int) (w : World) (hn : n ≤ 61) :
    Calls Try.prog 33 #[.int .i64 (n : Int), .int .i64 k] w fun e w' => e = .returned (.int .i64 (wyN n k : Int)) ∧ Below w.heap.size w w' := by
  by_cases h1 : k < 0
  · have e1 : wyN n k = 0 := by unfold wyN; rw [if_neg (by omega)]
    have hd : decide (k < 0) = true := by simpa using h1
    rw [e1]
    clear h1
    go_enter Try.func33, Try.ntmps33
    go_wp2
    go_ret
    exact ⟨rfl, Below.refl _ _⟩
  · have hd : decide (k < 0) = false := by simpa using h1
    by_cases h2 : (n : Int) < k
    · have e1 : wyN n k = 0 := by unfold wyN; rw [if_neg (by omega)]
      have hd2 : decide ((n : Int) < k) = true := by simpa using h2
      rw [e1]
      clear h1
      go_enter Try.func33, Try.ntmps33
      go_wp2
      go_ret
      exact ⟨rfl, Below.refl _ _⟩
    · obtain ⟨a, rfl⟩ : ∃ a : Nat, k = a := ⟨k.toNat, by omega⟩
      have e1 : wyN n a = chs n a := by unfold wyN; rw [if_pos (by omega), Int.toNat_natCast, Int.toNat_natCast]
      rw [e1]
      rcases Nat.lt_or_ge (n - a) a with h | h
      · exact ways_in n (n - a) (n - a + 1) w hn (by omega) rfl _ (chs_symm (show a ≤ n by omega)).symm a (.inr ⟨by omega, h⟩)
      · exact ways_in n a (a + 1) w hn (by omega) rfl _ rfl a (.inl rfl)
end Go.Proofs.Ytmogmkdcplgfjaa
