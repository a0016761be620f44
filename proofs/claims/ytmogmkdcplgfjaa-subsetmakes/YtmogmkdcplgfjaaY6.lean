/- The program's rank, unrank and least, walked. -/
import Derived.Test.YtmogmkdcplgfjaaY5
import Derived.Test.YtmogmkdcplgfjaaV3
namespace Go.Proofs.Ytmogmkdcplgfjaa
open Go.RowKit

theorem rises_ge {M : List Nat} (h : Rises M) : ∀ i, i < M.length → i ≤ M.getD i 0
  | 0, _ => Nat.zero_le _
  | i + 1, hi => by
    have h1 := rises_ge h i (by omega)
    have h2 := h (i + 1) (by omega) hi
    rw [Nat.add_sub_cancel] at h2
    omega
set_option maxRecDepth 100000 in
set_option maxHeartbeats 4000000 in
theorem prank_any (M : List Nat) (v : Value) (w : World) (hv : Wd w v M) (hr : Rises M) (hl : M.length ≤ 30) (h60 : ∀ i, i < M.length → M.getD i 0 ≤ 60) :
    Calls Try.prog 36 #[v] w fun e w' => e = .returned (.int .i64 (rkS M M.length : Int)) ∧ Below w.heap.size w w' := by
  obtain ⟨a, c, rfl, -, hA⟩ := hv
  have HA : Hid (∀ W, Below w.heap.size w W → ∀ i, i < M.length → ∃ b off, a = some ⟨b, off, none⟩ ∧ W.cell? ⟨b, off + i, none⟩ = some (.int .i64 ((M.getD i 0 : Nat) : Int))) := fun W bW i hi => by
    obtain ⟨b, o, e, hc⟩ := hA i hi
    exact ⟨b, o, e, (bW.cell (World.block_lt_of_cell? _ _ hc)).trans hc⟩
  have HSM : Hid (∀ i, i ≤ M.length → rkS M i ≤ 2305843009213693952) := fun i hi => rkS_small hr h60 i hi
  have HC : Hid (∀ i, i < M.length → ∀ W, Calls Try.prog 37 #[.int .i64 ((M.getD i 0 : Nat) : Int), .int .i64 ((i : Int) + 1)] W fun e w' => e = .returned (.int .i64 (chs (M.getD i 0) (i + 1) : Int)) ∧ Below W.heap.size W w') := fun i hi W => by
    have hge := rises_ge hr i hi
    have h6 := h60 i hi
    have h := pways_any (M.getD i 0) (i + 1) W (by omega) (by omega) (by omega) (chs60 (by omega) (by omega))
    exact h.mono fun e w' h => ⟨h.1, by rw [h.2]; exact Below.refl _ _⟩
  have HST : Hid (∀ i, rkS M (i + 1) = rkS M i + chs (M.getD i 0) (i + 1)) := fun i => rfl
  obtain ⟨z, Hz⟩ : ∃ z, Hid (rkS M M.length = z) := ⟨_, rfl⟩
  rw [Hz.out]
  obtain ⟨n, Hn⟩ : ∃ n, Hid (M.length = n) := ⟨_, rfl⟩
  rw [Hn.out] at HA HSM HC hl Hz ⊢
  clear hA h60
  go_enter Try.func36, Try.ntmps36
  go_wp2
  go_loopw [3, 8] (fun sv iv wr => ∃ (i s : Nat), iv = .int .i64 (i : Int) ∧ sv = .int .i64 (s : Int) ∧ i ≤ n ∧ Hid (rkS M i = s) ∧ Below w.heap.size w wr) (fun _ iv _ => (n - intOf iv).toNat)
  case atStart => exact ⟨0, 0, rfl, rfl, by omega, rfl, Below.refl _ _⟩
  case round =>
    obtain ⟨i, s, rfl, rfl, hi, HS, hB⟩ := hrel
    by_cases hlt : i < n
    · have hdi : decide ((i : Int) < (n : Int)) = true := by simp; omega
      have hii : (i : Int) < (n : Int) := by omega
      obtain ⟨b1, o1, rfl, c1⟩ := HA.out wr hB i hlt
      have C := HC.out i hlt wr
      have hst := HST.out i
      have hsm := HSM.out (i + 1) (by omega)
      rw [hst, HS.out] at hsm
      rw [HS.out] at hst
      obtain ⟨x, hx⟩ : ∃ x, Hid (chs (M.getD i 0) (i + 1) = x) := ⟨_, rfl⟩
      obtain ⟨y, hy⟩ : ∃ y, Hid (M.getD i 0 = y) := ⟨_, rfl⟩
      rw [hx.out] at C hst hsm
      rw [hy.out] at C c1
      have HS2 : Hid (rkS M (i + 1) = s + x) := hst
      have hsw : IntKind.i64.wrap ((s : Int) + (x : Int)) = (s : Int) + (x : Int) := IntWalk.i64_in _ (by omega)
      clear hst
      go_wp2_with (go_at_call 37; refine C.mono ?_; rintro e w2 ⟨rfl, hb2⟩; clear C)
      go_roundw
      case rel => exact ⟨i + 1, s + x, by go_num, by go_num, by omega, HS2, Below.next hB hb2⟩
      case measure => simp [intOf]; omega
    · have hdi : decide ((i : Int) < (n : Int)) = false := by simp; omega
      obtain rfl : i = n := by omega
      have HE : Hid (s = z) := by show _ = _; rw [← HS.out]; exact Hz.out
      go_wp2
      go_ret
      exact ⟨by rw [HE.out]; rfl, hB⟩
/-- What is laid so far by the second loop. -/
def ufR (k : Nat) (A : List Nat) (i : Nat) : Nat → Nat := fun j => if k - i ≤ j then A.getD (k - 1 - j) 0 else j
theorem ufR_set {k : Nat} {A : List Nat} {i : Nat} (h : i < k) : ∀ j, j < k → updV (ufR k A i) (k - 1 - i) (A.getD i 0) j = ufR k A (i + 1) j := fun j hj => by
  unfold updV ufR
  by_cases e : j = k - 1 - i
  · rw [if_pos e, if_pos (by omega), show k - 1 - j = i by omega]
  · rw [if_neg e]
    by_cases g : k - i ≤ j
    · rw [if_pos g, if_pos (by omega)]
    · rw [if_neg g, if_neg (by omega)]
theorem un_at {k r j : Nat} (h : r < chs 61 k) (hj : j < k) : (unS k r 61).getD j 0 = ufR k (casL k r) (casL k r).length j := by
  rw [un_cas k r 61 h]
  have hl := cas_len k r
  unfold ufR
  by_cases e : k - (casL k r).length ≤ j
  · rw [if_pos e, List.getD_eq_getElem?_getD, List.getElem?_append_right (by rw [List.length_range]; exact e), List.length_range, List.getElem?_reverse (by omega), List.getD_eq_getElem?_getD]
    congr 2
    omega
  · rw [if_neg e, List.getD_eq_getElem?_getD, List.getElem?_append_left (by rw [List.length_range]; omega), List.getElem?_range (by omega)]
    rfl
set_option maxRecDepth 100000 in
set_option maxHeartbeats 8000000 in
theorem punrank_any (k r : Nat) (w : World) (hk : k ≤ 30) (hr : r < chs 61 k) :
    Calls Try.prog 38 #[.int .i64 (k : Int), .int .i64 (r : Int)] w fun e w' => ∃ y, e = .returned y ∧ Wd w' y (unS k r 61) ∧ Below w.heap.size w w' := by
  have hmk : ∀ w : World, (Instr.makeSlice 22 (.int .i64 (k : Int)) (.int .i64 (k : Int))).run Try.prog w = .ok (.slice (some ⟨w.heap.size, 0, none⟩) k k) (w.alloc (.cells (madeCells #[.int .i64 0] k) 3)) := fun w => run_makeN k (by omega) w
  have CF : Hid (∀ W, Calls Try.prog 43 #[.int .i64 (r : Int), .int .i64 (k : Int), .int .i64 61] W fun e w' => ∃ y, e = .returned y ∧ ORow w' W.heap.size y (casL k r) ∧ Below W.heap.size W w') := fun W => falling_any r k 61 W hk hr (.inr (by omega))
  have HUN : Hid (∀ j, j < k → (unS k r 61).getD j 0 = ufR k (casL k r) (casL k r).length j) := fun j hj => un_at hr hj
  have HWD : Hid (∀ W g (f : Nat → Nat), OwV 3 nV W g k f → (∀ j, j < k → (unS k r 61).getD j 0 = f j) → Wd W (.slice (some ⟨g, 0, none⟩) k k) (unS k r 61)) := fun W g f h e => h.wd (unS_len k r 61) (Nat.le_refl _) (Nat.le_refl _) e
  have hlen := cas_len k r
  obtain ⟨A, HA⟩ : ∃ A, Hid (casL k r = A) := ⟨_, rfl⟩
  rw [HA.out] at CF HUN hlen
  obtain ⟨Z, HZ⟩ : ∃ Z, Hid (unS k r 61 = Z) := ⟨_, rfl⟩
  rw [HZ.out] at HUN HWD ⊢
  have hO0 : OwV 3 nV (w.alloc (.cells (madeCells #[.int .i64 0] k) 3)) w.heap.size k (fun _ => 0) := OwV.made (en := nV) k w (fun _ => 0) _ (by intro j; rfl)
  have hO0 : OwV 3 nV (w.alloc (.cells (madeCells #[.int .i64 0] k) 3)) w.heap.size k (fun j => if j < 0 then j else 0) := hO0.congr fun j _ => by rw [if_neg (Nat.not_lt_zero _)]
  have hB0 := balloc w (.cells (madeCells #[.int .i64 0] k) 3)
  obtain ⟨g, Hg⟩ : ∃ g, Hid (w.heap.size = g) := ⟨_, rfl⟩
  rw [Hg.out] at hO0 hB0 ⊢
  clear hr
  go_enter Try.func38, Try.ntmps38
  go_wp2
  rw [Hg.out]
  go_loopw [13] (fun iv wr => ∃ (i : Nat), iv = .int .i64 (i : Int) ∧ i ≤ k ∧ OwV 3 nV wr g k (fun j => if j < i then j else 0) ∧ Below g w wr) (fun iv _ => (k - intOf iv).toNat)
  case atStart => exact ⟨0, rfl, by omega, hO0, hB0⟩
  case round =>
    clear hO0 hB0 hmk
    obtain ⟨i, rfl, hi, hO, hB⟩ := hrel
    by_cases hlt : i < k
    · have hdi : decide ((i : Int) < (k : Int)) = true := by simp; omega
      have hii : (i : Int) < (k : Int) := by omega
      have hc := hO.cell i hlt
      have hf := hO.frozen i
      have hO2 := (hO.set i i).congr (f' := fun j => if j < i + 1 then j else 0) fun j hj => by
        show updV (fun j => if j < i then j else 0) i i j = if j < i + 1 then j else 0
        unfold updV
        show (if j = i then i else if j < i then j else 0) = _
        by_cases e : j = i
        · rw [if_pos e, if_pos (by omega)]; exact e.symm
        · rw [if_neg e]
          by_cases h : j < i
          · rw [if_pos h, if_pos (by omega)]
          · rw [if_neg h, if_neg (by omega)]
      have hB2 := hB.setCell (p := ⟨g, i, none⟩) (Nat.le_refl _) (nV i)
      go_wp2
      go_roundw
      case rel => exact ⟨i + 1, by go_num, by omega, hO2, hB2⟩
      case measure => simp [intOf]; omega
    · have hdi : decide ((i : Int) < (k : Int)) = false := by simp; omega
      obtain rfl : i = k := by omega
      have hO1 := hO.congr (f' := ufR i A 0) fun j hj => by
        unfold ufR
        rw [if_pos hj, if_neg (by omega)]
      have hgl := hO1.lt
      clear hO
      go_wp2_with (go_at_call 43; refine (CF.out _).mono ?_; rintro e w2 ⟨y, rfl, hy, hb2⟩; obtain ⟨ya, yc, rfl⟩ := own_form hy)
      have hO2 : OwV 3 nV w2 g i (ufR i A 0) := hO1.below hb2
      have hB2 : Below g w w2 := hB.trans (hb2.mono (by omega))
      obtain ⟨n, Hn⟩ : ∃ n, Hid (A.length = n) := ⟨_, rfl⟩
      have HY : Hid (∀ W : World, (∀ b, b < w2.heap.size → b ≠ g → W.heap[b]? = w2.heap[b]?) → ∀ j, j < n → ∃ yb, ya = some ⟨yb, 0, none⟩ ∧ W.cell? ⟨yb, j, none⟩ = some (.int .i64 ((A.getD j 0 : Nat) : Int))) := fun W hW j hj => by
        have hk : W.ownsRow wr.heap.size 3 1 (.slice ya A.length yc) A.length (nz A) := own_keep hy fun b h1 h2 => hW b h2 (by omega)
        obtain ⟨yb, cap, e, -, -, hc⟩ := own_cells hk (by rw [Hn.out]; omega)
        injection e with e1 e2 e3
        exact ⟨yb, e1, hc j (by rw [Hn.out]; exact hj)⟩
      have HST : Hid (∀ t, t < i → ∀ j, j < i → updV (ufR i A t) (i - 1 - t) (A.getD t 0) j = ufR i A (t + 1) j) := fun t ht => ufR_set ht
      rw [Hn.out] at hlen HUN
      simp only [Hn.out]
      go_loopw [25] (fun tv wr' => ∃ (t : Nat), tv = .int .i64 (t : Int) ∧ t ≤ n ∧ OwV 3 nV wr' g i (ufR i A t) ∧ (∀ b, b < w2.heap.size → b ≠ g → wr'.heap[b]? = w2.heap[b]?) ∧ Below g w wr') (fun tv _ => (n - intOf tv).toNat)
      case atStart => exact ⟨0, rfl, by omega, hO2, fun b _ _ => rfl, hB2⟩
      case round =>
        clear hO2 hB2 hO1 hy hb2 hB
        obtain ⟨t, rfl, ht, hO, hK, hB⟩ := hrel
        by_cases hlt2 : t < n
        · have hdi2 : decide ((t : Int) < (n : Int)) = true := by simp; omega
          have hii2 : (t : Int) < (n : Int) := by omega
          obtain ⟨yb, rfl, c1⟩ := HY.out _ hK t hlt2
          obtain ⟨p, hp⟩ : ∃ p, p = i - 1 - t := ⟨_, rfl⟩
          have hpi : p < i := by omega
          have hc := hO.cell p hpi
          have hf := hO.frozen p
          obtain ⟨x, Hx⟩ : ∃ x, Hid (A.getD t 0 = x) := ⟨_, rfl⟩
          have hst := HST.out t (by omega)
          rw [← hp, Hx.out] at hst
          rw [Hx.out] at c1
          have hO3 := (hO.set p x).congr hst
          have hB3 := hB.setCell (p := ⟨g, p, none⟩) (Nat.le_refl _) (nV x)
          have hK3 : ∀ b, b < w2.heap.size → b ≠ g → (wr.setCell ⟨g, p, none⟩ (nV x)).heap[b]? = w2.heap[b]? := fun b h1 h2 => (heap_setCell_other _ _ _ _ h2).trans (hK b h1 h2)
          have e1 : IntKind.i64.wrap ((i : Int) - 1) = (i : Int) - 1 := IntWalk.i64_in _ (by omega)
          have e2 : (i : Int) - 1 - (t : Int) = (p : Int) := by omega
          have e3 : IntKind.i64.wrap (p : Int) = (p : Int) := IntWalk.i64_in _ (by omega)
          have hpii : (p : Int) < (i : Int) := by omega
          clear hst hO hK hp
          go_wp2
          go_roundw
          case rel => exact ⟨t + 1, by go_num, by omega, hO3, hK3, hB3⟩
          case measure => simp [intOf]; omega
        · have hdi2 : decide ((t : Int) < (n : Int)) = false := by simp; omega
          obtain rfl : t = n := by omega
          have hW := HWD.out _ _ _ hO HUN.out
          go_wp2
          go_ret
          exact ⟨_, rfl, hW, hB⟩
set_option maxRecDepth 100000 in
set_option maxHeartbeats 8000000 in
theorem pleast_any (m k : Nat) (w : World) (hm : m ≤ 1000000000) (hk1 : 1 ≤ k) (hk : k ≤ 30) :
    Calls Try.prog 44 #[.int .i64 (m : Int), .int .i64 (k : Int)] w fun e w' => e = .returned (.int .i64 (leN k (casL k m) : Int)) ∧ Below w.heap.size w w' := by
  have CF := falling_any m k (k + m) w hk (chs_big hk1 m) (.inl ⟨hm, by omega⟩)
  rw [show ((k + m : Nat) : Int) = (m : Int) + (k : Int) by omega] at CF
  have e1 : IntKind.i64.wrap ((m : Int) + (k : Int)) = (m : Int) + (k : Int) := IntWalk.i64_in _ (by omega)
  have h2 : ∀ i, i < (casL k m).length → (casL k m).getD i 0 ≤ 2000000000 := fun i hi => cas_small hm hk hi
  have h3 : ∀ i, i < (casL k m).length → chs ((casL k m).getD i 0) (k - 1 - i) ≤ 30000000000 := fun i hi => by
    have h1 := le_small hi
    have h2 : k * m ≤ 30 * 1000000000 := Nat.mul_le_mul hk hm
    omega
  have h4 : ∀ i, i < (casL k m).length → k - i ≤ (casL k m).getD i 0 := fun i hi => (cas_at k m i hi).1
  have hl := cas_len k m
  obtain ⟨M, HM⟩ : ∃ M, Hid (casL k m = M) := ⟨_, rfl⟩
  rw [HM.out] at CF h2 h3 h4 hl ⊢
  have HSM : Hid (∀ i, i ≤ M.length → sumN i (fun i => chs (M.getD i 0) (k - 1 - i)) ≤ 900000000000) := fun i hi => by
    have := sumN_bd i (f := fun i => chs (M.getD i 0) (k - 1 - i)) fun j hj => h3 j (by omega)
    have h5 : i * 30000000000 ≤ 30 * 30000000000 := Nat.mul_le_mul_right _ (by omega)
    omega
  have HC : Hid (∀ i, i < M.length → ∀ W, Calls Try.prog 37 #[.int .i64 ((M.getD i 0 : Nat) : Int), .int .i64 ((k - 1 - i : Nat) : Int)] W fun e w' => e = .returned (.int .i64 (chs (M.getD i 0) (k - 1 - i) : Int)) ∧ Below W.heap.size W w') := fun i hi W => by
    have a1 := h2 i hi
    have a2 := h3 i hi
    have a3 := h4 i hi
    have a4 : (k - 1 - i) * chs (M.getD i 0) (k - 1 - i) ≤ 30 * 30000000000 := Nat.mul_le_mul (by omega) a2
    exact (pways_any (M.getD i 0) (k - 1 - i) W (by omega) a1 (by omega) (by omega)).mono fun e w' h => ⟨h.1, by rw [h.2]; exact Below.refl _ _⟩
  have HST : Hid (∀ i, sumN (i + 1) (fun i => chs (M.getD i 0) (k - 1 - i)) = sumN i (fun i => chs (M.getD i 0) (k - 1 - i)) + chs (M.getD i 0) (k - 1 - i)) := fun i => rfl
  obtain ⟨F, HF⟩ : ∃ F, Hid ((fun i => chs (M.getD i 0) (k - 1 - i)) = F) := ⟨_, rfl⟩
  obtain ⟨z, Hz⟩ : ∃ z, Hid (leN k M = z) := ⟨_, rfl⟩
  have HE : Hid (sumN M.length F = z) := by show _ = _; rw [← HF.out]; exact Hz.out
  rw [Hz.out]
  rw [HF.out] at HSM HST
  obtain ⟨n, Hn⟩ : ∃ n, Hid (M.length = n) := ⟨_, rfl⟩
  clear h2 h3 h4 Hz HM
  go_enter Try.func44, Try.ntmps44
  go_wp2_with (go_at_call 43; refine CF.mono ?_; rintro e w2 ⟨y, rfl, hy, hb2⟩; clear CF; obtain ⟨a, c, rfl⟩ := own_form hy)
  have HA : Hid (∀ W, Below w2.heap.size w2 W → ∀ i, i < M.length → ∃ b off, a = some ⟨b, off, none⟩ ∧ W.cell? ⟨b, off + i, none⟩ = some (.int .i64 ((M.getD i 0 : Nat) : Int))) := fun W bW i hi => by
    obtain ⟨b, cap, e, -, -, hc⟩ := own_cells hy (by omega)
    injection e with e1 e2 e3
    exact ⟨b, 0, e1, by rw [Nat.zero_add, bW.cell (World.block_lt_of_cell? _ _ (hc i hi))]; exact hc i hi⟩
  rw [Hn.out] at HA HSM HC hl HE
  simp only [Hn.out]
  clear hy
  go_loopw [5, 15] (fun sv iv wr => ∃ (i s : Nat), iv = .int .i64 (i : Int) ∧ sv = .int .i64 (s : Int) ∧ i ≤ n ∧ Hid (sumN i F = s) ∧ Below w2.heap.size w2 wr) (fun _ iv _ => (n - intOf iv).toNat)
  case atStart => exact ⟨0, 0, rfl, rfl, by omega, rfl, Below.refl _ _⟩
  case round =>
    obtain ⟨i, s, rfl, rfl, hi, HS, hB⟩ := hrel
    by_cases hlt : i < n
    · have hdi : decide ((i : Int) < (n : Int)) = true := by simp; omega
      have hii : (i : Int) < (n : Int) := by omega
      obtain ⟨b1, o1, rfl, c1⟩ := HA.out wr hB i hlt
      have C := HC.out i hlt wr
      have hst := HST.out i
      have hsm := HSM.out (i + 1) (by omega)
      rw [hst, HS.out] at hsm
      rw [HS.out] at hst
      have e5 : ((k - 1 - i : Nat) : Int) = (k : Int) - 1 - (i : Int) := by omega
      rw [e5] at C
      obtain ⟨x, hx⟩ : ∃ x, Hid (chs (M.getD i 0) (k - 1 - i) = x) := ⟨_, rfl⟩
      obtain ⟨y, hy⟩ : ∃ y, Hid (M.getD i 0 = y) := ⟨_, rfl⟩
      rw [hx.out] at C hst hsm
      rw [hy.out] at C c1
      have HS2 : Hid (sumN (i + 1) F = s + x) := hst
      have hsw : IntKind.i64.wrap ((s : Int) + (x : Int)) = (s : Int) + (x : Int) := IntWalk.i64_in _ (by omega)
      have hkw : IntKind.i64.wrap ((k : Int) - 1) = (k : Int) - 1 := IntWalk.i64_in _ (by omega)
      have hkw2 : IntKind.i64.wrap ((k : Int) - 1 - (i : Int)) = (k : Int) - 1 - (i : Int) := IntWalk.i64_in _ (by omega)
      clear hst e5
      go_wp2_with (go_at_call 37; refine C.mono ?_; rintro e w3 ⟨rfl, hb3⟩; clear C)
      go_roundw
      case rel => exact ⟨i + 1, s + x, by go_num, by go_num, by omega, HS2, Below.next hB hb3⟩
      case measure => simp [intOf]; omega
    · have hdi : decide ((i : Int) < (n : Int)) = false := by simp; omega
      obtain rfl : i = n := by omega
      have HZ : Hid (s = z) := by show _ = _; rw [← HS.out]; exact HE.out
      go_wp2
      go_ret
      exact ⟨by rw [HZ.out]; rfl, Below.next hb2 hB⟩
end Go.Proofs.Ytmogmkdcplgfjaa
