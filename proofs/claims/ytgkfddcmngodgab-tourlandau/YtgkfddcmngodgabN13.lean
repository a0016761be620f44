/- The program's isLandau and Could, walked. -/
import Derived.Test.YtgkfddcmngodgabN12
import Derived.Test.YtgkfddcmngodgabU5
import Derived.Test.YtgkfddcmngodgabTsL
namespace Go.Proofs.Ytgkfddcmngodgab
open Go.RowKit

set_option maxRecDepth 100000 in
set_option maxHeartbeats 2000000 in
theorem pairs_any (k : Nat) (hk : k ≤ 99) (w : World) : Calls Try.prog 21 #[.int .i64 (k : Int)] w fun e w' => e = .returned (.int .i64 (prN k : Int)) ∧ w' = w := by
  rcases Nat.eq_zero_or_pos k with h | h
  · subst h
    go_enter Try.func21, Try.ntmps21
    go_wp2
    go_ret
    exact ⟨rfl, rfl⟩
  · obtain ⟨j, Hj⟩ : ∃ j, Hid (k - 1 = j) := ⟨_, rfl⟩
    obtain ⟨p, Hp⟩ : ∃ p, Hid (k * j = p) := ⟨_, rfl⟩
    have hp : p ≤ 99 * 99 := by rw [← Hp.out]; exact Nat.mul_le_mul hk (by have := Hj.out; omega)
    have e1 : (k : Int) - 1 = (j : Int) := by have := Hj.out; omega
    have e2 : (k : Int) * (j : Int) = (p : Int) := by rw [← Hp.out]; simp
    have e3 : prN k = p / 2 := by unfold prN; rw [Hj.out, Hp.out]
    have e4 : (p : Int).tdiv 2 = ((p / 2 : Nat) : Int) := rfl
    have w1 : IntKind.i64.wrap (j : Int) = (j : Int) := IntWalk.i64_in _ (by have := Hj.out; omega)
    have w2 : IntKind.i64.wrap (p : Int) = (p : Int) := IntWalk.i64_in _ (by omega)
    have w3 : IntKind.i64.wrap ((p / 2 : Nat) : Int) = ((p / 2 : Nat) : Int) := IntWalk.i64_in _ (by omega)
    rw [e3]
    go_enter Try.func21, Try.ntmps21
    go_wp2
    go_ret
    exact ⟨by first | rfl | (rw [← e4]), rfl⟩
theorem ord_nat (L : List Nat) : ∃ s : List Nat, ordZ (L.map Int.ofNat) = s.map Int.ofNat ∧ s.Perm L ∧ s.Pairwise (· ≤ ·) := by
  have hp := ordZ_perm (L.map Int.ofNat)
  have hl := ordZ_le (L.map Int.ofNat)
  have e : ordZ (L.map Int.ofNat) = ((ordZ (L.map Int.ofNat)).map Int.toNat).map Int.ofNat := by
    rw [List.map_map]
    refine (List.map_id _).symm.trans (List.map_congr_left fun x hx => ?_)
    obtain ⟨y, _, rfl⟩ := List.mem_map.1 (hp.mem_iff.1 hx)
    rfl
  refine ⟨(ordZ (L.map Int.ofNat)).map Int.toNat, e, ?_, ?_⟩
  · have := hp.map Int.toNat
    rw [List.map_map] at this
    refine this.trans ?_
    have e2 : L.map (Int.toNat ∘ Int.ofNat) = L := (List.map_congr_left fun x _ => rfl).trans (List.map_id _)
    rw [e2]
  · rw [List.pairwise_map]
    exact hl.imp fun {a b} h => by omega
theorem pfS_le {s : List Nat} {k m : Nat} (h : ∀ x ∈ s, x ≤ m) : k ≤ s.length → pfS s k ≤ k * m := by
  induction k with
  | zero => intro _; rw [pfS_zero]; omega
  | succ k ih =>
    intro hk
    rw [pfS_more (by omega), Nat.succ_mul]
    have h1 := ih (by omega)
    have h2 := h (s.getD k 0) (by rw [List.getD_eq_getElem?_getD, List.getElem?_eq_getElem (by omega)]; exact List.getElem_mem _)
    omega
theorem ldB_no {s : List Nat} {k : Nat} (hk : k < s.length) (h : pfS s (k + 1) < prN (k + 1)) : ldB s = false := by
  cases e : ldB s with
  | false => rfl
  | true =>
    unfold ldB at e
    simp only [Bool.and_eq_true, List.all_eq_true, List.mem_range, Bool.not_eq_true', decide_eq_false_iff_not] at e
    exact absurd h (e.1 k hk)
theorem ldB_end {s : List Nat} (h : ∀ k, k < s.length → ¬ pfS s (k + 1) < prN (k + 1)) : ldB s = (pfS s s.length == prN s.length) := by
  unfold ldB
  have : ((List.range s.length).all fun k => !decide (pfS s (k + 1) < prN (k + 1))) = true := by
    rw [List.all_eq_true]
    intro k hk
    rw [decide_eq_false (h k (List.mem_range.1 hk))]; rfl
  rw [this, Bool.true_and]
set_option maxRecDepth 100000 in
set_option maxHeartbeats 16000000 in
theorem isLandau_any (L : List Nat) (v : Value) (w : World) (hv : Sl w v (L.map Int.ofNat)) (h0 : 0 < L.length) (h9 : L.length ≤ 9) (hx : ∀ x ∈ L, x ≤ 9) :
    Calls Try.prog 13 #[v] w fun e w' => e = .returned (.bool (coB L)) ∧ Below w.heap.size w w' := by
  have HV : Hid (∀ W, Below w.heap.size w W → Sl W v (L.map Int.ofNat)) := fun W b => hv.below b
  obtain ⟨s, hs, hsp, hsl⟩ := ord_nat L
  have hsn : s.length = L.length := hsp.length_eq
  have hs9 : ∀ x ∈ s, x ≤ 9 := fun x h => hx x (hsp.mem_iff.1 h)
  rw [← landau_is hsp hsl]
  have HNO : Hid (∀ k, k < s.length → pfS s (k + 1) < prN (k + 1) → ldB s = false) := fun k => ldB_no
  have HEND : Hid ((∀ k, k < s.length → ¬ pfS s (k + 1) < prN (k + 1)) → ldB s = (pfS s s.length == prN s.length)) := ldB_end
  have HMO : Hid (∀ k, k < s.length → pfS s (k + 1) = pfS s k + s.getD k 0) := fun k h => pfS_more h
  have HLE : Hid (∀ k, k ≤ s.length → pfS s k ≤ k * 9) := fun k => pfS_le hs9
  have HX9 : Hid (∀ k, k < s.length → s.getD k 0 ≤ 9) := fun k hk => hs9 _ (by rw [List.getD_eq_getElem?_getD, List.getElem?_eq_getElem hk]; exact List.getElem_mem _)
  obtain ⟨va, vc, rfl, -⟩ := hv
  rw [List.length_map] at HV ⊢
  have hbx := balloc w (.cells #[.slice va L.length vc] 22)
  have C1 := Values_any va L.length vc w
  have C2 := Sorted_any w.heap.size (L.map Int.ofNat) (.slice va L.length vc) (w.alloc (.cells #[.slice va L.length vc] 22)) (heap_alloc_new w _) (HV.out _ hbx) (by rw [List.length_map]; exact h0) (by rw [List.length_map]; omega)
  rw [hs, List.length_map] at C2
  obtain ⟨N, HN⟩ : ∃ N, Hid (L.length = N) := ⟨_, rfl⟩
  rw [hsn] at HNO HEND HMO HLE HX9
  rw [HN.out] at C1 C2 HNO HEND HMO HLE HX9 h0 h9 hsn hbx ⊢
  obtain ⟨z, Hz⟩ : ∃ z, Hid (ldB s = z) := ⟨_, rfl⟩
  rw [Hz.out] at HNO HEND ⊢
  have CP := fun (k : Nat) (hk : k ≤ 99) (W : World) => pairs_any k hk W
  have HCP : Hid (∀ k : Nat, k ≤ 99 → ∀ W, Calls Try.prog 21 #[.int .i64 (k : Int)] W fun e w' => e = .returned (.int .i64 (prN k : Int)) ∧ w' = W) := CP
  clear HV CP hs hsp hsl hs9 hx
  go_enter Try.func13, Try.ntmps13
  go_wp2_with (first
    | (go_at_call 20; refine C1.mono ?_; rintro e w1 ⟨rfl, hw1⟩; subst hw1; clear C1)
    | (go_at_call 19; refine C2.mono ?_; rintro e w2 ⟨⟨u, rfl, hu⟩, hb2⟩; clear C2; have hB2 := Below.next hbx hb2; obtain ⟨ug, uc, ucur, hue, hug, hugb, huc, hucm, hucs, hut⟩ : ∃ g cap cur, u = .slice (some ⟨g, 0, none⟩) N cap ∧ _ ∧ w2.heap[g]? = some (.cells cur 3 (0, 0)) ∧ N ≤ cap ∧ cap ≤ maxLen ∧ cur.size = cap * 1 ∧ cur.toList.take (N * 1) = (s.map Int.ofNat).map (Value.int .i64) := (hu.2.resolve_left (fun h => by omega)); subst hue)
    | go_in)
  have HCC : Hid (∀ k, k < N → w2.cell? ⟨ug, k, none⟩ = some (.int .i64 ((s.getD k 0 : Nat) : Int))) := fun k hk => by
    rw [cell_of_row w2 ug _ _ _ _ hugb]
    have e2 : (ucur.toList.take (N * 1))[k]? = ((s.map Int.ofNat).map (Value.int .i64))[k]? := by rw [hut]
    rw [List.getElem?_take, if_pos (by omega)] at e2
    rw [← Array.getElem?_toList, e2, List.getElem?_map, List.getElem?_map, List.getElem?_eq_getElem (by omega), List.getD_eq_getElem?_getD, List.getElem?_eq_getElem (by omega)]
    rfl
  clear hut hugb hu hucs
  go_loopw [3, 10] (fun sv kv wr => ∃ k q : Nat, kv = .int .i64 (k : Int) ∧ sv = .int .i64 (q : Int) ∧ k ≤ N ∧ Hid (pfS s k = q) ∧ q ≤ 9 * k ∧ Hid (∀ j, j < k → ¬ pfS s (j + 1) < prN (j + 1)) ∧ wr = w2) (fun _ kv _ => (N - intOf kv).toNat)
  case atStart => exact ⟨0, 0, rfl, rfl, by omega, pfS_zero s, by omega, (show ∀ j, j < 0 → _ from fun j h => by omega), rfl⟩
  case round =>
    obtain ⟨k, q, rfl, rfl, hk, HQ, hq, HI, e1⟩ := hrel
    subst e1
    by_cases hlk : k < N
    · have hdk : decide ((k : Int) < (N : Int)) = true := by simp; omega
      have hkk : (k : Int) < (N : Int) := by omega
      have hc := HCC.out k hlk
      have hm := HMO.out k hlk
      have hx9 := HX9.out k hlk
      rw [HQ.out] at hm
      obtain ⟨x, Hx⟩ : ∃ x, Hid (s.getD k 0 = x) := ⟨_, rfl⟩
      rw [Hx.out] at hc hm hx9
      obtain ⟨r, Hr⟩ : ∃ r, Hid (q + x = r) := ⟨_, rfl⟩
      rw [Hr.out] at hm
      have er : (q : Int) + (x : Int) = (r : Int) := by rw [← Hr.out]; simp
      have wr1 : IntKind.i64.wrap (r : Int) = (r : Int) := IntWalk.i64_in _ (by have := Hr.out; omega)
      obtain ⟨k1, Hk1⟩ : ∃ k1, Hid (k + 1 = k1) := ⟨_, rfl⟩
      have ek : (k : Int) + 1 = (k1 : Int) := by rw [← Hk1.out]; simp
      have C3 := HCP.out k1 (by have := Hk1.out; omega)
      have hno := HNO.out k hlk
      rw [Hk1.out] at hm hno
      rw [hm] at hno
      obtain ⟨P, HP⟩ : ∃ P, Hid (prN k1 = P) := ⟨_, rfl⟩
      rw [HP.out] at C3 hno
      have wk1 : IntKind.i64.wrap (k1 : Int) = (k1 : Int) := IntWalk.i64_in _ (by have := Hk1.out; omega)
      by_cases hlt : r < P
      · have hd : decide ((r : Int) < (P : Int)) = true := by simp; omega
        have HF : Hid (z = false) := hno hlt
        go_wp2_with (first
          | (go_at_call 21; refine (C3 _).mono ?_; rintro e w3 ⟨rfl, hw3⟩; replace hw3 := hw3.symm; subst hw3; clear C3)
          | go_in)
        go_ret
        exact ⟨by rw [HF.out]; rfl, hB2⟩
      · have hd : decide ((r : Int) < (P : Int)) = false := by simp; omega
        have HQ2 : Hid (pfS s (k + 1) = r) := by show _ = _; rw [Hk1.out]; exact hm
        have HI2 : Hid (∀ j, j < k + 1 → ¬ pfS s (j + 1) < prN (j + 1)) := fun j hj => by
          by_cases e : j = k
          · rw [e, HQ2.out, Hk1.out, HP.out]; exact hlt
          · exact HI.out j (by omega)
        clear HI hno hm
        go_wp2_with (first
          | (go_at_call 21; refine (C3 _).mono ?_; rintro e w3 ⟨rfl, hw3⟩; replace hw3 := hw3.symm; subst hw3; clear C3)
          | go_in)
        go_roundw
        case rel => exact ⟨k + 1, r, by rw [← ek]; rfl, rfl, by omega, HQ2, by have := Hr.out; omega, HI2, trivial⟩
        case measure => rw [← ek]; simp [intOf]; omega
    · have hdk : decide ((k : Int) < (N : Int)) = false := by simp; omega
      have hdkn : decide (k < N) = false := by simp; omega
      obtain rfl : k = N := by omega
      have C3 := HCP.out k (by omega)
      have hz := HEND.out HI.out
      rw [HQ.out] at hz
      obtain ⟨P, HP⟩ : ∃ P, Hid (prN k = P) := ⟨_, rfl⟩
      rw [HP.out] at C3 hz
      go_wp2_with (first
        | (go_at_call 21; refine (C3 _).mono ?_; rintro e w3 ⟨rfl, hw3⟩; replace hw3 := hw3.symm; subst hw3; clear C3)
        | go_in)
      go_ret
      exact ⟨by rw [hz, show (q == P) = ((q : Int) == (P : Int)) from by rw [Bool.eq_iff_iff, beq_iff_eq, beq_iff_eq]; omega]; rfl, hB2⟩
set_option maxRecDepth 100000 in
set_option maxHeartbeats 16000000 in
theorem Could_any (l : List Int) (v : Value) (w : World) (hv : Sl w v l) (hl : l.length ≤ maxLen) :
    Calls Try.prog 6 #[v] w fun e w' => e = .returned (.tuple #[.bool (cZ l).1, .int .i64 ((cZ l).2 : Int)]) ∧ Below w.heap.size w w' := by
  obtain ⟨z, Hz⟩ : ∃ z, Hid (cZ l = z) := ⟨_, rfl⟩
  unfold maxLen at hl
  obtain ⟨m, Hm⟩ : ∃ m, Hid (l.length = m) := ⟨_, rfl⟩
  rw [Hm.out] at hl
  rw [Hz.out]
  by_cases h9 : 9 < m
  · have HZ : Hid (z = (false, 3)) := by show _ = _; rw [← Hz.out]; unfold cZ; rw [Hm.out, if_pos h9]
    rw [HZ.out]
    have hm9 : decide ((9 : Int) < (m : Int)) = true := by simp; omega
    obtain ⟨a, cap, rfl, -⟩ := hv
    rw [Hm.out]
    go_enter Try.func6, Try.ntmps6
    go_wp2
    go_ret2
    exact ⟨rfl, Below.refl _ _⟩
  have hm9 : decide ((9 : Int) < (m : Int)) = false := by simp; omega
  by_cases h0 : m = 0
  · have HZ : Hid (z = (false, 2)) := by show _ = _; rw [← Hz.out]; unfold cZ; rw [Hm.out, if_neg h9, if_pos h0]
    rw [HZ.out]
    have hm0 : ((m : Int) == 0) = true := by simp; omega
    obtain ⟨a, cap, rfl, -⟩ := hv
    rw [Hm.out]
    clear h0
    go_enter Try.func6, Try.ntmps6
    go_wp2
    go_ret2
    exact ⟨rfl, Below.refl _ _⟩
  have hm0 : ((m : Int) == 0) = false := by simp; omega
  have hm1 : 1 ≤ m := by omega
  have hmle : m ≤ 9 := by omega
  have hv0 := hv
  obtain ⟨b, o, c, rfl, hC⟩ := sl_all hv (by rw [Hm.out]; omega)
  rw [Hm.out] at hC ⊢
  have HC : Hid (∀ W, Below w.heap.size w W → ∀ j, j < m → W.cell? ⟨b, o + j, none⟩ = some (.int .i64 (l.getD j 0))) := hC
  have HBad : Hid (∀ i, i < m → (l.getD i 0 < 0 ∨ (m : Int) ≤ l.getD i 0) → z = (false, 1)) := fun i hi hb => by
    rw [← Hz.out]; unfold cZ
    rw [Hm.out, if_neg h9, if_neg h0, if_pos]
    exact List.any_eq_true.2 ⟨i, List.mem_range.2 hi, by simpa using hb⟩
  obtain ⟨L, HL⟩ : ∃ L, Hid (l.map Int.toNat = L) := ⟨_, rfl⟩
  have HLL : Hid (L.length = m) := by show _ = _; rw [← HL.out, List.length_map]; exact Hm.out
  have HOk : Hid ((∀ i, i < m → 0 ≤ l.getD i 0 ∧ l.getD i 0 < (m : Int)) → z = (coB L, 0)) := fun h => by
    rw [← Hz.out, ← HL.out]; unfold cZ
    rw [Hm.out, if_neg h9, if_neg h0, if_neg]
    intro k
    obtain ⟨i, hi, k⟩ := List.any_eq_true.1 k
    have := h i (List.mem_range.1 hi)
    simp only [Bool.or_eq_true, decide_eq_true_eq] at k
    omega
  have HAt : Hid ((∀ i, i < m → 0 ≤ l.getD i 0 ∧ l.getD i 0 < (m : Int)) → ∀ i, i < m → ∃ x : Nat, x < m ∧ L.getD i 0 = x ∧ l.getD i 0 = (x : Int)) := fun h i hi => by
    have hh := h i hi
    refine ⟨(l.getD i 0).toNat, by omega, ?_, by omega⟩
    rw [← HL.out, List.getD_eq_getElem?_getD, List.getElem?_map, List.getD_eq_getElem?_getD]
    cases l[i]? <;> rfl
  clear hC hv h9 h0 Hz HL
  go_enter Try.func6, Try.ntmps6
  go_wp2
  go_loopw [15] (fun iv wr => ∃ i : Nat, iv = .int .i64 (i : Int) ∧ i ≤ m ∧ Hid (∀ j, j < i → 0 ≤ l.getD j 0 ∧ l.getD j 0 < (m : Int)) ∧ wr = w) (fun iv _ => (m - intOf iv).toNat)
  case atStart => exact ⟨0, rfl, by omega, (show ∀ j, j < 0 → _ from fun j h => by omega), rfl⟩
  case round =>
    obtain ⟨i, rfl, hi, HI, e1⟩ := hrel
    subst e1
    by_cases hlt : i < m
    · have hdi : decide ((i : Int) < (m : Int)) = true := by simp; omega
      have hii : (i : Int) < (m : Int) := by omega
      have hc := HC.out wr (Below.refl _ _) i hlt
      obtain ⟨x, Hx⟩ : ∃ x, Hid (l.getD i 0 = x) := ⟨_, rfl⟩
      rw [Hx.out] at hc
      by_cases ha : x < 0
      · have hd : decide (x < 0) = true := by simpa using ha
        have HZ : Hid (z = (false, 1)) := HBad.out i hlt (.inl (by rw [Hx.out]; exact ha))
        go_wp2
        go_ret2
        exact ⟨by rw [HZ.out]; rfl, Below.refl _ _⟩
      · have hd : decide (x < 0) = false := by simpa using ha
        by_cases hb : (m : Int) ≤ x
        · have hd2 : decide ((m : Int) ≤ x) = true := by simpa using hb
          have HZ : Hid (z = (false, 1)) := HBad.out i hlt (.inr (by rw [Hx.out]; exact hb))
          go_wp2
          go_ret2
          exact ⟨by rw [HZ.out]; rfl, Below.refl _ _⟩
        · have hd2 : decide ((m : Int) ≤ x) = false := by simpa using hb
          have HI2 : Hid (∀ j, j < i + 1 → 0 ≤ l.getD j 0 ∧ l.getD j 0 < (m : Int)) := fun j hj => by
            by_cases e : j = i
            · rw [e, Hx.out]; omega
            · exact HI.out j (by omega)
          clear HI
          go_wp2
          go_roundw
          case rel => exact ⟨i + 1, by go_num, by omega, HI2, trivial⟩
          case measure => simp [intOf]; omega
    · have hdi : decide ((i : Int) < (m : Int)) = false := by simp; omega
      have hdin : decide (i < m) = false := by simp; omega
      obtain rfl : i = m := by omega
      have HZ : Hid (z = (coB L, 0)) := HOk.out HI.out
      have HAT := HAt.out HI.out
      have hLm : l = L.map Int.ofNat := by
        refine List.ext_getElem (by rw [Hm.out, List.length_map, HLL.out]) fun j h1 h2 => ?_
        obtain ⟨x, _, e1, e2⟩ := HAT j (by rw [← Hm.out]; exact h1)
        rw [List.getElem_map]
        rw [List.getD_eq_getElem?_getD, List.getElem?_eq_getElem h1] at e2
        rw [List.getD_eq_getElem?_getD, List.getElem?_eq_getElem (by simpa using h2)] at e1
        simp only [Option.getD_some] at e1 e2
        rw [e2, e1]; rfl
      have hLx : ∀ x ∈ L, x < i := fun x hx => by
        obtain ⟨j, hj, e⟩ := List.mem_iff_getElem.1 hx
        obtain ⟨y, hy, e1, _⟩ := HAT j (by rw [← HLL.out]; exact hj)
        rw [List.getD_eq_getElem?_getD, List.getElem?_eq_getElem hj] at e1
        simp only [Option.getD_some] at e1
        omega
      have C1 := isLandau_any L _ wr (by rw [← hLm]; exact hv0) (by rw [HLL.out]; exact hm1) (by rw [HLL.out]; exact hmle) (fun x hx => by have := hLx x hx; omega)
      rw [hLm, List.length_map, HLL.out] at C1
      obtain ⟨k, Hk⟩ : ∃ k, Hid (coB L = k) := ⟨_, rfl⟩
      rw [Hk.out] at C1 HZ
      clear hLm hLx HAT hv0
      go_wp2_with (first
        | (go_at_call 13; refine C1.mono ?_; rintro e w5 ⟨rfl, hb5⟩; clear C1)
        | go_in)
      go_ret2
      exact ⟨by rw [HZ.out]; rfl, hb5⟩
end Go.Proofs.Ytgkfddcmngodgab
