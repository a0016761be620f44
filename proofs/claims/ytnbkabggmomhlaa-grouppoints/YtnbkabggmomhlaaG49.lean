/- The walks of deep, Deep, Fixed. -/
import Derived.Test.YtnbkabggmomhlaaG67
import Derived.Test.YtnbkabggmomhlaaG11
import Derived.Test.YtnbkabggmomhlaaGDeep
namespace Go.Proofs.Ytnbkabggmomhlaa
open Go.RowKit Go.Maps

theorem fix_all (t : Nat) (x : List Nat) : fixN t x = t ↔ ∀ i, i < t → x.getD i 0 = i := by
  unfold fixN
  have h := List.countP_eq_length (p := fun i => decide (x.getD i 0 = i)) (l := List.range t)
  rw [List.length_range] at h
  rw [h]
  constructor
  · intro k i hi; simpa using k i (List.mem_range.2 hi)
  · intro k i hi; simpa using k i (List.mem_range.1 hi)
theorem fix_ext {n t : Nat} (hn : n ≤ 7) (ht : t ≤ n) (a : List Nat) : fixN t (ext n a) = fixN t a := by
  unfold fixN
  refine List.countP_congr fun i hi => ?_
  have := List.mem_range.1 hi
  rw [ext_lo hn a (by omega)]
open Classical in
theorem count_stab {n t : Nat} {ms L : List (List Nat)} (hm : ∀ m ∈ ms, IsP n m) (hn : n ≤ 7) (ht : t ≤ n) (nd : L.Nodup) (h : ∀ a, a ∈ L ↔ Gen n ms a) :
    (L.map (ext n)).countP (fun x => decide (fixN t x = t)) = (els n fun a => Gen n ms a ∧ ∀ i, i < t → a.getD i 0 = i).length := by
  rw [els_and, ← List.countP_eq_length_filter, List.countP_map, (gen_perm hm nd h).countP_eq]
  refine List.countP_congr fun a _ => ?_
  simp only [Function.comp, decide_eq_true_eq]
  rw [fix_ext hn ht, fix_all]
theorem step_deep {n t : Nat} {ms L : List (List Nat)} (hm : ∀ m ∈ ms, IsP n m) (hn : n ≤ 7) (ht : t ≤ n) (nd : L.Nodup) (h : ∀ a, a ∈ L ↔ Gen n ms a) :
    Moves n (Gen n ms) t ↔ rowsN n t * (L.map (ext n)).countP (fun x => decide (fixN t x = t)) = (L.map (ext n)).length := by
  rw [moves_iff (gen_grp hm) ht, count_stab hm hn ht nd h, List.length_map, gen_len hm nd h]
theorem rowsN_le {n : Nat} (hn : n ≤ 7) : ∀ t, t ≤ n → rowsN n t ≤ 5040 := by
  intro t ht
  have h : ∀ n : Nat, n < 8 → ∀ t : Nat, t < 8 → rowsN n t ≤ 5040 := by decide
  exact h n (by omega) t (by omega)

set_option maxRecDepth 100000 in
set_option maxHeartbeats 2000000 in
theorem deep_any (n base G : Nat) (ms L : List (List Nat)) (w : World) (hn : n ≤ 7) (hm : ∀ m ∈ ms, IsP n m) (hM : Mem base w G (L.map (ext n))) (nd : L.Nodup) (hg : ∀ a, a ∈ L ↔ Gen n ms a) :
    Calls Try.prog 49 #[.pointer (some ⟨G, 0, none⟩), .int .i64 (n : Int)] w fun e w' => (∃ d : Nat, e = .returned (.int .i64 (d : Int)) ∧ DeepIs n ms d) ∧ Below w.heap.size w w' := by
  have hb := gen_bound hm hn nd hg
  have C1 := fun (t : Nat) (ht : t ≤ 7) W (h : Below w.heap.size w W) => leave_any base G t _ W (hM.below h) (by rw [List.length_map]; exact hb.1) (by rw [List.length_map]; omega) ht
  have C2 := fun W (h : Below w.heap.size w W) => order_any base G _ W (hM.below h) (by rw [List.length_map]; exact hb.1)
  have HST : Hid (∀ t, t ≤ n → (Moves n (Gen n ms) t ↔ rowsN n t * (L.map (ext n)).countP (fun x => decide (fixN t x = t)) = (L.map (ext n)).length)) := fun t ht => step_deep hm hn ht nd hg
  have HLE : Hid (∀ t, (L.map (ext n)).countP (fun x => decide (fixN t x = t)) ≤ 5040) := fun t => by
    have := List.countP_le_length (p := fun x => decide (fixN t x = t)) (l := L.map (ext n))
    rw [List.length_map] at this; omega
  have HRW : Hid (∀ t, t ≤ n → rowsN n t ≤ 5040) := rowsN_le hn
  obtain ⟨o, Ho⟩ : ∃ o, Hid ((L.map (ext n)).length = o) := ⟨_, rfl⟩
  have hob : o ≤ 5040 := by rw [← Ho.out, List.length_map]; exact hb.2
  rw [Ho.out] at C2 HST
  clear hM hm nd hg hb
  go_enter Try.func49, Try.ntmps49
  go_wp2
  go_loopw [5, 6] (fun rr i wr => ∃ j : Nat, i = .int .i64 j ∧ rr = .int .i64 (rowsN n (j - 1) : Nat) ∧ 1 ≤ j ∧ j ≤ n + 1 ∧ Hid (∀ t, 1 ≤ t → t < j → Moves n (Gen n ms) t) ∧ Below w.heap.size w wr) (fun _ i _ => (n + 1 - intOf i).toNat)
  case atStart => exact ⟨1, rfl, rfl, by omega, by omega, (fun t h1 h2 => by omega : ∀ t, 1 ≤ t → t < 1 → _), Below.refl _ _⟩
  case round =>
    obtain ⟨j, rfl, rfl, hj1, hj, HMV, hB⟩ := hrel
    by_cases hlt : j ≤ n
    · have hji : (j : Int) ≤ n := by omega
      have hdec : decide ((j : Int) ≤ n) = true := by simp; omega
      obtain ⟨i, rfl⟩ : ∃ i, j = i + 1 := ⟨j - 1, by omega⟩
      have hr1 := HRW.out i (by omega)
      have hr2 := HRW.out (i + 1) hlt
      have hrs : rowsN n (i + 1) = rowsN n i * (n - i) := rfl
      have hst := HST.out (i + 1) hlt
      have hle := HLE.out (i + 1)
      have D1 := C1 (i + 1) (by omega)
      obtain ⟨q, Hq⟩ : ∃ q, Hid (rowsN n i = q) := ⟨_, rfl⟩
      obtain ⟨q', Hq'⟩ : ∃ q', Hid (rowsN n (i + 1) = q') := ⟨_, rfl⟩
      obtain ⟨s, Hs⟩ : ∃ s, Hid ((L.map (ext n)).countP (fun x => decide (fixN (i + 1) x = i + 1)) = s) := ⟨_, rfl⟩
      rw [Hs.out] at hst hle D1
      rw [Hq'.out] at hst hrs hr2
      rw [Hq.out] at hrs hr1
      rw [show i + 1 - 1 = i by omega, Hq.out]
      have hmul : (q : Int) * ((n : Int) - ((i + 1 : Nat) : Int) + 1) = (q' : Int) := by
        rw [hrs]
        have : ((n - i : Nat) : Int) = (n : Int) - ((i + 1 : Nat) : Int) + 1 := by omega
        rw [← this]; simp
      obtain ⟨p, Hp⟩ : ∃ p, Hid (q' * s = p) := ⟨_, rfl⟩
      have hmul2 : (q' : Int) * (s : Int) = (p : Int) := by rw [← Hp.out]; simp
      have hpb : p ≤ 25401600 := by rw [← Hp.out]; exact Nat.mul_le_mul hr2 hle
      rw [Hp.out] at hst
      have HQQ : Hid (q' = q * (n - i)) := hrs
      obtain ⟨z, Hz⟩ : ∃ z : Int, Hid (((i + 1 : Nat) : Int) = z) := ⟨_, rfl⟩
      rw [Hz.out] at hmul hji hdec D1 ⊢
      have hzb : 1 ≤ z ∧ z ≤ 7 := by have := Hz.out; omega
      have hnz : (0 : Int) ≤ (n : Int) - z := by omega
      clear hrs
      by_cases e : p = o
      · subst e
        have hpp : ((p : Int) != (p : Int)) = false := by simp
        have HMO : Hid (Moves n (Gen n ms) (i + 1)) := hst.2 rfl
        clear hst
        go_wp2_with (first
          | (go_at_call 67; refine (D1 _ hB).mono ?_; rintro e w1 ⟨rfl, b1⟩; replace b1 := Below.next hB b1)
          | (go_at_call 39; refine (C2 _ b1).mono ?_; rintro e w2 ⟨rfl, rfl⟩))
        go_roundw
        case rel =>
          refine ⟨i + 1 + 1, ?_, ?_, by omega, by omega, (fun t h1 h2 => ?_ : ∀ t, 1 ≤ t → t < i + 1 + 1 → _), b1⟩
          · have := Hz.out; go_num
          · rw [show i + 1 + 1 - 1 = i + 1 by omega, Hq'.out]
          · by_cases e : t = i + 1
            · rw [e]; exact HMO.out
            · exact HMV.out t h1 (by omega)
        case measure => have := Hz.out; simp [intOf]; omega
      · have hpp : ((p : Int) != (o : Int)) = true := by simp; omega
        have HMO : Hid (¬ Moves n (Gen n ms) (i + 1)) := fun h => e (hst.1 h)
        clear hst e
        go_wp2_with (first
          | (go_at_call 67; refine (D1 _ hB).mono ?_; rintro e w1 ⟨rfl, b1⟩; replace b1 := Below.next hB b1)
          | (go_at_call 39; refine (C2 _ b1).mono ?_; rintro e w2 ⟨rfl, rfl⟩))
        go_ret
        refine ⟨⟨i, ?_, by omega, fun t h1 h2 => HMV.out t h1 (by omega), fun _ => HMO.out⟩, b1⟩
        have := Hz.out
        exact ret_int (by omega)
    · obtain rfl : j = n + 1 := by omega
      have hkd : decide (((n + 1 : Nat) : Int) ≤ (n : Int)) = false := by simp; omega
      go_wp2
      go_ret
      exact ⟨⟨n, rfl, Nat.le_refl _, fun t h1 h2 => HMV.out t h1 (by omega), fun h => absurd h (by omega)⟩, hB⟩

set_option maxRecDepth 100000 in
set_option maxHeartbeats 1000000 in
theorem Deep_ok (n : Nat) (ms : List (List Nat)) (v : Value) (w : World) (h : Mk n ms v w) :
    Calls Try.prog 20 #[.int .i64 (n : Int), v] w fun e w' => (∃ d : Nat, e = .returned (.tuple #[.int .i64 (d : Int), .int .i64 0]) ∧ DeepIs n ms d) ∧ Below w.heap.size w w' := by
  have C1 := h.check
  have C2 := fun W (hb : Below w.heap.size w W) => (h.below hb).moves
  have C3 := fun x W hx => h.made x W hx
  have C4 := fun base G (L : List (List Nat)) W (hM : Mem base W G (L.map (ext n))) (nd : L.Nodup) (hg : ∀ a, a ∈ L ↔ Gen n ms a) => deep_any n base G ms L W h.n7 h.isP hM nd hg
  have hn7 := h.n7
  clear h
  go_enter Try.func20, Try.ntmps20
  go_wp2_with (first
    | (go_at_call 10; refine C1.mono ?_; rintro e w1 ⟨rfl, b1⟩)
    | (go_at_call 38; refine (C2 _ b1).mono ?_; rintro e w2 ⟨⟨x, rfl, hx⟩, b2⟩; replace b2 := Below.next b1 b2)
    | (go_at_call 37; refine (C3 _ _ hx).mono ?_; rintro e w3 ⟨⟨G, L, rfl, hM, nd, hg⟩, b3⟩; replace b3 := Below.next b2 b3)
    | (go_at_call 49; refine (C4 _ _ _ _ hM nd hg).mono ?_; rintro e w4 ⟨⟨d, rfl, hd⟩, b4⟩; replace b4 := Below.next b3 b4))
  exact bodyPost_ret (v := .tuple #[.int .i64 (d : Int), .int .i64 0]) (by simp [results, Try.results20, go_sem]) rfl ⟨⟨d, rfl, hd⟩, b4⟩

/-- How many members leave just k points where they are. -/
noncomputable def fixG (n : Nat) (ms : List (List Nat)) (k : Nat) : Nat := fixC n (els n (Gen n ms)) k
theorem fix_same {n : Nat} {ms L : List (List Nat)} (hm : ∀ m ∈ ms, IsP n m) (hn : n ≤ 7) (nd : L.Nodup) (h : ∀ a, a ∈ L ↔ Gen n ms a) (k : Nat) : fixC n (L.map (ext n)) k = fixG n ms k := by
  unfold fixG fixC
  rw [List.countP_map, (gen_perm hm nd h).countP_eq]
  refine List.countP_congr fun a _ => ?_
  simp only [Function.comp, decide_eq_true_eq]
  rw [fix_ext hn (Nat.le_refl _)]

set_option maxRecDepth 100000 in
set_option maxHeartbeats 1000000 in
theorem Fixed_ok (n : Nat) (ms : List (List Nat)) (v : Value) (w : World) (h : Mk n ms v w) :
    Calls Try.prog 22 #[.int .i64 (n : Int), v] w fun e w' => (∃ y, e = .returned (.tuple #[y, .int .i64 0]) ∧ Sl w' y ((List.range (n + 1)).map fun k => (fixG n ms k : Int))) ∧ Below w.heap.size w w' := by
  have C1 := h.check
  have C2 := fun W (hb : Below w.heap.size w W) => (h.below hb).moves
  have C3 := fun x W hx => h.made x W hx
  have C4 := fun base G (L : List (List Nat)) W (hM : Mem base W G (L.map (ext n))) (nd : L.Nodup) (hg : ∀ a, a ∈ L ↔ Gen n ms a) => fixed_any base G n _ W hM (by rw [List.length_map]; exact (gen_bound h.isP h.n7 nd hg).1) (by rw [List.length_map]; have := (gen_bound h.isP h.n7 nd hg).2; omega) h.n7
  have HFS : Hid (∀ (L : List (List Nat)) k, L.Nodup → (∀ a, a ∈ L ↔ Gen n ms a) → fixC n (L.map (ext n)) k = fixG n ms k) := fun L k nd hg => fix_same h.isP h.n7 nd hg k
  clear h
  go_enter Try.func22, Try.ntmps22
  go_wp2_with (first
    | (go_at_call 10; refine C1.mono ?_; rintro e w1 ⟨rfl, b1⟩)
    | (go_at_call 38; refine (C2 _ b1).mono ?_; rintro e w2 ⟨⟨x, rfl, hx⟩, b2⟩; replace b2 := Below.next b1 b2)
    | (go_at_call 37; refine (C3 _ _ hx).mono ?_; rintro e w3 ⟨⟨G, L, rfl, hM, nd, hg⟩, b3⟩; replace b3 := Below.next b2 b3)
    | (go_at_call 51; refine (C4 _ _ _ _ hM nd hg).mono ?_; rintro e w4 ⟨⟨y, rfl, hy⟩, b4⟩; have HY : Hid (Sl w4 y ((List.range (n + 1)).map fun k => (fixC n (L.map (ext n)) k : Int))) := hy; clear hy; replace b4 := Below.next b3 b4))
  refine bodyPost_ret (v := .tuple #[y, .int .i64 0]) (by simp [results, Try.results22, go_sem]) rfl ⟨⟨y, rfl, ?_⟩, b4⟩
  have h := HY.out
  have e : ((List.range (n + 1)).map fun k => (fixC n (L.map (ext n)) k : Int)) = (List.range (n + 1)).map fun k => (fixG n ms k : Int) := List.map_congr_left fun k _ => by rw [HFS.out L k nd hg]
  rw [e] at h
  exact h

end Go.Proofs.Ytnbkabggmomhlaa
