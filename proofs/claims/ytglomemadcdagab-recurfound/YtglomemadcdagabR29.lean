/- The walks of begin where something is wrong, of states and behind. -/
import Derived.Test.YtglomemadcdagabR27
namespace Go.Proofs.Ytglomemadcdagab
open Go.RowKit

set_option maxHeartbeats 1000000 in
theorem begin_bad (p : Int) (l m : List Int) (v u : Value) (z : Int) (w : World) (hl : Sl w v l) (hll : l.length ≤ maxLen) (hm : Sl w u m) (hml : m.length ≤ maxLen) (hz : runF p l m = z) (hz0 : z ≠ 0) :
    Calls Try.prog 8 #[.int .i64 p, v, u] w fun e w' => e = .returned (.tuple #[.agg #[.int .i64 0, .slice none 0 0], .int .i64 0, .int .i64 z]) ∧ Below w.heap.size w w' := by
  have hB0 := balloc w (.cells #[.int .i64 0, .slice none 0 0] 32)
  have hR0 := RB.made w 0 (.slice none 0 0)
  by_cases h1 : tapsF p l = 0
  · have C := open_ok p l v (w.alloc (.cells #[.int .i64 0, .slice none 0 0] 32)) (hl.alloc _) hll h1
    obtain ⟨a, cap, rfl, _⟩ := id hl
    obtain ⟨a', cap', rfl, _⟩ := id hm
    have hlm : l.length ≤ 9223372036854775807 := by unfold maxLen at hll; omega
    have hmm : m.length ≤ 9223372036854775807 := by unfold maxLen at hml; omega
    by_cases h2 : m.length = l.length
    · have h3 : belB p m = false := by
        cases h : belB p m
        · rfl
        · exact absurd (hz.symm.trans (runF_mk h1 h2 h)) hz0
      have hz1 : z = 1 := by rw [← hz]; unfold runF; rw [if_neg (by omega), if_neg (by omega), if_pos h3]
      subst hz1
      have hd : ((m.length : Int) != (l.length : Int)) = false := by simp; omega
      have H2 : Hid (m.length = l.length) := h2
      clear h2
      go_enter Try.func8, Try.ntmps8
      go_wp2_with (first
        | (go_at_call 13; refine C.mono ?_; rintro e w1 ⟨rfl, hb1⟩
           have hN := RB.made w1 0 (.slice none 0 0)
           have hB1 : Below w.heap.size w w1 := Below.next hB0 hb1
           have hRO := hR0.below hb1
           obtain ⟨w2, Hw2⟩ : ∃ w2, Hid (w2 = (w1.alloc (.cells #[.int .i64 0, .slice none 0 0] 32)).setRow w1.heap.size #[.int .i64 p, .slice a l.length cap]) := ⟨_, rfl⟩
           have hlt1 := hRO.lt
           have hRO2 : RB w2 w.heap.size 0 (.slice none 0 0) := by rw [Hw2.out]; exact (hRO.below (balloc w1 _)).wholeOther _ _ (by omega)
           have hB2 : Below w.heap.size w w2 := by rw [Hw2.out]; exact bsetRow (hB1.alloc hB1.size _) hB1.size _
           have D := allBelow_any m _ p w2 (hm.below hB2) hml
           rw [h3] at D
           have hRc := (hRO2.whole 0 (.slice none 0 0)).cells)
        | (refine wpList_store_row rfl 32 _ _ rfl w1.heap.size #[.int .i64 p, .slice a l.length cap] rfl rfl 32 _ hN inf47 rfl (one2 _ _ rfl) ?_; rw [← Hw2.out])
        | (go_at_call 11; refine D.mono ?_; rintro e w' ⟨rfl, rfl⟩)
        | (refine wpList_store_row rfl 32 _ _ rfl w.heap.size #[.int .i64 0, .slice none 0 0] rfl rfl 32 _ hRO2 inf47 rfl (one2 _ _ rfl) ?_))
      exact bodyPost_ret (v := .tuple #[.agg #[.int .i64 0, .slice none 0 0], .int .i64 0, .int .i64 1]) (by simp [results, Try.results8, go_sem, hRc]) rfl ⟨rfl, bsetRow hB2 (Nat.le_refl _) _⟩
    · have hz1 : z = 2 := by rw [← hz]; unfold runF; rw [if_neg (by omega), if_pos h2]
      subst hz1
      have hd : ((m.length : Int) != (l.length : Int)) = true := by simp; omega
      have H2 : Hid (¬ m.length = l.length) := h2
      clear h2
      go_enter Try.func8, Try.ntmps8
      go_wp2_with (first
        | (go_at_call 13; refine C.mono ?_; rintro e w1 ⟨rfl, hb1⟩
           have hN := RB.made w1 0 (.slice none 0 0)
           have hB1 : Below w.heap.size w w1 := Below.next hB0 hb1
           have hRO := hR0.below hb1
           obtain ⟨w2, Hw2⟩ : ∃ w2, Hid (w2 = (w1.alloc (.cells #[.int .i64 0, .slice none 0 0] 32)).setRow w1.heap.size #[.int .i64 p, .slice a l.length cap]) := ⟨_, rfl⟩
           have hlt1 := hRO.lt
           have hRO2 : RB w2 w.heap.size 0 (.slice none 0 0) := by rw [Hw2.out]; exact (hRO.below (balloc w1 _)).wholeOther _ _ (by omega)
           have hB2 : Below w.heap.size w w2 := by rw [Hw2.out]; exact bsetRow (hB1.alloc hB1.size _) hB1.size _
           have hRc := (hRO2.whole 0 (.slice none 0 0)).cells)
        | (refine wpList_store_row rfl 32 _ _ rfl w1.heap.size #[.int .i64 p, .slice a l.length cap] rfl rfl 32 _ hN inf47 rfl (one2 _ _ rfl) ?_; rw [← Hw2.out])
        | (refine wpList_store_row rfl 32 _ _ rfl w.heap.size #[.int .i64 0, .slice none 0 0] rfl rfl 32 _ hRO2 inf47 rfl (one2 _ _ rfl) ?_))
      exact bodyPost_ret (v := .tuple #[.agg #[.int .i64 0, .slice none 0 0], .int .i64 0, .int .i64 2]) (by simp [results, Try.results8, go_sem, hRc]) rfl ⟨rfl, bsetRow hB2 (Nat.le_refl _) _⟩
  · have hz1 : tapsF p l = z := by rw [← hz]; unfold runF; rw [if_pos h1]
    have C := open_bad p l v z (w.alloc (.cells #[.int .i64 0, .slice none 0 0] 32)) (hl.alloc _) hll hz1 hz0
    have hd : (z != 0) = true := by simpa using hz0
    go_enter Try.func8, Try.ntmps8
    go_wp2_with (first
      | (go_at_call 13; refine C.mono ?_; rintro e w1 ⟨rfl, hb1⟩
         have hN := RB.made w1 0 (.slice none 0 0)
         have hB1 : Below w.heap.size w w1 := Below.next hB0 hb1
         have hRO := hR0.below hb1
         obtain ⟨w2, Hw2⟩ : ∃ w2, Hid (w2 = (w1.alloc (.cells #[.int .i64 0, .slice none 0 0] 32)).setRow w1.heap.size #[.int .i64 0, .slice none 0 0]) := ⟨_, rfl⟩
         have hlt1 := hRO.lt
         have hRO2 : RB w2 w.heap.size 0 (.slice none 0 0) := by rw [Hw2.out]; exact (hRO.below (balloc w1 _)).wholeOther _ _ (by omega)
         have hB2 : Below w.heap.size w w2 := by rw [Hw2.out]; exact bsetRow (hB1.alloc hB1.size _) hB1.size _
         have hRc := (hRO2.whole 0 (.slice none 0 0)).cells)
      | (refine wpList_store_row rfl 32 _ _ rfl w1.heap.size #[.int .i64 0, .slice none 0 0] rfl rfl 32 _ hN inf47 rfl (one2 _ _ rfl) ?_; rw [← Hw2.out])
      | (refine wpList_store_row rfl 32 _ _ rfl w.heap.size #[.int .i64 0, .slice none 0 0] rfl rfl 32 _ hRO2 inf47 rfl (one2 _ _ rfl) ?_))
    exact bodyPost_ret (v := .tuple #[.agg #[.int .i64 0, .slice none 0 0], .int .i64 0, .int .i64 z]) (by simp [results, Try.results8, go_sem, hRc]) rfl ⟨rfl, bsetRow hB2 (Nat.le_refl _) _⟩

set_option maxHeartbeats 600000 in
theorem states_any (P k : Nat) (a : Option Addr) (cap : Nat) (w : World) (hp : 2 ≤ P) (hp' : P ≤ 7) (hk : k ≤ 8) :
    Calls Try.prog 18 #[.agg #[.int .i64 P, .slice a k cap]] w fun e w' => e = .returned (.int .i64 ((P : Int) ^ k)) ∧ Below w.heap.size w w' := by
  have hB0 := balloc w (.cells #[.int .i64 P, .slice a k cap] 32)
  have hk9 : k ≤ 9223372036854775807 := by omega
  go_enter Try.func18, Try.ntmps18
  go_wp2_with (go_at_call 22; refine (power_any P k _ hp hp' hk).mono ?_; rintro e w' ⟨rfl, rfl⟩)
  go_ret
  exact ⟨rfl, hB0⟩

set_option maxHeartbeats 1000000 in
theorem behind_any (P k : Nat) (l : List Int) (v : Value) (f : Nat → Int) (x : Int) (w : World) (hl : Sl w v l) (hk' : l.length = k) (hp : 2 ≤ P) (hp' : P ≤ 7) (hk : k ≤ 8) (hb : belB P l = true) (hf : digs P f) (hx : x = numP P f k) :
    Calls Try.prog 20 #[.agg #[.int .i64 P, v], .int .i64 x] w fun e w' => e = .returned (.int .i64 (sumTo (fun j => l.getD j 0 * f (k - 1 - j)) k % P)) ∧ Below w.heap.size w w' := by
  have HT : Hid (∀ j, j < k → 0 ≤ l.getD j 0 ∧ l.getD j 0 < P) := by show ∀ j, j < k → _; rw [← hk']; exact belB_iff.1 hb
  obtain ⟨a, cap, rfl, hc⟩ := hl
  rw [hk'] at hc ⊢
  have HC : Hid (∀ j, j < k → ∃ b off, a = some ⟨b, off, none⟩ ∧ w.cell? ⟨b, off + j, none⟩ = some (.int .i64 (l.getD j 0))) := hc
  obtain ⟨res, Hres⟩ : ∃ z : Int, Hid (z = sumTo (fun j => l.getD j 0 * f (k - 1 - j)) k % P) := ⟨_, rfl⟩
  rw [← Hres.out]
  have HK : Hid (l.length = k) := hk'
  have HX : Hid (x = numP P f k) := hx
  clear hc hk' hx
  have hB0 := balloc w (.cells #[.int .i64 P, .slice a k cap] 32)
  have HB : Hid (∀ b o, b < w.heap.size → (w.alloc (.cells #[.int .i64 P, .slice a k cap] 32)).cell? ⟨b, o, none⟩ = w.cell? ⟨b, o, none⟩) := (bcell hB0).1
  go_enter Try.func20, Try.ntmps20
  go_wp2
  go_loopw [1, 5, 6] (fun y s i wr => ∃ (r t : Int) (j : Int), y = .int .i64 r ∧ s = .int .i64 t ∧ i = .int .i64 j ∧ -1 ≤ j ∧ j < k ∧ Hid (r = numP P (fun u => f ((k - 1 - j).toNat + u)) (j + 1).toNat) ∧ Hid (t = sumTo (fun u => l.getD (k - 1 - u) 0 * f u) (k - 1 - j).toNat) ∧ RB wr w.heap.size P (.slice a k cap) ∧ Below w.heap.size w wr) (fun _ _ i _ => (intOf i + 1).toNat)
  case atStart =>
    refine ⟨x, 0, (k : Int) - 1, rfl, rfl, by go_num, by omega, by omega, ?_, ?_, RB.made w _ _, hB0⟩
    · show x = numP P (fun u => f (((k : Int) - 1 - ((k : Int) - 1)).toNat + u)) ((k : Int) - 1 + 1).toNat
      rw [HX.out, show ((k : Int) - 1 + 1).toNat = k by omega]
      exact numP_congr (fun j _ => by rw [show ((k : Int) - 1 - ((k : Int) - 1)).toNat + j = j by omega])
    · show 0 = sumTo _ ((k : Int) - 1 - ((k : Int) - 1)).toNat
      rw [show ((k : Int) - 1 - ((k : Int) - 1)).toNat = 0 by omega]; rfl
  case round =>
    obtain ⟨r, t, j, rfl, rfl, rfl, hj1, hj2, HR, HS, hRB, hB⟩ := hrel
    have hrc := hRB.cells
    have hr1 := hrc.1
    have hr2 := hrc.2
    clear hrc
    by_cases hlt : 0 ≤ j
    · obtain ⟨i, rfl⟩ := Int.eq_ofNat_of_zero_le hlt
      obtain ⟨b, off, rfl, hca0⟩ := HC.out i (by omega)
      have hca := (hB.cell (p := ⟨b, off + i, none⟩) (block_lt_of_cell hca0)).trans hca0
      obtain ⟨z, Hz⟩ : ∃ z : Int, Hid (z = l.getD i 0) := ⟨_, rfl⟩
      have hz := HT.out i (by omega)
      rw [← Hz.out] at hz hca
      have hdg := hf.shift ((k : Int) - 1 - (i : Int)).toNat
      have hnb := numP_bd (p := (P : Int)) (by omega) hdg (i + 1)
      have hpw := pow_bd (p := (P : Int)) (k := i + 1) (by omega) (by omega) (by omega)
      have hmod := numP_mod hdg i
      have hdiv := numP_div (by omega) hdg i
      have HRe : Hid (r = numP P (fun u => f (((k : Int) - 1 - (i : Int)).toNat + u)) (i + 1)) := HR.out
      rw [← HRe.out] at hnb hmod hdiv
      have hr0 : 0 ≤ r := hnb.1
      have hr9 : r < 5764801 := by omega
      obtain ⟨q, Hq⟩ : ∃ q : Int, Hid (q = r % P) := ⟨_, rfl⟩
      have Hq2 : Hid (q = f ((k : Int) - 1 - (i : Int)).toNat) := by show q = _; rw [Hq.out, hmod]; rfl
      have hq0 : 0 ≤ q ∧ q < P := by rw [Hq2.out]; exact hf _
      obtain ⟨d, Hd⟩ : ∃ d : Int, Hid (d = r / P) := ⟨_, rfl⟩
      have hts := sumTo_bd (f := fun u => l.getD (k - 1 - u) 0 * f u) (n := ((k : Int) - 1 - (i : Int)).toNat) (B := 36) (fun u hu => by
        have h1 := HT.out (k - 1 - u) (by omega)
        have h2 := hf u
        exact ⟨Int.mul_nonneg h1.1 h2.1, Int.le_trans (Int.mul_le_mul (show _ ≤ 6 by omega) (show _ ≤ 6 by omega) h2.1 (by omega)) (by omega)⟩)
      rw [← HS.out] at hts
      have ht0 : 0 ≤ t := hts.1
      have ht9 : t ≤ 288 := by have := hts.2; omega
      have hzq0 : 0 ≤ z * q := Int.mul_nonneg hz.1 hq0.1
      have hzq9 : z * q ≤ 36 := Int.le_trans (Int.mul_le_mul (show z ≤ 6 by omega) (show q ≤ 6 by omega) hq0.1 (by omega)) (by omega)
      have hmr : r % (P : Int) = q := Hq.out.symm
      have hdr : r / (P : Int) = d := Hd.out.symm
      have HDV : Hid (d = numP P (fun u => f (((k : Int) - 1 - (i : Int)).toNat + (u + 1))) i) := by show d = _; rw [Hd.out, hdiv]
      have hd0 : 0 ≤ d := by rw [Hd.out]; exact Int.ediv_nonneg hr0 (by omega)
      have hd9 : d ≤ 5764801 := by rw [Hd.out]; exact Int.le_trans (Int.ediv_le_self _ hr0) (by omega)
      clear hnb hpw hmod hdiv hts HR
      go_wp2
      go_quiet (fail)
      go_wp2
      go_roundw
      case rel =>
        refine ⟨d, t + z * q, (i : Int) - 1, by go_num, by go_num, by go_num, by omega, by omega, ?_, ?_, hRB, bdrewN hB _⟩
        · show d = numP P (fun u => f (((k : Int) - 1 - ((i : Int) - 1)).toNat + u)) ((i : Int) - 1 + 1).toNat
          rw [HDV.out, show ((i : Int) - 1 + 1).toNat = i by omega]
          exact numP_congr (fun u _ => by rw [show ((k : Int) - 1 - ((i : Int) - 1)).toNat + u = ((k : Int) - 1 - (i : Int)).toNat + (u + 1) by omega])
        · show t + z * q = sumTo (fun u => l.getD (k - 1 - u) 0 * f u) ((k : Int) - 1 - ((i : Int) - 1)).toNat
          rw [show ((k : Int) - 1 - ((i : Int) - 1)).toNat = ((k : Int) - 1 - (i : Int)).toNat + 1 by omega, sumTo, ← HS.out, ← Hq2.out, show k - 1 - ((k : Int) - 1 - (i : Int)).toNat = i by omega, ← Hz.out]
      case measure => simp [intOf]
    · obtain rfl : j = -1 := by omega
      have hts := sumTo_bd (f := fun u => l.getD (k - 1 - u) 0 * f u) (n := k) (B := 36) (fun u hu => by
        have h1 := HT.out (k - 1 - u) (by omega)
        have h2 := hf u
        exact ⟨Int.mul_nonneg h1.1 h2.1, Int.le_trans (Int.mul_le_mul (show _ ≤ 6 by omega) (show _ ≤ 6 by omega) h2.1 (by omega)) (by omega)⟩)
      have HS2 : Hid (t = sumTo (fun u => l.getD (k - 1 - u) 0 * f u) k) := by show t = _; rw [HS.out, show ((k : Int) - 1 - (-1)).toNat = k by omega]
      rw [← HS2.out] at hts
      have ht0 : 0 ≤ t := hts.1
      have hres : t % (P : Int) = res := by
        rw [Hres.out, HS2.out, ← sumTo_rev (fun j => l.getD j 0 * f (k - 1 - j)) k]
        exact congrArg (· % (P : Int)) (sumTo_congr (fun u hu => by show _ = l.getD (k - 1 - u) 0 * f (k - 1 - (k - 1 - u)); rw [show k - 1 - (k - 1 - u) = u by omega]))
      clear hts
      go_wp2
      go_ret
      exact ⟨rfl, hB⟩

end Go.Proofs.Ytglomemadcdagab
