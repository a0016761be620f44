/- The law CountRound, walked. -/
import Derived.Test.YtmaplmgecohjbaaC14
import Derived.Test.YtmaplmgecohjbaaC7
import Derived.Test.YtmaplmgecohjbaaCTurn
import Derived.Maps.AppendAt
namespace Go.Proofs.Ytmaplmgecohjbaa
open Go.RowKit Go.Maps

theorem vl_snoc (l : List Nat) (x : Nat) : vl (l ++ [x]) = vl l ++ [.int .i64 (x : Int)] := by simp [vl]
theorem turnL_succ (n k : Nat) : ((List.range (k + 1)).map fun i => (i + 1) % n) = ((List.range k).map fun i => (i + 1) % n) ++ [(k + 1) % n] := by rw [List.range_succ, List.map_append]; rfl
theorem overL_succ (n k : Nat) : ((List.range (k + 1)).map fun i => n - 1 - i) = ((List.range k).map fun i => n - 1 - i) ++ [n - 1 - k] := by rw [List.range_succ, List.map_append]; rfl
theorem mk_one {n : Nat} {W : World} {t : Value} (h1 : 1 ≤ n) (hn : n ≤ 7) (ht : Sl W t ((turnL n).map Int.ofNat)) : Mk n [turnL n] (.slice (some ⟨W.heap.size, 0, none⟩) 1 1) (W.alloc (.cells #[t] 40)) := by
  refine ⟨h1, hn, by simp, fun m hm => by rw [List.mem_singleton.1 hm]; exact turn_isP hn, ⟨_, 1, rfl, fun i l hl => ?_⟩⟩
  have hi : i = 0 := by have := (List.getElem?_eq_some_iff.1 hl).1; simpa using this
  subst hi
  have hl' : turnL n = l := by simpa using hl
  subst hl'
  exact ⟨W.heap.size, 0, t, rfl, by rw [cell_of_row _ _ _ _ _ _ (heap_alloc_new W _)]; rfl, ht.alloc _⟩
theorem mk_two {n : Nat} {W : World} {t o : Value} (h1 : 1 ≤ n) (hn : n ≤ 7) (ht : Sl W t ((turnL n).map Int.ofNat)) (ho : Sl W o ((overL n).map Int.ofNat)) : Mk n [turnL n, overL n] (.slice (some ⟨W.heap.size, 0, none⟩) 2 2) (W.alloc (.cells #[t, o] 40)) := by
  refine ⟨h1, hn, by simp, fun m hm => ?_, ⟨_, 2, rfl, fun i l hl => ?_⟩⟩
  · rcases List.mem_cons.1 hm with h | h
    · rw [h]; exact turn_isP hn
    · rw [List.mem_singleton.1 h]; exact over_isP hn
  · have hi : i < 2 := by have := (List.getElem?_eq_some_iff.1 hl).1; simpa using this
    rcases (show i = 0 ∨ i = 1 by omega) with rfl | rfl
    · have hl' : turnL n = l := by simpa using hl
      subst hl'
      exact ⟨W.heap.size, 0, t, rfl, by rw [cell_of_row _ _ _ _ _ _ (heap_alloc_new W _)]; rfl, ht.alloc _⟩
    · have hl' : overL n = l := by simpa using hl
      subst hl'
      exact ⟨W.heap.size, 0, o, rfl, by rw [cell_of_row _ _ _ _ _ _ (heap_alloc_new W _)]; rfl, ho.alloc _⟩

set_option maxRecDepth 100000 in
set_option maxHeartbeats 4000000 in
theorem CountRound_ok (n k : Nat) (w : World) (h1 : 1 ≤ n) (hn : n ≤ 7) (hk : 1 ≤ k) (hk2 : k ≤ 200) :
    Calls Try.prog 8 #[.int .i64 (n : Int), .int .i64 (k : Int)] w fun e w' => e = .returned (.bool true) ∧ Below w.heap.size w w' := by
  obtain ⟨i3, ti, tz0, tz1, tz2⟩ := info3
  have hpw : k ^ n ≤ 1000000000000000000 := Nat.le_trans (Nat.pow_le_pow_right hk hn) (Nat.le_trans (Nat.pow_le_pow_left hk2 7) (by decide))
  have hrf : ringF n k = 0 := ringF_ok h1 hk hpw
  have hbv : beadsV n k = (colG n k [turnL n] : Int) := by
    unfold beadsV
    rw [hrf, if_pos rfl, round_rings h1 hn hk]
    by_cases e : k = 1
    · subst e
      rw [if_pos (by rfl)]
      have h2 := ring_eq (k := 1) (n := n) h1 (by omega)
      have h3 : turnS n 1 = n := by
        unfold turnS
        rw [sumN_congr (g := fun _ => 1) fun i _ => by rw [Nat.one_pow]; rfl, sumN_const, Int.mul_one]
      rw [h3] at h2
      have h4 : docB n 1 * n = 1 * n := by rw [h2, Int.one_mul]
      exact (Int.eq_of_mul_eq_mul_right (show (n : Int) ≠ 0 by omega) h4).symm
    · rw [if_neg (by omega), Int.toNat_natCast, Int.toNat_natCast]
  have hbr : bracV n k = (colG n k [turnL n, overL n] : Int) := by
    unfold bracV
    rw [hrf, if_pos rfl, round_brac h1 hn hk]
    by_cases e : k = 1
    · subst e
      rw [if_pos (by rfl)]
      have h2 := ring_eq (k := 1) (n := n) h1 (by omega)
      have h3 : turnS n 1 = n := by
        unfold turnS
        rw [sumN_congr (g := fun _ => 1) fun i _ => by rw [Nat.one_pow]; rfl, sumN_const, Int.mul_one]
      have h5 : reflS n 1 = n := by
        unfold reflS
        rw [sumN_congr (g := fun _ => 1) fun i _ => by rw [Nat.one_pow]; rfl, sumN_const, Int.mul_one]
      rw [← brac_eq (k := 1) h1 (by omega), h3, h5, ← Int.two_mul]
      exact (Int.tdiv_self (by omega)).symm
    · rw [if_neg (by omega), Int.toNat_natCast, Int.toNat_natCast]
  have CB := fun W => Beads_any n k W (by omega) (by omega)
  have CR := fun W => Bracelets_any n k W (by omega) (by omega)
  rw [hrf, hbv] at CB
  rw [hrf, hbr] at CR
  obtain ⟨c1, Hc1⟩ : ∃ c1, Hid (colG n k [turnL n] = c1) := ⟨_, rfl⟩
  obtain ⟨c2, Hc2⟩ : ∃ c2, Hid (colG n k [turnL n, overL n] = c2) := ⟨_, rfl⟩
  rw [Hc1.out] at CB
  rw [Hc2.out] at CR
  have hd1 : decide ((n : Int) < 1) = false := by simp; omega
  have hd2 : decide ((7 : Int) < n) = false := by simp; omega
  have hd3 : decide ((k : Int) < 1) = false := by simp; omega
  have hd4 : decide ((200 : Int) < k) = false := by simp; omega
  have hn0 : (n : Int) ≠ 0 := by omega
  have hnp : (0 : Int) < n := by omega
  clear hpw hrf hbv hbr
  go_enter Try.func8, Try.ntmps8
  go_wp2_with (go_at_call 24; refine (beads_true _).mono ?_; rintro e w1 ⟨rfl, b1⟩)
  have HB1 : Hid (Below w.heap.size w w1) := b1
  have hsw1 := b1.size
  clear b1
  go_loopw [6, 7, 8] (fun t o i wr => ∃ j : Nat, i = .int .i64 (j : Int) ∧ j ≤ n ∧ wr.ownsRow w1.heap.size 3 1 t j (vl ((List.range j).map fun i => (i + 1) % n)) ∧ wr.ownsRow w1.heap.size 3 1 o j (vl ((List.range j).map fun i => n - 1 - i)) ∧ Hid (∀ g, t.ownBlock = some g → o.ownBlock ≠ some g) ∧ Below w1.heap.size w1 wr) (fun _ _ i _ => (n - intOf i).toNat)
  case atStart => exact ⟨0, rfl, by omega, World.ownsRow_nil _ _ _ _, World.ownsRow_nil _ _ _ _, (fun g h => by simp [Value.ownBlock] at h : ∀ g, (Value.slice none 0 0).ownBlock = some g → _), Below.refl _ _⟩
  case round =>
    obtain ⟨j, rfl, hj, hT, hO, HNE, hB⟩ := hrel
    have hsz := hB.size
    by_cases hlt : j < n
    · have hji : (j : Int) < n := by omega
      have hdec : decide ((j : Int) < n) = true := by simp; omega
      have hmo : ((j : Int) + 1) % (n : Int) = (((j + 1) % n : Nat) : Int) := by simp
      have hsu : (n : Int) - 1 - (j : Int) = ((n - 1 - j : Nat) : Int) := by omega
      obtain ⟨x, Hx⟩ : ∃ x, Hid ((j + 1) % n = x) := ⟨_, rfl⟩
      obtain ⟨y, Hy⟩ : ∃ y, Hid (n - 1 - j = y) := ⟨_, rfl⟩
      rw [Hx.out] at hmo
      rw [Hy.out] at hsu
      obtain ⟨t, rfl⟩ : ∃ t, t = u6 := ⟨_, rfl⟩
      obtain ⟨o, rfl⟩ : ∃ o, o = u7 := ⟨_, rfl⟩
      go_wp2_with (first
        | (at_builtin; refine wpList_append_own_at _ rfl _ _ 40 rfl w1.heap.size 3 i3 (.int .i64 0) 1 8 und22 ti tz0 tz1 tz2 rfl (by decide) _ _ _ rfl (hT.alloc _) ⟨wr.heap.size, 0, none⟩ 1 1 [.int .i64 (x : Int)] rfl rfl ?c1 ?c2 ?c3 ?c4 ?c5 ?_)
        | go_in)
      case c1 =>
        intro q u hq
        match q, hq with
        | 0, hq => simp at hq; subst hq; exact cell_new _ _ _ _ rfl
      case c2 => intro u hu; simp at hu; subst hu; rfl
      case c3 => unfold maxLen; omega
      case c4 => omega
      case c5 => simp; omega
      intro t' w2 hT2 hg2 _ hl2
      have hO2 : w2.ownsRow w1.heap.size 3 1 o j (vl ((List.range j).map fun i => n - 1 - i)) := (hO.alloc (.cells #[.int .i64 (x : Int)] 3)).kept hg2 (by
        cases ho : o.ownBlock with
        | none => exact .inl rfl
        | some g => exact .inr fun e => HNE.out g e.symm ho)
      have hN2 : ∀ g, t'.ownBlock = some g → o.ownBlock ≠ some g := fun g hg e => by
        rcases hl2 with h | h
        · exact HNE.out g (h ▸ hg) e
        · have := (hO.lt g e).2
          rw [h] at hg
          have := Option.some.inj hg
          omega
      have hU2 : Below w1.heap.size wr w2 := ((Below.refl _ _).alloc (by omega) _).grown hg2 (by simp; omega) (fun k hk => (hT.lt k hk).1)
      have hs2 := hU2.size
      have hB2 := hB.trans hU2
      have HN2 : Hid (∀ g, t'.ownBlock = some g → o.ownBlock ≠ some g) := hN2
      clear hU2 hg2 hl2 hT hO hB hN2 HNE
      go_wp2_with (first
        | (at_builtin; refine wpList_append_own_at _ rfl _ _ 40 rfl w1.heap.size 3 i3 (.int .i64 0) 1 8 und22 ti tz0 tz1 tz2 rfl (by decide) _ _ _ rfl (hO2.alloc _) ⟨w2.heap.size, 0, none⟩ 1 1 [.int .i64 (y : Int)] rfl rfl ?c1 ?c2 ?c3 ?c4 ?c5 ?_)
        | go_in)
      case c1 =>
        intro q u hq
        match q, hq with
        | 0, hq => simp at hq; subst hq; exact cell_new _ _ _ _ rfl
      case c2 => intro u hu; simp at hu; subst hu; rfl
      case c3 => unfold maxLen; omega
      case c4 => omega
      case c5 => simp; omega
      intro o' w3 hO3 hg3 _ hl3
      have hT3 := (hT2.alloc (.cells #[.int .i64 (y : Int)] 3)).kept hg3 (by
        cases ht : t'.ownBlock with
        | none => exact .inl rfl
        | some g => exact .inr fun e => HN2.out g ht e.symm)
      have HN3 : Hid (∀ g, t'.ownBlock = some g → o'.ownBlock ≠ some g) := fun g hg e => by
        rcases hl3 with h | h
        · exact HN2.out g hg (h ▸ e)
        · have := (hT2.lt g hg).2
          rw [h] at e
          have := Option.some.inj e
          omega
      have hU3 : Below w1.heap.size w2 w3 := ((Below.refl _ _).alloc (by omega) _).grown hg3 (by simp; omega) (fun k hk => (hO2.lt k hk).1)
      have hB3 := hB2.trans hU3
      clear hU3 hg3 hl3 hT2 hO2 hB2 HN2
      go_wp2
      go_roundw
      case rel =>
        refine ⟨j + 1, by go_num, by omega, ?_, ?_, HN3, hB3⟩
        · rw [turnL_succ, vl_snoc, Hx.out]; exact hT3
        · rw [overL_succ, vl_snoc, Hy.out]; exact hO3
      case measure => simp [intOf]; omega
    · have hdec : decide ((j : Int) < n) = false := by simp; omega
      obtain rfl : j = n := by omega
      obtain ⟨t, rfl⟩ : ∃ t, t = u6 := ⟨_, rfl⟩
      obtain ⟨o, rfl⟩ : ∃ o, o = u7 := ⟨_, rfl⟩
      have hTs : Sl wr t ((turnL j).map Int.ofNat) := own_vl (l := turnL j) hT (by simp [turnL])
      have hOs : Sl wr o ((overL j).map Int.ofNat) := own_vl (l := overL j) hO (by simp [overL])
      obtain ⟨gt, ct, rfl, _⟩ := Own.of (l := (turnL j).map Int.ofNat) hT (by omega)
      obtain ⟨go, co, rfl, _⟩ := Own.of (l := (overL j).map Int.ofNat) hO (by omega)
      have C1 := fun W (hb : Below wr.heap.size wr W) => Colourings_ok j k [turnL j] _ _ (mk_one h1 hn (hTs.below hb)) hk hk2
      have C2 := fun W (hb : Below wr.heap.size wr W) => Colourings_ok j k [turnL j, overL j] _ _ (mk_two h1 hn (hTs.below hb) (hOs.below hb)) hk hk2
      rw [Hc1.out] at C1
      rw [Hc2.out] at C2
      have HBr : Hid (Below w1.heap.size w1 wr) := hB
      clear hT hO hTs hOs HNE hB
      go_wp2_with (first
        | (go_at_call 10; refine (CB _).mono ?_; rintro e w2 ⟨rfl, b2⟩)
        | (go_at_call 20; refine (C1 w2 b2).mono ?_; rintro e w3 ⟨rfl, b3⟩; have b3' := Below.next b2 (Below.next (balloc w2 _) b3); clear C1)
        | (go_at_call 11; refine (CR _).mono ?_; rintro e w4 ⟨rfl, b4⟩; have b4' := Below.next b3' b4)
        | (go_at_call 20; refine (C2 w4 b4').mono ?_; rintro e w5 ⟨rfl, b5⟩; have b5' := Below.next b4' (Below.next (balloc w4 _) b5)))
      go_ret
      exact ⟨rfl, HB1.out.trans ((HBr.out.trans (b5'.mono hsz)).mono hsw1)⟩

set_option maxHeartbeats 400000 in
theorem CountRound_far (n k : Int) (w : World) (h : n < 1 ∨ 7 < n ∨ k < 1 ∨ 200 < k) :
    Calls Try.prog 8 #[.int .i64 n, .int .i64 k] w fun e w' => e = .returned (.bool true) ∧ Below w.heap.size w w' := by
  by_cases h1 : n < 1
  · go_enter Try.func8, Try.ntmps8
    go_wp2_with (go_at_call 24; refine (beads_true _).mono ?_; rintro e w1 ⟨rfl, b1⟩)
    go_ret
    exact ⟨rfl, b1⟩
  · have hd1 : decide (n < 1) = false := by simpa using h1
    by_cases h2 : 7 < n
    · have hd2 : decide (7 < n) = true := by simpa using h2
      go_enter Try.func8, Try.ntmps8
      go_wp2_with (go_at_call 24; refine (beads_true _).mono ?_; rintro e w1 ⟨rfl, b1⟩)
      go_ret
      exact ⟨rfl, b1⟩
    · have hd2 : decide (7 < n) = false := by simpa using h2
      by_cases h3 : k < 1
      · have hd3 : decide (k < 1) = true := by simpa using h3
        go_enter Try.func8, Try.ntmps8
        go_wp2_with (go_at_call 24; refine (beads_true _).mono ?_; rintro e w1 ⟨rfl, b1⟩)
        go_ret
        exact ⟨rfl, b1⟩
      · have hd3 : decide (k < 1) = false := by simpa using h3
        have h4 : 200 < k := by omega
        have hd4 : decide (200 < k) = true := by simpa using h4
        go_enter Try.func8, Try.ntmps8
        go_wp2_with (go_at_call 24; refine (beads_true _).mono ?_; rintro e w1 ⟨rfl, b1⟩)
        go_ret
        exact ⟨rfl, b1⟩
theorem CountRound_law (n k : Int) (w : World) (_ : (Lit.int .i64 n).wf = true) (_ : (Lit.int .i64 k).wf = true) :
    Calls Try.prog 8 #[.int .i64 n, .int .i64 k] w fun e w' => e = .returned (.bool true) ∧ Below w.heap.size w w' := by
  by_cases h : n < 1 ∨ 7 < n ∨ k < 1 ∨ 200 < k
  · exact CountRound_far n k w h
  · obtain ⟨N, rfl⟩ := Int.eq_ofNat_of_zero_le (show 0 ≤ n by omega)
    obtain ⟨K, rfl⟩ := Int.eq_ofNat_of_zero_le (show 0 ≤ k by omega)
    exact CountRound_ok N K w (by omega) (by omega) (by omega) (by omega)

end Go.Proofs.Ytmaplmgecohjbaa
