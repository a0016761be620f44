/- The walks of turns, turnsOver. -/
import Derived.Test.YtmaplmgecohjbaaC3
namespace Go.Proofs.Ytmaplmgecohjbaa
open Go.RowKit Go.Maps

theorem grown_of_below {A B : World} (h : Below A.heap.size A B) : A.grownBy B none := ⟨h.os, h.tape, h.output, h.size, fun k hk _ => h.block k hk⟩
theorem tally_below {w w' : World} {B n : Nat} {D : DataW Unit} (h : w.ownsMap Try.prog 3 (plainElem Try.prog 3) B n D) (hb : Below w.heap.size w w') : w'.ownsMap Try.prog 3 (plainElem Try.prog 3) B n D := h.kept (grown_of_below hb) (by simp)

/-- A new map of numbers has come. -/
def MapAns (w : World) (m N : Nat) (T : Nat → Int) (e : Ending) (w' : World) : Prop := ∃ (B : Nat) (D : DataW Unit), e = .returned (.map (some B)) ∧ w.heap.size ≤ B ∧ w'.ownsMap Try.prog 3 (plainElem Try.prog 3) B m D ∧ TallyIs D T N ∧ Below w.heap.size w w'

/-- So many turns among the first i lead on by c. -/
def turnT (n i c : Nat) : Int := sumN (fun j => if Nat.gcd n j = c then 1 else 0) i
theorem ind_nonneg (p : Nat → Prop) [DecidablePred p] (j : Nat) : (0 : Int) ≤ (if p j then 1 else 0) := by split <;> omega
theorem ind_sum_bd (p : Nat → Prop) [DecidablePred p] : ∀ i : Nat, 0 ≤ sumN (fun j => if p j then 1 else 0) i ∧ sumN (fun j => if p j then 1 else 0) i ≤ i
  | 0 => by simp [sumN]
  | i + 1 => by
    obtain ⟨h1, h2⟩ := ind_sum_bd p i
    rw [sumN]
    split <;> omega
theorem turnT_succ (n i c : Nat) : turnT n (i + 1) c = upd (turnT n i) (Nat.gcd n i) (turnT n i (Nat.gcd n i) + 1) c := by
  unfold upd turnT
  rw [sumN]
  by_cases e : c = Nat.gcd n i
  · rw [if_pos e, if_pos e.symm, e]
  · rw [if_neg e, if_neg (fun h => e h.symm), Int.add_zero]

set_option maxRecDepth 100000 in
set_option maxHeartbeats 1000000 in
theorem turns_any (n : Nat) (w : World) (h1 : 1 ≤ n) (hn : n ≤ 1000) :
    Calls Try.prog 29 #[.int .i64 (n : Int)] w fun e w' => MapAns w n (n + 2) (turnT n n) e w' := by
  have hmm := @run_makeMap Try.prog
  go_enter Try.func29, Try.ntmps29
  go_wp2
  go_loopw [7] (fun i wr => ∃ (k : Nat) (D : DataW Unit), i = .int .i64 (k : Int) ∧ k ≤ n ∧ wr.ownsMap Try.prog 3 (plainElem Try.prog 3) w.heap.size k D ∧ TallyIs D (turnT n k) (n + 2) ∧ Below w.heap.size w wr) (fun i _ => (n - intOf i).toNat)
  case atStart =>
    exact ⟨0, .map [], rfl, by omega, World.ownsMap_made _ _ _ _, (TallyIs.empty _).congr (fun c => rfl), balloc _ _⟩
  case round =>
    obtain ⟨k, D, rfl, hk, hown, hT, hB⟩ := hrel
    by_cases hlt : k < n
    · have hki : (k : Int) < n := by omega
      have hdec : decide ((k : Int) < n) = true := by simp; omega
      obtain ⟨g, Hg⟩ : ∃ g, Hid (Nat.gcd n k = g) := ⟨_, rfl⟩
      have hgn : g ≤ n := by rw [← Hg.out]; exact Nat.gcd_le_left _ (by omega)
      have hC := divisor_any n k
      rw [Hg.out] at hC
      have hbd : 0 ≤ turnT n k g ∧ turnT n k g ≤ k := ind_sum_bd (fun j => Nat.gcd n j = g) k
      go_wp2_with (first
        | (go_at_call 55; refine (hC _ (by omega) (by omega)).mono ?_; rintro e w1 ⟨rfl, hb1⟩; have hown1 := tally_below hown hb1; have hB1 := hB.trans (hb1.mono hB.size))
        | (at_lookup; refine wpList_lookup_own_int _ rfl _ _ 63 rfl 3 3 .i64 law3 und63 und3 (zero3 _) w.heap.size k _ rfl hown1 _ _ rfl (keyOf_int_mk und3 (WalkArith.wf_i64 (by omega))) ?_; intro c hat hwc; have hcx := hT.look (by omega) hat; have hc0 : 0 ≤ c := by rw [hcx]; exact hbd.1
           have hc1 : c ≤ k := by rw [hcx]; exact hbd.2)
        | (at_mapUpdate; refine wpList_mapUpdate_own _ rfl _ _ _ 63 rfl 3 3 law3 und63 _ w.heap.size _ _ rfl hown1 (by unfold maxLen; omega) _ _ _ rfl rfl (keyOf_int_mk und3 (WalkArith.wf_i64 (by omega))) _ [] (plainElem_int und3 (WalkArith.wf_i64 (by omega))) ?_; intro w2 hown2 hg2; go_frame)
        | go_in)
      go_roundw
      case rel =>
        refine ⟨k + 1, _, by go_num, by omega, hown2, ((hT.put (c := g) hown1.isMap (by omega) (v := turnT n k g + 1) (by omega))).congr (fun q => ?_), hB1.grown hg2 (by have := hB1.size; omega) (fun j hj => by cases hj; exact Nat.le_refl _)⟩
        rw [turnT_succ, Hg.out]
      case measure => simp [intOf]; omega
    · have hdec : decide ((k : Int) < n) = false := by simp; omega
      obtain rfl : k = n := by omega
      go_wp2
      go_ret
      exact ⟨w.heap.size, D, rfl, Nat.le_refl _, hown, hT, hB⟩

def overT (n i c : Nat) : Int := turnT n n c + sumN (fun j => if reflE n j = c then 1 else 0) i
theorem overT_succ (n i c : Nat) : overT n (i + 1) c = upd (overT n i) (reflE n i) (overT n i (reflE n i) + 1) c := by
  unfold upd overT
  rw [sumN]
  by_cases e : c = reflE n i
  · rw [if_pos e, if_pos e.symm, e]; omega
  · rw [if_neg e, if_neg (fun h => e h.symm), Int.add_zero]
theorem overT_bd (n i c : Nat) : 0 ≤ overT n i c ∧ overT n i c ≤ n + i := by
  have h1 := ind_sum_bd (fun j => Nat.gcd n j = c) n
  have h2 := ind_sum_bd (fun j => reflE n j = c) i
  unfold overT turnT
  omega
theorem reflE_le {n : Nat} (i : Nat) : reflE n i ≤ n + 1 := by unfold reflE; split <;> omega

set_option maxRecDepth 100000 in
set_option maxHeartbeats 1000000 in
theorem turnsOver_any (n : Nat) (w : World) (h1 : 1 ≤ n) (hn : n ≤ 1000) :
    Calls Try.prog 30 #[.int .i64 (n : Int)] w fun e w' => MapAns w (n + n) (n + 2) (overT n n) e w' := by
  go_enter Try.func30, Try.ntmps30
  go_wp2_with (go_at_call 29; refine (turns_any n _ h1 hn).mono ?_; rintro e w1 ⟨B, D0, rfl, hwB, hown0, hT0, hB0⟩)
  go_loopw [5, 9] (fun _ i wr => ∃ (k : Nat) (D : DataW Unit), i = .int .i64 (k : Int) ∧ k ≤ n ∧ wr.ownsMap Try.prog 3 (plainElem Try.prog 3) B (n + k) D ∧ TallyIs D (overT n k) (n + 2) ∧ Below w.heap.size w wr) (fun _ i _ => (n - intOf i).toNat)
  case atStart =>
    exact ⟨0, D0, rfl, by omega, hown0, hT0.congr (fun c => by simp [overT, sumN]), hB0⟩
  case round =>
    clear hown0 hT0 hB0
    obtain ⟨k, D, rfl, hk, hown, hT, hB⟩ := hrel
    by_cases hlt : k < n
    · have hki : (k : Int) < n := by omega
      have hdec : decide ((k : Int) < n) = true := by simp; omega
      obtain ⟨g, Hg⟩ : ∃ g, Hid (reflE n k = g) := ⟨_, rfl⟩
      have hgn : g ≤ n + 1 := by rw [← Hg.out]; exact reflE_le k
      have hbd := overT_bd n k g
      have hge := Hg.out
      unfold reflE at hge
      have hmn : (n : Int) % 2 = ((n % 2 : Nat) : Int) := by simp
      have hmk : (k : Int) % 2 = ((k % 2 : Nat) : Int) := by simp
      by_cases hn2 : n % 2 = 0
      · have hb1 : ((n : Int) % 2 == 0) = true := by rw [hmn, hn2]; rfl
        have hb1e : (n : Int) % 2 = 0 := by omega
        by_cases hk2 : k % 2 = 0
        · have hb2 : ((k : Int) % 2 == 0) = true := by rw [hmk, hk2]; rfl
          have hb2e : (k : Int) % 2 = 0 := by omega
          have hq : ((n : Int) + 2) / 2 = (g : Int) := by
            rw [if_pos ⟨hn2, hk2⟩] at hge; omega
          clear hmn hmk hge hn2 hk2
          go_wp2_with (first
            | (at_lookup; refine wpList_lookup_own_int _ rfl _ _ 63 rfl 3 3 .i64 law3 und63 und3 (zero3 _) B (n + k) _ rfl hown _ _ rfl (keyOf_int_mk und3 (WalkArith.wf_i64 (by omega))) ?_; intro c hat hwc; (try rw [hq] at hat); have hcx := hT.look (by omega) hat; have hc0 : 0 ≤ c := by rw [hcx]; exact hbd.1
               have hc1 : c ≤ n + k := by rw [hcx]; exact hbd.2)
            | (at_mapUpdate; refine wpList_mapUpdate_own _ rfl _ _ _ 63 rfl 3 3 law3 und63 _ B _ _ rfl hown (by unfold maxLen; omega) _ _ _ rfl rfl (keyOf_int_mk und3 (WalkArith.wf_i64 (by omega))) _ [] (plainElem_int und3 (WalkArith.wf_i64 (by omega))) ?_; intro w2 hown2 hg2; go_frame)
            | go_in)
          go_roundw
          case rel =>
            refine ⟨k + 1, _, by go_num, by omega, hown2, ?_, hB.grown hg2 hB.size (fun j hj => by cases hj; exact hwB)⟩
            (try rw [hq])
            refine ((hT.put (c := g) hown.isMap (by omega) (v := overT n k g + 1) (by omega))).congr (fun q => ?_)
            rw [overT_succ, Hg.out]
          case measure => simp [intOf]; omega
        · have hb2 : ((k : Int) % 2 == 0) = false := by rw [hmk]; simp; omega
          have hq : ((n : Int) + 0) / 2 = (g : Int) := by
            rw [if_neg (by omega), hn2] at hge; omega
          have hq0 : (n : Int) / 2 = (g : Int) := by omega
          clear hmn hmk hge hn2
          go_wp2_with (first
            | (at_lookup; refine wpList_lookup_own_int _ rfl _ _ 63 rfl 3 3 .i64 law3 und63 und3 (zero3 _) B (n + k) _ rfl hown _ _ rfl (keyOf_int_mk und3 (WalkArith.wf_i64 (by omega))) ?_; intro c hat hwc; (try rw [hq] at hat); (try rw [hq0] at hat); have hcx := hT.look (by omega) hat; have hc0 : 0 ≤ c := by rw [hcx]; exact hbd.1
               have hc1 : c ≤ n + k := by rw [hcx]; exact hbd.2)
            | (at_mapUpdate; refine wpList_mapUpdate_own _ rfl _ _ _ 63 rfl 3 3 law3 und63 _ B _ _ rfl hown (by unfold maxLen; omega) _ _ _ rfl rfl (keyOf_int_mk und3 (WalkArith.wf_i64 (by omega))) _ [] (plainElem_int und3 (WalkArith.wf_i64 (by omega))) ?_; intro w2 hown2 hg2; go_frame)
            | go_in)
          go_roundw
          case rel =>
            refine ⟨k + 1, _, by go_num, by omega, hown2, ?_, hB.grown hg2 hB.size (fun j hj => by cases hj; exact hwB)⟩
            (try rw [hq]); (try rw [hq0])
            refine ((hT.put (c := g) hown.isMap (by omega) (v := overT n k g + 1) (by omega))).congr (fun q => ?_)
            rw [overT_succ, Hg.out]
          case measure => simp [intOf]; omega
      · have hb1 : ((n : Int) % 2 == 0) = false := by rw [hmn]; simp; omega
        have hb1e : (n : Int) % 2 = 1 := by omega
        have hq : ((n : Int) + 1) / 2 = (g : Int) := by
          rw [if_neg (by omega)] at hge; omega
        clear hmn hmk hge hn2
        go_wp2_with (first
          | (at_lookup; refine wpList_lookup_own_int _ rfl _ _ 63 rfl 3 3 .i64 law3 und63 und3 (zero3 _) B (n + k) _ rfl hown _ _ rfl (keyOf_int_mk und3 (WalkArith.wf_i64 (by omega))) ?_; intro c hat hwc; (try rw [hq] at hat); have hcx := hT.look (by omega) hat; have hc0 : 0 ≤ c := by rw [hcx]; exact hbd.1
             have hc1 : c ≤ n + k := by rw [hcx]; exact hbd.2)
          | (at_mapUpdate; refine wpList_mapUpdate_own _ rfl _ _ _ 63 rfl 3 3 law3 und63 _ B _ _ rfl hown (by unfold maxLen; omega) _ _ _ rfl rfl (keyOf_int_mk und3 (WalkArith.wf_i64 (by omega))) _ [] (plainElem_int und3 (WalkArith.wf_i64 (by omega))) ?_; intro w2 hown2 hg2; go_frame)
          | go_in)
        go_roundw
        case rel =>
          refine ⟨k + 1, _, by go_num, by omega, hown2, ?_, hB.grown hg2 hB.size (fun j hj => by cases hj; exact hwB)⟩
          (try rw [hq])
          refine ((hT.put (c := g) hown.isMap (by omega) (v := overT n k g + 1) (by omega))).congr (fun q => ?_)
          rw [overT_succ, Hg.out]
        case measure => simp [intOf]; omega
    · have hdec : decide ((k : Int) < n) = false := by simp; omega
      obtain rfl : k = n := by omega
      go_wp2
      go_ret
      exact ⟨B, D, rfl, hwB, hown, hT, hB⟩

end Go.Proofs.Ytmaplmgecohjbaa
