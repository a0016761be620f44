/- The law ArrayDown. -/
import Derived.Test.YtjfjdidibglhaaaD5
import Derived.Test.YtjfjdidibglhaaaA10
import Derived.Test.YtjfjdidibglhaaaRRC
namespace Go.Proofs.Ytjfjdidibglhaaa
open Go.RowKit

theorem erase_at (l : List Int) (c j : Nat) : (l.eraseIdx c).getD j 0 = l.getD (skp c j) 0 := by
  rw [List.getD_eq_getElem?_getD, List.getD_eq_getElem?_getD, List.getElem?_eraseIdx]
  unfold skp
  split <;> rfl
theorem fnA_erase (l : List Int) (c : Nat) : fnA (l.eraseIdx c) = drp c (fnA l) := funext fun j => by
  unfold fnA drp
  rw [erase_at]
theorem good_drop {s k c : Nat} {ls : List (List Int)} (hG : GoodA s (k + 1) ls) (hc : c < k + 1) (hk : 1 ≤ k) : GoodA s k (ls.map (·.eraseIdx c)) := by
  refine ⟨hG.s2, hG.s64, by rw [List.length_map]; exact hG.n1, by rw [List.length_map]; exact hG.n128, hk, by have := hG.k8; omega, fun l hl => ?_, fun l hl j hj => ?_⟩
  · obtain ⟨m, hm, rfl⟩ := List.mem_map.1 hl
    rw [List.length_eraseIdx, if_pos (by rw [hG.len m hm]; exact hc), hG.len m hm]
    rfl
  · obtain ⟨m, hm, rfl⟩ := List.mem_map.1 hl
    rw [erase_at]
    exact hG.bel m hm _ (skp_lt hj)
theorem rn_drop (c : Nat) (ls : List (List Int)) : rnA (ls.map (·.eraseIdx c)) = (rnA ls).map (drp c) := by
  unfold rnA
  rw [List.map_map, List.map_map]
  exact List.map_congr_left fun l _ => fnA_erase l c
theorem rn_take {s k c lev : Nat} {ls : List (List Int)} (hG : GoodA s (k + 1) ls) (hc : c < k + 1) : rnA (tkL c lev ls) = tkn c lev (rnA ls) := by
  unfold rnA tkL tkn
  rw [List.map_map, List.filter_map, List.map_map]
  have e : ls.filter (fun l => l.getD c 0 == (lev : Int)) = ls.filter ((fun x => x c == lev) ∘ fnA) := List.filter_congr fun l hl => by
    have := hG.bel l hl c hc
    show (l.getD c 0 == (lev : Int)) = (fnA l c == lev)
    unfold fnA
    rw [Bool.eq_iff_iff, beq_iff_eq, beq_iff_eq]
    omega
  rw [e]
  exact List.map_congr_left fun l _ => fnA_erase l c
theorem good_take {s k c : Nat} {lev : Int} {ls : List (List Int)} (hG : GoodA s (k + 1) ls) (hc : c < k + 1) (hk : 1 ≤ k) (h0 : tkL c lev ls ≠ []) : GoodA s k (tkL c lev ls) := by
  refine ⟨hG.s2, hG.s64, List.length_pos_iff.2 h0, ?_, hk, by have := hG.k8; omega, fun l hl => ?_, fun l hl j hj => ?_⟩
  · unfold tkL
    rw [List.length_map]
    exact Nat.le_trans (List.length_filter_le _ _) hG.n128
  · obtain ⟨m, hm, rfl⟩ := List.mem_map.1 hl
    have hm' := (List.mem_filter.1 hm).1
    rw [List.length_eraseIdx, if_pos (by rw [hG.len m hm']; exact hc), hG.len m hm']
    rfl
  · obtain ⟨m, hm, rfl⟩ := List.mem_map.1 hl
    rw [erase_at]
    exact hG.bel m (List.mem_filter.1 hm).1 _ (skp_lt hj)
set_option maxRecDepth 100000 in
set_option maxHeartbeats 8000000 in
theorem Down_far (s k c : Nat) (lev : Int) (ls : List (List Int)) (v : Value) (w : World) (hv : RwR w v ls) (hG : GoodA s (k + 1) ls) (hc : c < k + 1) (hk : 1 ≤ k) (hb : belB (s : Int) lev = false) :
    Calls Try.prog 7 #[.int .i64 (s : Int), v, .int .i64 (c : Int), .int .i64 lev] w fun e w' => e = .returned (.bool true) ∧ Below w.heap.size w w' := by
  have CF := arrayFact_any w
  have hs2 := hG.s2
  have hk8 := hG.k8
  have H10 : Hid (∀ W, Below w.heap.size w W → Calls Try.prog 10 #[.int .i64 (s : Int), v] W fun e w' => SgR s (k + 1) ls e ∧ Below W.heap.size W w') := fun W b => Strength_ok s (k + 1) ls v W (hv.rw.below b) hG
  have H13 : Hid (∀ W, Below w.heap.size w W → Calls Try.prog 13 #[.int .i64 (s : Int), v, .int .i64 (c : Int)] W fun e w' => OzR W (ls.map (·.eraseIdx c)) e w' ∧ Below W.heap.size W w') := fun W b => Drop_ok s k c ls v W (hv.below b) hG hc hk
  have H10a : Hid (∀ (W : World) (y : Value), Rw W y (ls.map (·.eraseIdx c)) → Calls Try.prog 10 #[.int .i64 (s : Int), y] W fun e w' => SgR s k (ls.map (·.eraseIdx c)) e ∧ Below W.heap.size W w') := fun W y hy => Strength_ok s k _ y W hy (good_drop hG hc hk)
  have HGE : Hid (∀ t u, StrIs s (k + 1) (rnA ls) t → StrIs s k (rnA (ls.map (·.eraseIdx c))) u → t ≤ u ∨ k ≤ u) := fun t u ht hu => drop_ge (by omega) hG.lvl ht (by rw [← rn_drop]; exact hu)
  have H14 : Hid (∀ W, Below w.heap.size w W → Calls Try.prog 14 #[.int .i64 (s : Int), v, .int .i64 (c : Int), .int .i64 lev] W fun e w' => e = .returned (.tuple #[.slice none 0 0, .int .i64 1]) ∧ Below W.heap.size W w') := fun W b => Take_far s c lev ls v W (hv.rw.below b) (by have := hG.n128; unfold maxLen; omega) (fun l hl => by rw [hG.len l hl]; unfold maxLen; omega) (hG.paF hc hk) hb
  have hlv : lev < 0 ∨ (s : Int) ≤ lev := by
    unfold belB at hb
    rw [Bool.and_eq_false_iff, decide_eq_false_iff_not, decide_eq_false_iff_not] at hb
    omega
  obtain ⟨n, Hn⟩ : ∃ n, Hid (ls.length = n) := ⟨_, rfl⟩
  obtain ⟨r0, hr0⟩ : ∃ r0, ls[0]? = some r0 := ⟨_, List.getElem?_eq_getElem (by have := hG.n1; omega)⟩
  have hn1 := hG.n1
  obtain ⟨b, off, u, ea, hc0, hS0⟩ : ∃ b off u, (∃ cap, v = .slice (some ⟨b, off, none⟩) n cap) ∧ w.cell? ⟨b, off, none⟩ = some u ∧ Sl w u r0 := by
    obtain ⟨a, cap, rfl, hr⟩ := hv.rw
    obtain ⟨b, off, u, rfl, hc, hS⟩ := hr 0 r0 hr0
    exact ⟨b, off, u, ⟨cap, by rw [Hn.out]⟩, hc, hS⟩
  obtain ⟨cap, rfl⟩ := ea
  obtain ⟨ua, uc, rfl, -⟩ := hS0
  rw [hG.len r0 (List.mem_of_getElem? hr0)] at hc0
  have hbl := block_lt_of_cell hc0
  have HC0 : Hid (∀ W, Below w.heap.size w W → W.cell? ⟨b, off, none⟩ = some (.slice ua (k + 1) uc)) := fun W bW => (bW.cell (p := ⟨b, off, none⟩) hbl).trans hc0
  rw [Hn.out] at hn1
  have hni : (0 : Int) < (n : Int) := by omega
  obtain ⟨LD, HLD⟩ : ∃ LD, Hid (ls.map (·.eraseIdx c) = LD) := ⟨_, rfl⟩
  rw [HLD.out] at H13 H10a HGE
  clear hG hv hr0 hc0
  go_enter Try.func7, Try.ntmps7
  go_wp2_with (first
    | (go_at_call 19; refine CF.mono ?_; rintro e1 w1 ⟨rfl, b1⟩; clear CF)
    | (go_at_call 10; refine (H10.out _ b1).mono ?_; rintro e2 w2 ⟨⟨t, rfl, hT⟩, b2⟩; clear H10; have b3 := Below.next b1 b2; have hc0 := HC0.out _ b3; have HT : Hid (StrIs s (k + 1) (rnA ls) t) := hT; clear hT)
    | (fail))
  refine (H13.out _ b3).mono ?_
  rintro e3 w3 ⟨⟨y, rfl, hy⟩, b4⟩
  have b5 := Below.next b3 b4
  have CA := H10a.out _ y hy.rw
  obtain ⟨ya, yc, rfl⟩ := hy.form
  obtain ⟨yl, Hyl⟩ : ∃ yl, Hid (LD.length = yl) := ⟨_, rfl⟩
  rw [Hyl.out] at CA ⊢
  clear H10a hy H13
  go_wp2_with fail
  refine CA.mono ?_
  rintro e4 w4 ⟨⟨u, rfl, hU⟩, b6⟩
  have b7 := Below.next b5 b6
  have hge := HGE.out t u HT.out hU
  have htk := HT.out.le
  clear CA HGE hU
  have HK : Hid (((k : Int) + 1) - 1 = (k : Int)) := by show _ = _; omega
  by_cases hut : u < t
  · have d1 : decide ((u : Int) < (t : Int)) = true := by simp; omega
    have d2 : decide ((u : Int) < (k : Int)) = false := by simp; omega
    have d2n : decide (u < k) = false := by simp; omega
    clear hge
    have d3 : ((t : Int) == 0) = false := by rw [beq_eq_false_iff_ne]; omega
    have d3n : (t == 0) = false := by rw [beq_eq_false_iff_ne]; omega
    by_cases hl0 : lev < 0
    · have d4 : decide (lev < 0) = true := decide_eq_true hl0
      go_wp2_with (go_at_call 14; refine (H14.out _ b7).mono ?_; rintro e5 w5 ⟨rfl, b8⟩; clear H14)
      go_ret
      exact ⟨by first | rfl | simp [d4], Below.next b7 b8⟩
    · have d4 : decide (lev < 0) = false := decide_eq_false hl0
      have d5 : decide ((s : Int) ≤ lev) = true := decide_eq_true (by omega)
      go_wp2_with (go_at_call 14; refine (H14.out _ b7).mono ?_; rintro e5 w5 ⟨rfl, b8⟩; clear H14)
      go_ret
      exact ⟨by first | rfl | simp [d5], Below.next b7 b8⟩
  · have d1 : decide ((u : Int) < (t : Int)) = false := by simp; omega
    have d1n : decide (u < t) = false := by simp; omega
    clear hge
    by_cases ht0 : t = 0
    · have d3 : ((t : Int) == 0) = true := by rw [ht0]; rfl
      have d3n : (t == 0) = true := by rw [ht0]; rfl
      go_wp2_with (go_at_call 14; refine (H14.out _ b7).mono ?_; rintro e5 w5 ⟨rfl, b8⟩; clear H14)
      go_ret
      exact ⟨by first | rfl | simp [d3], Below.next b7 b8⟩
    · have d3 : ((t : Int) == 0) = false := by rw [beq_eq_false_iff_ne]; omega
      have d3n : (t == 0) = false := by rw [beq_eq_false_iff_ne]; omega
      by_cases hl0 : lev < 0
      · have d4 : decide (lev < 0) = true := decide_eq_true hl0
        go_wp2_with (go_at_call 14; refine (H14.out _ b7).mono ?_; rintro e5 w5 ⟨rfl, b8⟩; clear H14)
        go_ret
        exact ⟨by first | rfl | simp [d4], Below.next b7 b8⟩
      · have d4 : decide (lev < 0) = false := decide_eq_false hl0
        have d5 : decide ((s : Int) ≤ lev) = true := decide_eq_true (by omega)
        go_wp2_with (go_at_call 14; refine (H14.out _ b7).mono ?_; rintro e5 w5 ⟨rfl, b8⟩; clear H14)
        go_ret
        exact ⟨by first | rfl | simp [d5], Below.next b7 b8⟩
set_option maxRecDepth 100000 in
set_option maxHeartbeats 8000000 in
theorem Down_none (s k c : Nat) (lev : Int) (ls : List (List Int)) (v : Value) (w : World) (hv : RwR w v ls) (hG : GoodA s (k + 1) ls) (hc : c < k + 1) (hk : 1 ≤ k) (hb : belB (s : Int) lev = true) (h0 : tkL c lev ls = []) :
    Calls Try.prog 7 #[.int .i64 (s : Int), v, .int .i64 (c : Int), .int .i64 lev] w fun e w' => e = .returned (.bool true) ∧ Below w.heap.size w w' := by
  have CF := arrayFact_any w
  have hs2 := hG.s2
  have hk8 := hG.k8
  have H10 : Hid (∀ W, Below w.heap.size w W → Calls Try.prog 10 #[.int .i64 (s : Int), v] W fun e w' => SgR s (k + 1) ls e ∧ Below W.heap.size W w') := fun W b => Strength_ok s (k + 1) ls v W (hv.rw.below b) hG
  have H13 : Hid (∀ W, Below w.heap.size w W → Calls Try.prog 13 #[.int .i64 (s : Int), v, .int .i64 (c : Int)] W fun e w' => OzR W (ls.map (·.eraseIdx c)) e w' ∧ Below W.heap.size W w') := fun W b => Drop_ok s k c ls v W (hv.below b) hG hc hk
  have H10a : Hid (∀ (W : World) (y : Value), Rw W y (ls.map (·.eraseIdx c)) → Calls Try.prog 10 #[.int .i64 (s : Int), y] W fun e w' => SgR s k (ls.map (·.eraseIdx c)) e ∧ Below W.heap.size W w') := fun W y hy => Strength_ok s k _ y W hy (good_drop hG hc hk)
  have HGE : Hid (∀ t u, StrIs s (k + 1) (rnA ls) t → StrIs s k (rnA (ls.map (·.eraseIdx c))) u → t ≤ u ∨ k ≤ u) := fun t u ht hu => drop_ge (by omega) hG.lvl ht (by rw [← rn_drop]; exact hu)
  obtain ⟨lv, rfl⟩ : ∃ q : Nat, lev = q := ⟨lev.toNat, by have := belB_iff.1 hb; omega⟩
  have hlv : lv < s := by have := belB_iff.1 hb; omega
  have H14 : Hid (∀ W, Below w.heap.size w W → Calls Try.prog 14 #[.int .i64 (s : Int), v, .int .i64 (c : Int), .int .i64 (lv : Int)] W fun e w' => TkR W (tkL c lv ls) e w' ∧ Below W.heap.size W w') := fun W b => Take_ok s k c lv ls v W (hv.below b) hG hc hk hlv
  have HT0 : Hid (∀ t, StrIs s (k + 1) (rnA ls) t → t = 0) := fun t ht => by
    rcases Nat.eq_zero_or_pos t with e | e
    · exact e
    · have := take_some (by omega) hG.lvl hc hlv (by unfold rnA; rw [List.length_map]; exact hG.n1) ht e
      rw [← rn_take hG hc, h0] at this
      simp [rnA] at this
  have H14b : Hid (∀ W, Below w.heap.size w W → Calls Try.prog 14 #[.int .i64 (s : Int), v, .int .i64 (c : Int), .int .i64 (lv : Int)] W fun e w' => e = .returned (.tuple #[.slice none 0 0, .int .i64 4]) ∧ Below W.heap.size W w') := fun W b => (H14.out W b).mono (by
    rintro e w' ⟨⟨_, h⟩ | ⟨h, _⟩, b⟩
    · exact ⟨h, b⟩
    · exact absurd h0 h)
  clear H14 h0
  obtain ⟨n, Hn⟩ : ∃ n, Hid (ls.length = n) := ⟨_, rfl⟩
  obtain ⟨r0, hr0⟩ : ∃ r0, ls[0]? = some r0 := ⟨_, List.getElem?_eq_getElem (by have := hG.n1; omega)⟩
  have hn1 := hG.n1
  obtain ⟨b, off, u, ea, hc0, hS0⟩ : ∃ b off u, (∃ cap, v = .slice (some ⟨b, off, none⟩) n cap) ∧ w.cell? ⟨b, off, none⟩ = some u ∧ Sl w u r0 := by
    obtain ⟨a, cap, rfl, hr⟩ := hv.rw
    obtain ⟨b, off, u, rfl, hc, hS⟩ := hr 0 r0 hr0
    exact ⟨b, off, u, ⟨cap, by rw [Hn.out]⟩, hc, hS⟩
  obtain ⟨cap, rfl⟩ := ea
  obtain ⟨ua, uc, rfl, -⟩ := hS0
  rw [hG.len r0 (List.mem_of_getElem? hr0)] at hc0
  have hbl := block_lt_of_cell hc0
  have HC0 : Hid (∀ W, Below w.heap.size w W → W.cell? ⟨b, off, none⟩ = some (.slice ua (k + 1) uc)) := fun W bW => (bW.cell (p := ⟨b, off, none⟩) hbl).trans hc0
  rw [Hn.out] at hn1
  have hni : (0 : Int) < (n : Int) := by omega
  obtain ⟨LD, HLD⟩ : ∃ LD, Hid (ls.map (·.eraseIdx c) = LD) := ⟨_, rfl⟩
  rw [HLD.out] at H13 H10a HGE
  clear hG hv hr0 hc0
  go_enter Try.func7, Try.ntmps7
  go_wp2_with (first
    | (go_at_call 19; refine CF.mono ?_; rintro e1 w1 ⟨rfl, b1⟩; clear CF)
    | (go_at_call 10; refine (H10.out _ b1).mono ?_; rintro e2 w2 ⟨⟨t, rfl, hT⟩, b2⟩; clear H10; have b3 := Below.next b1 b2; have hc0 := HC0.out _ b3; have HT : Hid (StrIs s (k + 1) (rnA ls) t) := hT; clear hT)
    | (fail))
  refine (H13.out _ b3).mono ?_
  rintro e3 w3 ⟨⟨y, rfl, hy⟩, b4⟩
  have b5 := Below.next b3 b4
  have CA := H10a.out _ y hy.rw
  obtain ⟨ya, yc, rfl⟩ := hy.form
  obtain ⟨yl, Hyl⟩ : ∃ yl, Hid (LD.length = yl) := ⟨_, rfl⟩
  rw [Hyl.out] at CA ⊢
  clear H10a hy H13
  go_wp2_with fail
  refine CA.mono ?_
  rintro e4 w4 ⟨⟨u, rfl, hU⟩, b6⟩
  have b7 := Below.next b5 b6
  have hge := HGE.out t u HT.out hU
  have htk := HT.out.le
  clear CA HGE hU
  have HK : Hid (((k : Int) + 1) - 1 = (k : Int)) := by show _ = _; omega
  by_cases hut : u < t
  · have d1 : decide ((u : Int) < (t : Int)) = true := by simp; omega
    have d2 : decide ((u : Int) < (k : Int)) = false := by simp; omega
    have d2n : decide (u < k) = false := by simp; omega
    clear hge
    exfalso
    have := HT0.out t HT.out
    omega
  · have d1 : decide ((u : Int) < (t : Int)) = false := by simp; omega
    have d1n : decide (u < t) = false := by simp; omega
    clear hge
    obtain rfl : t = 0 := HT0.out t HT.out
    go_wp2_with (go_at_call 14; refine (H14b.out _ b7).mono ?_; rintro e5 w5 ⟨rfl, b8⟩; clear H14b)
    go_ret
    exact ⟨by first | rfl | simp, Below.next b7 b8⟩
set_option maxRecDepth 100000 in
set_option maxHeartbeats 8000000 in
theorem Down_some (s k c : Nat) (lev : Int) (ls : List (List Int)) (v : Value) (w : World) (hv : RwR w v ls) (hG : GoodA s (k + 1) ls) (hc : c < k + 1) (hk : 1 ≤ k) (hb : belB (s : Int) lev = true) (h0 : tkL c lev ls ≠ []) :
    Calls Try.prog 7 #[.int .i64 (s : Int), v, .int .i64 (c : Int), .int .i64 lev] w fun e w' => e = .returned (.bool true) ∧ Below w.heap.size w w' := by
  have CF := arrayFact_any w
  have hs2 := hG.s2
  have hk8 := hG.k8
  have H10 : Hid (∀ W, Below w.heap.size w W → Calls Try.prog 10 #[.int .i64 (s : Int), v] W fun e w' => SgR s (k + 1) ls e ∧ Below W.heap.size W w') := fun W b => Strength_ok s (k + 1) ls v W (hv.rw.below b) hG
  have H13 : Hid (∀ W, Below w.heap.size w W → Calls Try.prog 13 #[.int .i64 (s : Int), v, .int .i64 (c : Int)] W fun e w' => OzR W (ls.map (·.eraseIdx c)) e w' ∧ Below W.heap.size W w') := fun W b => Drop_ok s k c ls v W (hv.below b) hG hc hk
  have H10a : Hid (∀ (W : World) (y : Value), Rw W y (ls.map (·.eraseIdx c)) → Calls Try.prog 10 #[.int .i64 (s : Int), y] W fun e w' => SgR s k (ls.map (·.eraseIdx c)) e ∧ Below W.heap.size W w') := fun W y hy => Strength_ok s k _ y W hy (good_drop hG hc hk)
  have HGE : Hid (∀ t u, StrIs s (k + 1) (rnA ls) t → StrIs s k (rnA (ls.map (·.eraseIdx c))) u → t ≤ u ∨ k ≤ u) := fun t u ht hu => drop_ge (by omega) hG.lvl ht (by rw [← rn_drop]; exact hu)
  obtain ⟨lv, rfl⟩ : ∃ q : Nat, lev = q := ⟨lev.toNat, by have := belB_iff.1 hb; omega⟩
  have hlv : lv < s := by have := belB_iff.1 hb; omega
  have H14 : Hid (∀ W, Below w.heap.size w W → Calls Try.prog 14 #[.int .i64 (s : Int), v, .int .i64 (c : Int), .int .i64 (lv : Int)] W fun e w' => TkR W (tkL c lv ls) e w' ∧ Below W.heap.size W w') := fun W b => Take_ok s k c lv ls v W (hv.below b) hG hc hk hlv
  have H10b : Hid (∀ (W : World) (y : Value), Rw W y (tkL c lv ls) → Calls Try.prog 10 #[.int .i64 (s : Int), y] W fun e w' => SgR s k (tkL c lv ls) e ∧ Below W.heap.size W w') := fun W y hy => Strength_ok s k _ y W hy (good_take hG hc hk h0)
  have HGT : Hid (∀ t u, StrIs s (k + 1) (rnA ls) t → StrIs s k (rnA (tkL c lv ls)) u → t ≤ u + 1) := fun t u ht hu => take_ge (by omega) hG.lvl hc hlv ht (by rw [← rn_take hG hc]; exact hu)
  have H14b : Hid (∀ W, Below w.heap.size w W → Calls Try.prog 14 #[.int .i64 (s : Int), v, .int .i64 (c : Int), .int .i64 (lv : Int)] W fun e w' => OzR W (tkL c lv ls) e w' ∧ Below W.heap.size W w') := fun W b => (H14.out W b).mono (by
    rintro e w' ⟨⟨h, _⟩ | ⟨_, h⟩, b⟩
    · exact absurd h h0
    · exact ⟨h, b⟩)
  obtain ⟨LT, HLT⟩ : ∃ LT, Hid (tkL c lv ls = LT) := ⟨_, rfl⟩
  rw [HLT.out] at H10b HGT H14b
  clear H14 h0
  obtain ⟨n, Hn⟩ : ∃ n, Hid (ls.length = n) := ⟨_, rfl⟩
  obtain ⟨r0, hr0⟩ : ∃ r0, ls[0]? = some r0 := ⟨_, List.getElem?_eq_getElem (by have := hG.n1; omega)⟩
  have hn1 := hG.n1
  obtain ⟨b, off, u, ea, hc0, hS0⟩ : ∃ b off u, (∃ cap, v = .slice (some ⟨b, off, none⟩) n cap) ∧ w.cell? ⟨b, off, none⟩ = some u ∧ Sl w u r0 := by
    obtain ⟨a, cap, rfl, hr⟩ := hv.rw
    obtain ⟨b, off, u, rfl, hc, hS⟩ := hr 0 r0 hr0
    exact ⟨b, off, u, ⟨cap, by rw [Hn.out]⟩, hc, hS⟩
  obtain ⟨cap, rfl⟩ := ea
  obtain ⟨ua, uc, rfl, -⟩ := hS0
  rw [hG.len r0 (List.mem_of_getElem? hr0)] at hc0
  have hbl := block_lt_of_cell hc0
  have HC0 : Hid (∀ W, Below w.heap.size w W → W.cell? ⟨b, off, none⟩ = some (.slice ua (k + 1) uc)) := fun W bW => (bW.cell (p := ⟨b, off, none⟩) hbl).trans hc0
  rw [Hn.out] at hn1
  have hni : (0 : Int) < (n : Int) := by omega
  obtain ⟨LD, HLD⟩ : ∃ LD, Hid (ls.map (·.eraseIdx c) = LD) := ⟨_, rfl⟩
  rw [HLD.out] at H13 H10a HGE
  clear hG hv hr0 hc0
  go_enter Try.func7, Try.ntmps7
  go_wp2_with (first
    | (go_at_call 19; refine CF.mono ?_; rintro e1 w1 ⟨rfl, b1⟩; clear CF)
    | (go_at_call 10; refine (H10.out _ b1).mono ?_; rintro e2 w2 ⟨⟨t, rfl, hT⟩, b2⟩; clear H10; have b3 := Below.next b1 b2; have hc0 := HC0.out _ b3; have HT : Hid (StrIs s (k + 1) (rnA ls) t) := hT; clear hT)
    | (fail))
  refine (H13.out _ b3).mono ?_
  rintro e3 w3 ⟨⟨y, rfl, hy⟩, b4⟩
  have b5 := Below.next b3 b4
  have CA := H10a.out _ y hy.rw
  obtain ⟨ya, yc, rfl⟩ := hy.form
  obtain ⟨yl, Hyl⟩ : ∃ yl, Hid (LD.length = yl) := ⟨_, rfl⟩
  rw [Hyl.out] at CA ⊢
  clear H10a hy H13
  go_wp2_with fail
  refine CA.mono ?_
  rintro e4 w4 ⟨⟨u, rfl, hU⟩, b6⟩
  have b7 := Below.next b5 b6
  have hge := HGE.out t u HT.out hU
  have htk := HT.out.le
  clear CA HGE hU
  have HK : Hid (((k : Int) + 1) - 1 = (k : Int)) := by show _ = _; omega
  by_cases hut : u < t
  · have d1 : decide ((u : Int) < (t : Int)) = true := by simp; omega
    have d2 : decide ((u : Int) < (k : Int)) = false := by simp; omega
    have d2n : decide (u < k) = false := by simp; omega
    clear hge
    go_wp2_with (first
      | (go_at_call 14; refine (H14b.out _ b7).mono ?_; rintro e5 w5 ⟨⟨z, rfl, hz⟩, b8⟩; clear H14b; have b9 := Below.next b7 b8; have CB := H10b.out _ z hz.rw; obtain ⟨za, zc, rfl⟩ := hz.form; clear H10b hz; obtain ⟨zl, Hzl⟩ : ∃ zl, Hid (LT.length = zl) := ⟨_, rfl⟩; rw [Hzl.out] at CB ⊢))
    refine CB.mono ?_
    rintro e6 w6 ⟨⟨q, rfl, hQ⟩, b10⟩
    have hq := HGT.out t q HT.out hQ
    have d9 : decide ((t : Int) - 1 ≤ (q : Int)) = true := decide_eq_true (by omega)
    clear CB HGT hQ
    go_wp2
    go_ret
    exact ⟨by first | rfl | simp [d9], Below.next b9 b10⟩
  · have d1 : decide ((u : Int) < (t : Int)) = false := by simp; omega
    have d1n : decide (u < t) = false := by simp; omega
    clear hge
    go_wp2_with (first
      | (go_at_call 14; refine (H14b.out _ b7).mono ?_; rintro e5 w5 ⟨⟨z, rfl, hz⟩, b8⟩; clear H14b; have b9 := Below.next b7 b8; have CB := H10b.out _ z hz.rw; obtain ⟨za, zc, rfl⟩ := hz.form; clear H10b hz; obtain ⟨zl, Hzl⟩ : ∃ zl, Hid (LT.length = zl) := ⟨_, rfl⟩; rw [Hzl.out] at CB ⊢))
    refine CB.mono ?_
    rintro e6 w6 ⟨⟨q, rfl, hQ⟩, b10⟩
    have hq := HGT.out t q HT.out hQ
    have d9 : decide ((t : Int) - 1 ≤ (q : Int)) = true := decide_eq_true (by omega)
    clear CB HGT hQ
    go_wp2
    go_ret
    exact ⟨by first | rfl | simp [d9], Below.next b9 b10⟩
set_option maxRecDepth 100000 in
set_option maxHeartbeats 4000000 in
theorem Down_law (s col lev : Int) (ls : List (List Int)) (v : Value) (w : World) (_hs : (Lit.int .i64 s).wf = true) (_hc : (Lit.int .i64 col).wf = true) (_hl : (Lit.int .i64 lev).wf = true) (hC : CameC ls v w) :
    Calls Try.prog 7 #[.int .i64 s, v, .int .i64 col, .int .i64 lev] w fun e w' => e = .returned (.bool true) ∧ Below w.heap.size w w' := by
  obtain ⟨hv, hll, hl⟩ := hC
  by_cases hp : paF s ls col = 0
  · obtain ⟨s', k, c, rfl, rfl, hG, hc, hk⟩ := paF_good hp
    cases hb : belB (s' : Int) lev with
    | false => exact Down_far s' k c lev ls v w hv hG hc hk hb
    | true =>
      by_cases h0 : tkL c lev ls = []
      · exact Down_none s' k c lev ls v w hv hG hc hk hb h0
      · exact Down_some s' k c lev ls v w hv hG hc hk hb h0
  · have CF := arrayFact_any w
    by_cases h0 : aF s ls = 0
    · obtain ⟨s', k, rfl, hG⟩ := aF_good h0
      have H10 : Hid (∀ W, Below w.heap.size w W → Calls Try.prog 10 #[.int .i64 (s' : Int), v] W fun e w' => SgR s' k ls e ∧ Below W.heap.size W w') := fun W b => Strength_ok s' k ls v W (hv.rw.below b) hG
      have H13 : Hid (∀ W, Below w.heap.size w W → Calls Try.prog 13 #[.int .i64 (s' : Int), v, .int .i64 col] W fun e w' => e = .returned (.tuple #[.slice none 0 0, .int .i64 (paF s' ls col : Int)]) ∧ Below W.heap.size W w') := fun W b => Drop_bad s' col ls v W (hv.rw.below b) hl hll hp
      obtain ⟨z, Hz⟩ : ∃ z, Hid (paF (s' : Int) ls col = z) := ⟨_, rfl⟩
      rw [Hz.out] at H13 hp
      have hne : ((z : Int) != 0) = true := by simp; omega
      obtain ⟨n, Hn⟩ : ∃ n, Hid (ls.length = n) := ⟨_, rfl⟩
      obtain ⟨r0, hr0⟩ : ∃ r0, ls[0]? = some r0 := ⟨_, List.getElem?_eq_getElem (by have := hG.n1; omega)⟩
      have hn1 := hG.n1
      obtain ⟨b, off, u, ea, hc0, hS0⟩ : ∃ b off u, (∃ cap, v = .slice (some ⟨b, off, none⟩) n cap) ∧ w.cell? ⟨b, off, none⟩ = some u ∧ Sl w u r0 := by
        obtain ⟨a, cap, rfl, hr⟩ := hv.rw
        obtain ⟨b, off, u, rfl, hc, hS⟩ := hr 0 r0 hr0
        exact ⟨b, off, u, ⟨cap, by rw [Hn.out]⟩, hc, hS⟩
      obtain ⟨cap, rfl⟩ := ea
      obtain ⟨ua, uc, rfl, -⟩ := hS0
      rw [hG.len r0 (List.mem_of_getElem? hr0)] at hc0
      have hbl := block_lt_of_cell hc0
      have HC0 : Hid (∀ W, Below w.heap.size w W → W.cell? ⟨b, off, none⟩ = some (.slice ua k uc)) := fun W bW => (bW.cell (p := ⟨b, off, none⟩) hbl).trans hc0
      rw [Hn.out] at hn1
      have hni : (0 : Int) < (n : Int) := by omega
      clear hll hl h0 hG hv hr0 hc0 hp
      go_enter Try.func7, Try.ntmps7
      go_wp2_with (first
        | (go_at_call 19; refine CF.mono ?_; rintro e1 w1 ⟨rfl, b1⟩; clear CF)
        | (go_at_call 10; refine (H10.out _ b1).mono ?_; rintro e2 w2 ⟨⟨t, rfl, hT⟩, b2⟩; clear H10 hT; have b3 := Below.next b1 b2; have hc0 := HC0.out _ b3)
        | (go_at_call 13; refine (H13.out _ b3).mono ?_; rintro e3 w3 ⟨rfl, b4⟩; clear H13))
      go_ret
      exact ⟨rfl, Below.next b3 b4⟩
    · have H10 : Hid (∀ W, Below w.heap.size w W → Calls Try.prog 10 #[.int .i64 s, v] W fun e w' => e = .returned (.tuple #[.int .i64 0, .int .i64 (aF s ls : Int)]) ∧ Below W.heap.size W w') := fun W b => Strength_bad s ls v W (hv.rw.below b) hl hll h0
      obtain ⟨z, Hz⟩ : ∃ z, Hid (aF s ls = z) := ⟨_, rfl⟩
      rw [Hz.out] at H10 h0
      have hne : ((z : Int) != 0) = true := by simp; omega
      obtain ⟨n, Hn⟩ : ∃ n, Hid (ls.length = n) := ⟨_, rfl⟩
      obtain ⟨a, cap, rfl, -⟩ := hv
      rw [Hn.out] at H10 ⊢
      clear hll hl h0 hp
      go_enter Try.func7, Try.ntmps7
      go_wp2_with (first
        | (go_at_call 19; refine CF.mono ?_; rintro e1 w1 ⟨rfl, b1⟩; clear CF)
        | (go_at_call 10; refine (H10.out _ b1).mono ?_; rintro e3 w3 ⟨rfl, b3⟩; clear H10))
      go_ret
      exact ⟨rfl, Below.next b1 b3⟩
end Go.Proofs.Ytjfjdidibglhaaa
