/- The law ArrayParts. -/
import Derived.Test.YtjfjdidibglhaaaD6
import Derived.Test.YtjfjdidibglhaaaDLi
import Derived.Test.YtjfjdidibglhaaaRRC
namespace Go.Proofs.Ytjfjdidibglhaaa
open Go.RowKit

theorem Lists_same (ls : List (List Int)) (v x : Value) (w : World) (hv : Rw w v ls) (hx : Rw w x ls) (hl : ls.length ≤ maxLen) (hll : ∀ l ∈ ls, l.length ≤ maxLen) :
    Calls Try.prog 16 #[v, x] w fun e w' => e = .returned (.bool true) ∧ Below w.heap.size w w' := (Lists_any ls ls v x w hv hx hl hl hll hll).mono (by
  rintro e w' ⟨b, rfl, hb, h⟩
  rw [hb.2 rfl]
  exact ⟨rfl, h⟩)
theorem OzR.form {w w' : World} {ls : List (List Int)} {e : Ending} (h : OzR w ls e w') : ∃ a c, e = .returned (.tuple #[.slice a ls.length c, .int .i64 0]) ∧ OZ w' w.heap.size (.slice a ls.length c) ls := by
  obtain ⟨y, rfl, hy⟩ := h
  obtain ⟨a, c, rfl⟩ := hy.form
  exact ⟨a, c, rfl, hy⟩
set_option maxRecDepth 100000 in
set_option maxHeartbeats 8000000 in
theorem Parts_bad (s col lev : Int) (ls : List (List Int)) (v : Value) (w : World) (hv : Rw w v ls) (hl : ls.length ≤ maxLen) (hll : ∀ l ∈ ls, l.length ≤ maxLen) (hp : paF s ls col ≠ 0) :
    Calls Try.prog 4 #[.int .i64 s, v, .int .i64 col, .int .i64 lev] w fun e w' => e = .returned (.bool true) ∧ Below w.heap.size w w' := by
  have C12 := PartFault_any s col ls v w hv hl hll
  have H13 : Hid (∀ W, Below w.heap.size w W → Calls Try.prog 13 #[.int .i64 s, v, .int .i64 col] W fun e w' => e = .returned (.tuple #[.slice none 0 0, .int .i64 (paF s ls col : Int)]) ∧ Below W.heap.size W w') := fun W b => Drop_bad s col ls v W (hv.below b) hl hll hp
  have H14 : Hid (∀ W, Below w.heap.size w W → Calls Try.prog 14 #[.int .i64 s, v, .int .i64 col, .int .i64 lev] W fun e w' => e = .returned (.tuple #[.slice none 0 0, .int .i64 (paF s ls col : Int)]) ∧ Below W.heap.size W w') := fun W b => Take_bad s col lev ls v W (hv.below b) hl hll hp
  obtain ⟨z, Hz⟩ : ∃ z, Hid (paF s ls col = z) := ⟨_, rfl⟩
  rw [Hz.out] at C12 H13 H14 hp
  have hne : ((z : Int) != 0) = true := by simp; omega
  obtain ⟨n, Hn⟩ : ∃ n, Hid (ls.length = n) := ⟨_, rfl⟩
  obtain ⟨a, cap, rfl, -⟩ := hv
  rw [Hn.out] at C12 H13 H14 ⊢
  clear hl hll hp
  go_enter Try.func4, Try.ntmps4
  go_wp2_with (first
    | (go_at_call 12; refine C12.mono ?_; rintro e1 w1 ⟨rfl, b1⟩; clear C12)
    | (go_at_call 13; refine (H13.out _ b1).mono ?_; rintro e2 w2 ⟨rfl, b2⟩; clear H13; have b3 := Below.next b1 b2)
    | (go_at_call 14; refine (H14.out _ b3).mono ?_; rintro e3 w3 ⟨rfl, b4⟩; clear H14))
  go_ret
  exact ⟨by simp, Below.next b3 b4⟩
set_option maxRecDepth 100000 in
set_option maxHeartbeats 8000000 in
theorem Parts_far (s k c : Nat) (lev : Int) (ls : List (List Int)) (v : Value) (w : World) (hv : RwR w v ls) (hG : GoodA s (k + 1) ls) (hc : c < k + 1) (hk : 1 ≤ k) (hb : belB (s : Int) lev = false) :
    Calls Try.prog 4 #[.int .i64 (s : Int), v, .int .i64 (c : Int), .int .i64 lev] w fun e w' => e = .returned (.bool true) ∧ Below w.heap.size w w' := by
  have hm1 : ls.length ≤ maxLen := by have := hG.n128; unfold maxLen; omega
  have hm2 : ∀ l ∈ ls, l.length ≤ maxLen := fun l hl => by rw [hG.len l hl]; have := hG.k8; unfold maxLen; omega
  have C12 := PartFault_any s c ls v w hv.rw hm1 hm2
  rw [hG.paF hc hk] at C12
  have H13 : Hid (∀ W, Below w.heap.size w W → Calls Try.prog 13 #[.int .i64 (s : Int), v, .int .i64 (c : Int)] W fun e w' => OzR W (ls.map (·.eraseIdx c)) e w' ∧ Below W.heap.size W w') := fun W b => Drop_ok s k c ls v W (hv.below b) hG hc hk
  have H15 : Hid (∀ W, Below w.heap.size w W → Calls Try.prog 15 #[v, .int .i64 (c : Int), .int .i64 (-1)] W fun e w' => (∃ y, e = .returned y ∧ OZ w' W.heap.size y (ls.map (·.eraseIdx c))) ∧ Below W.heap.size W w') := fun W b => by rw [← keL_all]; exact Without_any s k c (-1) ls v W (hv.rw.below b) hG hc
  have HLI : Hid (∀ (W : World) (x y : Value), Rw W x (ls.map (·.eraseIdx c)) → Rw W y (ls.map (·.eraseIdx c)) → Calls Try.prog 16 #[x, y] W fun e w' => e = .returned (.bool true) ∧ Below W.heap.size W w') := fun W x y hx hy => Lists_same _ x y W hx hy (by rw [List.length_map]; exact hm1) (fun l hl => by
    obtain ⟨m, hm, rfl⟩ := List.mem_map.1 hl
    exact Nat.le_trans (List.length_eraseIdx_le _ _) (hm2 m hm))
  have H14 : Hid (∀ W, Below w.heap.size w W → Calls Try.prog 14 #[.int .i64 (s : Int), v, .int .i64 (c : Int), .int .i64 lev] W fun e w' => e = .returned (.tuple #[.slice none 0 0, .int .i64 1]) ∧ Below W.heap.size W w') := fun W b => Take_far s c lev ls v W (hv.rw.below b) hm1 hm2 (hG.paF hc hk) hb
  have hlv : lev < 0 ∨ (s : Int) ≤ lev := by
    unfold belB at hb
    rw [Bool.and_eq_false_iff, decide_eq_false_iff_not, decide_eq_false_iff_not] at hb
    omega
  by_cases hl0 : lev < 0
  · have d4 : decide (lev < 0) = true := decide_eq_true hl0
    obtain ⟨n, Hn⟩ : ∃ n, Hid (ls.length = n) := ⟨_, rfl⟩
    obtain ⟨LD, HLD⟩ : ∃ LD, Hid (ls.map (·.eraseIdx c) = LD) := ⟨_, rfl⟩
    rw [HLD.out] at H13 H15 HLI
    obtain ⟨dl, Hdl⟩ : ∃ dl, Hid (LD.length = dl) := ⟨_, rfl⟩
    obtain ⟨a, cap, rfl, -⟩ := hv
    clear hG hm1 hm2
    rw [Hn.out] at C12 H13 H15 H14 ⊢
    go_enter Try.func4, Try.ntmps4
    go_wp2_with (first
      | (go_at_call 12; refine C12.mono ?_; rintro e1 w1 ⟨rfl, b1⟩; clear C12)
      | (go_at_call 13; refine (H13.out _ b1).mono ?_; rintro e2 w2 ⟨h2, b2⟩; obtain ⟨xa, xc, rfl, hx⟩ := h2.form; rw [Hdl.out] at hx ⊢; clear H13 h2; have b3 := Below.next b1 b2)
      | (go_at_call 14; refine (H14.out _ b3).mono ?_; rintro e3 w3 ⟨rfl, b4⟩; clear H14; have b5 := Below.next b3 b4))
    refine (H15.out _ b5).mono ?_
    rintro e4 w4 ⟨⟨y, rfl, hy⟩, b6⟩
    obtain ⟨ya, yc, rfl⟩ := hy.form
    have CL := HLI.out w4 _ _ ((hx.rw.below b4).below b6) hy.rw
    rw [Hdl.out] at CL ⊢
    clear H15 hy
    have b7 := Below.next b5 b6
    go_wp2_with (go_at_call 16; refine CL.mono ?_; rintro e5 w5 ⟨rfl, b8⟩; clear CL; have b9 := Below.next b7 b8)
    go_ret
    exact ⟨by simp, b9⟩
  · have d4 : decide (lev < 0) = false := decide_eq_false hl0
    have d5 : decide ((s : Int) ≤ lev) = true := decide_eq_true (by omega)
    obtain ⟨n, Hn⟩ : ∃ n, Hid (ls.length = n) := ⟨_, rfl⟩
    obtain ⟨LD, HLD⟩ : ∃ LD, Hid (ls.map (·.eraseIdx c) = LD) := ⟨_, rfl⟩
    rw [HLD.out] at H13 H15 HLI
    obtain ⟨dl, Hdl⟩ : ∃ dl, Hid (LD.length = dl) := ⟨_, rfl⟩
    obtain ⟨a, cap, rfl, -⟩ := hv
    clear hG hm1 hm2
    rw [Hn.out] at C12 H13 H15 H14 ⊢
    go_enter Try.func4, Try.ntmps4
    go_wp2_with (first
      | (go_at_call 12; refine C12.mono ?_; rintro e1 w1 ⟨rfl, b1⟩; clear C12)
      | (go_at_call 13; refine (H13.out _ b1).mono ?_; rintro e2 w2 ⟨h2, b2⟩; obtain ⟨xa, xc, rfl, hx⟩ := h2.form; rw [Hdl.out] at hx ⊢; clear H13 h2; have b3 := Below.next b1 b2)
      | (go_at_call 14; refine (H14.out _ b3).mono ?_; rintro e3 w3 ⟨rfl, b4⟩; clear H14; have b5 := Below.next b3 b4))
    refine (H15.out _ b5).mono ?_
    rintro e4 w4 ⟨⟨y, rfl, hy⟩, b6⟩
    obtain ⟨ya, yc, rfl⟩ := hy.form
    have CL := HLI.out w4 _ _ ((hx.rw.below b4).below b6) hy.rw
    rw [Hdl.out] at CL ⊢
    clear H15 hy
    have b7 := Below.next b5 b6
    go_wp2_with (go_at_call 16; refine CL.mono ?_; rintro e5 w5 ⟨rfl, b8⟩; clear CL; have b9 := Below.next b7 b8)
    go_ret
    exact ⟨by simp, b9⟩
set_option maxRecDepth 100000 in
set_option maxHeartbeats 8000000 in
theorem Parts_none (s k c : Nat) (lev : Int) (ls : List (List Int)) (v : Value) (w : World) (hv : RwR w v ls) (hG : GoodA s (k + 1) ls) (hc : c < k + 1) (hk : 1 ≤ k) (hb : belB (s : Int) lev = true) (h0 : tkL c lev ls = []) :
    Calls Try.prog 4 #[.int .i64 (s : Int), v, .int .i64 (c : Int), .int .i64 lev] w fun e w' => e = .returned (.bool true) ∧ Below w.heap.size w w' := by
  have hm1 : ls.length ≤ maxLen := by have := hG.n128; unfold maxLen; omega
  have hm2 : ∀ l ∈ ls, l.length ≤ maxLen := fun l hl => by rw [hG.len l hl]; have := hG.k8; unfold maxLen; omega
  have C12 := PartFault_any s c ls v w hv.rw hm1 hm2
  rw [hG.paF hc hk] at C12
  have H13 : Hid (∀ W, Below w.heap.size w W → Calls Try.prog 13 #[.int .i64 (s : Int), v, .int .i64 (c : Int)] W fun e w' => OzR W (ls.map (·.eraseIdx c)) e w' ∧ Below W.heap.size W w') := fun W b => Drop_ok s k c ls v W (hv.below b) hG hc hk
  have H15 : Hid (∀ W, Below w.heap.size w W → Calls Try.prog 15 #[v, .int .i64 (c : Int), .int .i64 (-1)] W fun e w' => (∃ y, e = .returned y ∧ OZ w' W.heap.size y (ls.map (·.eraseIdx c))) ∧ Below W.heap.size W w') := fun W b => by rw [← keL_all]; exact Without_any s k c (-1) ls v W (hv.rw.below b) hG hc
  have HLI : Hid (∀ (W : World) (x y : Value), Rw W x (ls.map (·.eraseIdx c)) → Rw W y (ls.map (·.eraseIdx c)) → Calls Try.prog 16 #[x, y] W fun e w' => e = .returned (.bool true) ∧ Below W.heap.size W w') := fun W x y hx hy => Lists_same _ x y W hx hy (by rw [List.length_map]; exact hm1) (fun l hl => by
    obtain ⟨m, hm, rfl⟩ := List.mem_map.1 hl
    exact Nat.le_trans (List.length_eraseIdx_le _ _) (hm2 m hm))
  obtain ⟨lv, rfl⟩ : ∃ q : Nat, lev = q := ⟨lev.toNat, by have := belB_iff.1 hb; omega⟩
  have hlv : lv < s := by have := belB_iff.1 hb; omega
  have d4 : decide ((lv : Int) < 0) = false := by simp
  have d5 : decide ((s : Int) ≤ (lv : Int)) = false := by simp; omega
  have d5n : decide (s ≤ lv) = false := by simp; omega
  have H14 : Hid (∀ W, Below w.heap.size w W → Calls Try.prog 14 #[.int .i64 (s : Int), v, .int .i64 (c : Int), .int .i64 (lv : Int)] W fun e w' => TkR W (tkL c lv ls) e w' ∧ Below W.heap.size W w') := fun W b => Take_ok s k c lv ls v W (hv.below b) hG hc hk hlv
  have H15b : Hid (∀ W, Below w.heap.size w W → Calls Try.prog 15 #[v, .int .i64 (c : Int), .int .i64 (lv : Int)] W fun e w' => (∃ y, e = .returned y ∧ OZ w' W.heap.size y (tkL c lv ls)) ∧ Below W.heap.size W w') := fun W b => by rw [← keL_lev]; exact Without_any s k c lv ls v W (hv.rw.below b) hG hc
  have H14b : Hid (∀ W, Below w.heap.size w W → Calls Try.prog 14 #[.int .i64 (s : Int), v, .int .i64 (c : Int), .int .i64 (lv : Int)] W fun e w' => e = .returned (.tuple #[.slice none 0 0, .int .i64 4]) ∧ Below W.heap.size W w') := fun W b => (H14.out W b).mono (by
    rintro e w' ⟨⟨_, h⟩ | ⟨h, _⟩, b⟩
    · exact ⟨h, b⟩
    · exact absurd h0 h)
  rw [h0] at H15b
  clear H14 h0
  obtain ⟨n, Hn⟩ : ∃ n, Hid (ls.length = n) := ⟨_, rfl⟩
  obtain ⟨LD, HLD⟩ : ∃ LD, Hid (ls.map (·.eraseIdx c) = LD) := ⟨_, rfl⟩
  rw [HLD.out] at H13 H15 HLI
  obtain ⟨dl, Hdl⟩ : ∃ dl, Hid (LD.length = dl) := ⟨_, rfl⟩
  obtain ⟨a, cap, rfl, -⟩ := hv
  clear hG hm1 hm2
  rw [Hn.out] at C12 H13 H15 H14b H15b ⊢
  go_enter Try.func4, Try.ntmps4
  go_wp2_with (first
    | (go_at_call 12; refine C12.mono ?_; rintro e1 w1 ⟨rfl, b1⟩; clear C12)
    | (go_at_call 13; refine (H13.out _ b1).mono ?_; rintro e2 w2 ⟨h2, b2⟩; obtain ⟨xa, xc, rfl, hx⟩ := h2.form; rw [Hdl.out] at hx ⊢; clear H13 h2; have b3 := Below.next b1 b2)
    | (go_at_call 14; refine (H14b.out _ b3).mono ?_; rintro e3 w3 ⟨rfl, b4⟩; clear H14b; have b5 := Below.next b3 b4))
  refine (H15.out _ b5).mono ?_
  rintro e4 w4 ⟨⟨y, rfl, hy⟩, b6⟩
  obtain ⟨ya, yc, rfl⟩ := hy.form
  have CL := HLI.out w4 _ _ ((hx.rw.below b4).below b6) hy.rw
  rw [Hdl.out] at CL ⊢
  clear H15 hy
  have b7 := Below.next b5 b6
  go_wp2_with (go_at_call 16; refine CL.mono ?_; rintro e5 w5 ⟨rfl, b8⟩; clear CL; have b9 := Below.next b7 b8)
  refine (H15b.out _ b9).mono ?_
  rintro e6 w6 ⟨⟨z, rfl, hz⟩, b10⟩
  obtain ⟨za, zc, rfl⟩ := hz.form
  clear H15b hz
  go_wp2
  go_ret
  exact ⟨by simp, Below.next b9 b10⟩
set_option maxRecDepth 100000 in
set_option maxHeartbeats 8000000 in
theorem Parts_some (s k c : Nat) (lev : Int) (ls : List (List Int)) (v : Value) (w : World) (hv : RwR w v ls) (hG : GoodA s (k + 1) ls) (hc : c < k + 1) (hk : 1 ≤ k) (hb : belB (s : Int) lev = true) (h0 : tkL c lev ls ≠ []) :
    Calls Try.prog 4 #[.int .i64 (s : Int), v, .int .i64 (c : Int), .int .i64 lev] w fun e w' => e = .returned (.bool true) ∧ Below w.heap.size w w' := by
  have hm1 : ls.length ≤ maxLen := by have := hG.n128; unfold maxLen; omega
  have hm2 : ∀ l ∈ ls, l.length ≤ maxLen := fun l hl => by rw [hG.len l hl]; have := hG.k8; unfold maxLen; omega
  have C12 := PartFault_any s c ls v w hv.rw hm1 hm2
  rw [hG.paF hc hk] at C12
  have H13 : Hid (∀ W, Below w.heap.size w W → Calls Try.prog 13 #[.int .i64 (s : Int), v, .int .i64 (c : Int)] W fun e w' => OzR W (ls.map (·.eraseIdx c)) e w' ∧ Below W.heap.size W w') := fun W b => Drop_ok s k c ls v W (hv.below b) hG hc hk
  have H15 : Hid (∀ W, Below w.heap.size w W → Calls Try.prog 15 #[v, .int .i64 (c : Int), .int .i64 (-1)] W fun e w' => (∃ y, e = .returned y ∧ OZ w' W.heap.size y (ls.map (·.eraseIdx c))) ∧ Below W.heap.size W w') := fun W b => by rw [← keL_all]; exact Without_any s k c (-1) ls v W (hv.rw.below b) hG hc
  have HLI : Hid (∀ (W : World) (x y : Value), Rw W x (ls.map (·.eraseIdx c)) → Rw W y (ls.map (·.eraseIdx c)) → Calls Try.prog 16 #[x, y] W fun e w' => e = .returned (.bool true) ∧ Below W.heap.size W w') := fun W x y hx hy => Lists_same _ x y W hx hy (by rw [List.length_map]; exact hm1) (fun l hl => by
    obtain ⟨m, hm, rfl⟩ := List.mem_map.1 hl
    exact Nat.le_trans (List.length_eraseIdx_le _ _) (hm2 m hm))
  obtain ⟨lv, rfl⟩ : ∃ q : Nat, lev = q := ⟨lev.toNat, by have := belB_iff.1 hb; omega⟩
  have hlv : lv < s := by have := belB_iff.1 hb; omega
  have d4 : decide ((lv : Int) < 0) = false := by simp
  have d5 : decide ((s : Int) ≤ (lv : Int)) = false := by simp; omega
  have d5n : decide (s ≤ lv) = false := by simp; omega
  have H14 : Hid (∀ W, Below w.heap.size w W → Calls Try.prog 14 #[.int .i64 (s : Int), v, .int .i64 (c : Int), .int .i64 (lv : Int)] W fun e w' => TkR W (tkL c lv ls) e w' ∧ Below W.heap.size W w') := fun W b => Take_ok s k c lv ls v W (hv.below b) hG hc hk hlv
  have H15b : Hid (∀ W, Below w.heap.size w W → Calls Try.prog 15 #[v, .int .i64 (c : Int), .int .i64 (lv : Int)] W fun e w' => (∃ y, e = .returned y ∧ OZ w' W.heap.size y (tkL c lv ls)) ∧ Below W.heap.size W w') := fun W b => by rw [← keL_lev]; exact Without_any s k c lv ls v W (hv.rw.below b) hG hc
  have H14b : Hid (∀ W, Below w.heap.size w W → Calls Try.prog 14 #[.int .i64 (s : Int), v, .int .i64 (c : Int), .int .i64 (lv : Int)] W fun e w' => OzR W (tkL c lv ls) e w' ∧ Below W.heap.size W w') := fun W b => (H14.out W b).mono (by
    rintro e w' ⟨⟨h, _⟩ | ⟨_, h⟩, b⟩
    · exact absurd h h0
    · exact ⟨h, b⟩)
  have HLJ : Hid (∀ (W : World) (x y : Value), Rw W x (tkL c lv ls) → Rw W y (tkL c lv ls) → Calls Try.prog 16 #[x, y] W fun e w' => e = .returned (.bool true) ∧ Below W.heap.size W w') := fun W x y hx hy => Lists_same _ x y W hx hy (by
    unfold tkL
    rw [List.length_map]
    exact Nat.le_trans (List.length_filter_le _ _) hm1) (fun l hl => by
    obtain ⟨m, hm, rfl⟩ := List.mem_map.1 hl
    exact Nat.le_trans (List.length_eraseIdx_le _ _) (hm2 m (List.mem_filter.1 hm).1))
  obtain ⟨LT, HLT⟩ : ∃ LT, Hid (tkL c lv ls = LT) := ⟨_, rfl⟩
  rw [HLT.out] at H14b H15b HLJ h0
  obtain ⟨tl, Htl⟩ : ∃ tl, Hid (LT.length = tl) := ⟨_, rfl⟩
  have htl : 1 ≤ tl := by rw [← Htl.out]; exact List.length_pos_iff.2 h0
  have d6 : ((tl : Int) == 0) = false := by rw [beq_eq_false_iff_ne]; omega
  have d6n : (tl == 0) = false := by rw [beq_eq_false_iff_ne]; omega
  clear H14 h0
  obtain ⟨n, Hn⟩ : ∃ n, Hid (ls.length = n) := ⟨_, rfl⟩
  obtain ⟨LD, HLD⟩ : ∃ LD, Hid (ls.map (·.eraseIdx c) = LD) := ⟨_, rfl⟩
  rw [HLD.out] at H13 H15 HLI
  obtain ⟨dl, Hdl⟩ : ∃ dl, Hid (LD.length = dl) := ⟨_, rfl⟩
  obtain ⟨a, cap, rfl, -⟩ := hv
  clear hG hm1 hm2
  rw [Hn.out] at C12 H13 H15 H14b H15b ⊢
  go_enter Try.func4, Try.ntmps4
  go_wp2_with (first
    | (go_at_call 12; refine C12.mono ?_; rintro e1 w1 ⟨rfl, b1⟩; clear C12)
    | (go_at_call 13; refine (H13.out _ b1).mono ?_; rintro e2 w2 ⟨h2, b2⟩; obtain ⟨xa, xc, rfl, hx⟩ := h2.form; rw [Hdl.out] at hx ⊢; clear H13 h2; have b3 := Below.next b1 b2)
    | (go_at_call 14; refine (H14b.out _ b3).mono ?_; rintro e3 w3 ⟨h3, b4⟩; obtain ⟨ta, tc, rfl, ht⟩ := h3.form; rw [Htl.out] at ht ⊢; clear H14b h3; have b5 := Below.next b3 b4))
  refine (H15.out _ b5).mono ?_
  rintro e4 w4 ⟨⟨y, rfl, hy⟩, b6⟩
  obtain ⟨ya, yc, rfl⟩ := hy.form
  have CL := HLI.out w4 _ _ ((hx.rw.below b4).below b6) hy.rw
  rw [Hdl.out] at CL ⊢
  clear H15 hy
  have b7 := Below.next b5 b6
  go_wp2_with (go_at_call 16; refine CL.mono ?_; rintro e5 w5 ⟨rfl, b8⟩; clear CL; have b9 := Below.next b7 b8)
  refine (H15b.out _ b9).mono ?_
  rintro e6 w6 ⟨⟨z, rfl, hz⟩, b10⟩
  obtain ⟨za, zc, rfl⟩ := hz.form
  have CM := HLJ.out w6 _ _ (((ht.rw.below b6).below b8).below b10) hz.rw
  rw [Htl.out] at CM ⊢
  clear H15b hz HLJ ht
  have b11 := Below.next b9 b10
  go_wp2_with (go_at_call 16; refine CM.mono ?_; rintro e7 w7 ⟨rfl, b12⟩; clear CM)
  go_ret
  exact ⟨by simp, Below.next b11 b12⟩
theorem Parts_law (s col lev : Int) (ls : List (List Int)) (v : Value) (w : World) (_hs : (Lit.int .i64 s).wf = true) (_hc : (Lit.int .i64 col).wf = true) (_hl : (Lit.int .i64 lev).wf = true) (hC : CameC ls v w) :
    Calls Try.prog 4 #[.int .i64 s, v, .int .i64 col, .int .i64 lev] w fun e w' => e = .returned (.bool true) ∧ Below w.heap.size w w' := by
  obtain ⟨hv, hll, hl⟩ := hC
  by_cases hp : paF s ls col = 0
  · obtain ⟨s', k, c, rfl, rfl, hG, hc, hk⟩ := paF_good hp
    cases hb : belB (s' : Int) lev with
    | false => exact Parts_far s' k c lev ls v w hv hG hc hk hb
    | true =>
      by_cases h0 : tkL c lev ls = []
      · exact Parts_none s' k c lev ls v w hv hG hc hk hb h0
      · exact Parts_some s' k c lev ls v w hv hG hc hk hb h0
  · exact Parts_bad s col lev ls v w hv.rw hl hll hp
end Go.Proofs.Ytjfjdidibglhaaa
