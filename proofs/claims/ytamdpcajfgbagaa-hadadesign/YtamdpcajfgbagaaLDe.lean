/- The law HadaDesign. -/
import Derived.Test.YtamdpcajfgbagaaH9
import Derived.Test.YtamdpcajfgbagaaE9
namespace Go.Proofs.Ytamdpcajfgbagaa
open Go.RowKit

theorem hb_good {v : Nat} (E : Nat → Nat → Int) (h1 : 1 ≤ v) (h2 : v ≤ 23) : GoodD v (hbL v E) := by
  refine ⟨h1, by omega, by simp [hbL]; omega, fun b hb => ?_⟩
  obtain ⟨i, _, rfl⟩ := List.mem_map.1 hb
  exact rs_iff.2 ⟨List.pairwise_lt_range.sublist List.filter_sublist, fun x hx => ⟨by omega, List.mem_range.1 (List.mem_filter.1 hx).1⟩⟩
theorem hb_ok {n t : Nat} {L : List Int} (G : GoodH n L) (h4 : 4 ≤ n) (ht : n = 4 * t) : LvOk (n - 1) (hbL (n - 1) (evn (mx n L))) 2 (2 * t - 1) (t - 1) := by
  obtain ⟨v, rfl⟩ : ∃ v, n = v + 1 := ⟨n - 1, by omega⟩
  rw [Nat.add_sub_cancel]
  have hE := G.had.even G.pos
  have r0 : ∀ j, j < v + 1 → evn (mx (v + 1) L) 0 j = 1 := fun j hj => G.had.rim_c G.pos hj
  have c0 : ∀ i, i < v + 1 → evn (mx (v + 1) L) i 0 = 1 := fun i hi => G.had.rim_r G.pos hi
  refine ⟨?_, fun b hb => ?_, hb_lev hE r0 c0 ht⟩
  · intro e
    have := congrArg List.length e
    simp [hbL] at this
    omega
  · obtain ⟨i, hi, rfl⟩ := List.mem_map.1 hb
    exact hb_size hE r0 c0 ht (List.mem_range.1 hi)
theorem Level_hb (n t : Nat) (L : List Int) (u : Value) (w : World) (G : GoodH n L) (h4 : 4 ≤ n) (ht : n = 4 * t) (hu : Rw w u (toZ (hbL (n - 1) (evn (mx n L))))) :
    Calls Try.prog 17 #[.agg #[.int .i64 ((n - 1 : Nat) : Int), u], .int .i64 2] w fun e w' => e = .returned (.tuple #[.int .i64 ((2 * t - 1 : Nat) : Int), .int .i64 ((t - 1 : Nat) : Int), .int .i64 0]) ∧ Below w.heap.size w w' := by
  have hle := G.le
  refine (Level_any (n - 1) 2 _ u w (hb_good _ (by omega) (by omega)) hu).mono ?_
  rintro e w' ⟨hL, hb⟩
  refine ⟨hL.one (.inr ⟨2, rfl, by omega, by omega, .inl ⟨_, _, hb_ok G h4 ht, rfl⟩⟩), hb⟩
set_option maxHeartbeats 4000000 in
theorem Des_off (s : Int) (z : Nat) (v : Value) (w : World) (hv : ∃ a n c, v = .slice a n c) (hz : z ≠ 0)
    (C : ∀ W, Below w.heap.size w W → Calls Try.prog 11 #[.agg #[.int .i64 s, v]] W fun e w' => e = .returned (.tuple #[.agg #[.int .i64 0, .slice none 0 0], .int .i64 (z : Int)]) ∧ Below W.heap.size W w') :
    Calls Try.prog 5 #[.agg #[.int .i64 s, v]] w fun e w' => e = .returned (.bool true) ∧ Below w.heap.size w w' := by
  have b0 := balloc w (.cells #[.int .i64 s, v] 24)
  have C0 := hadaFact_any (w.alloc (.cells #[.int .i64 s, v] 24))
  have HC : Hid (∀ W, Below w.heap.size w W → Calls Try.prog 11 #[.agg #[.int .i64 s, v]] W fun e w' => e = .returned (.tuple #[.agg #[.int .i64 0, .slice none 0 0], .int .i64 (z : Int)]) ∧ Below W.heap.size W w') := C
  have hne : ((z : Int) != 0) = true := by simp; omega
  clear hz C
  obtain ⟨va, vn, vc, rfl⟩ := hv
  go_enter Try.func5, Try.ntmps5
  go_wp2_with (first
    | (go_at_call 16; refine C0.mono ?_; rintro e w1 ⟨rfl, b1⟩; clear C0; obtain ⟨x0, x1⟩ := sq_box _ _ _ _ b1; have B1 := Below.next b0 b1; have D := HC.out _ B1; clear HC)
    | (go_at_call 11; refine D.mono ?_; rintro e w2 ⟨rfl, b2⟩; clear D))
  go_ret
  exact ⟨rfl, Below.next (Below.next B1 b2) (balloc _ _)⟩
set_option maxHeartbeats 8000000 in
theorem Des_ok (n t : Nat) (L : List Int) (v : Value) (w : World) (hv : Sl w v L) (G : GoodH n L) (h4 : 4 ≤ n) (ht : n = 4 * t) :
    Calls Try.prog 5 #[.agg #[.int .i64 (n : Int), v]] w fun e w' => e = .returned (.bool true) ∧ Below w.heap.size w w' := by
  have hle := G.le
  have b0 := balloc w (.cells #[.int .i64 (n : Int), v] 24)
  have C0 := hadaFact_any (w.alloc (.cells #[.int .i64 (n : Int), v] 24))
  have C1 : Hid (∀ W, Below w.heap.size w W → Calls Try.prog 11 #[.agg #[.int .i64 (n : Int), v]] W fun e w' => (∃ y, e = .returned (.tuple #[.agg #[.int .i64 ((n - 1 : Nat) : Int), y], .int .i64 0]) ∧ OR w' (W.heap.size + 2) y (hbL (n - 1) (evn (mx n L)))) ∧ Below W.heap.size W w') := fun W b => Blocks_ok n L v W (hv.below b) G h4
  have C2 : Hid (∀ y W, Rw W y (toZ (hbL (n - 1) (evn (mx n L)))) → Calls Try.prog 17 #[.agg #[.int .i64 ((n - 1 : Nat) : Int), y], .int .i64 2] W fun e w' => e = .returned (.tuple #[.int .i64 ((2 * t - 1 : Nat) : Int), .int .i64 ((t - 1 : Nat) : Int), .int .i64 0]) ∧ Below W.heap.size W w') := fun y W hu => Level_hb n t L y W G h4 ht hu
  have HLn : Hid ((hbL (n - 1) (evn (mx n L))).length = n - 1) := by show _ = _; simp [hbL]
  generalize hbL (n - 1) (evn (mx n L)) = M at *
  obtain ⟨p, Hp⟩ : ∃ p, Hid (n - 1 = p) := ⟨_, rfl⟩
  rw [Hp.out] at C1 C2 HLn
  have hq : (n : Int) / 4 = (t : Int) := by omega
  have hq2 : (n : Int).tdiv 4 = (t : Int) := by rw [Int.tdiv_eq_ediv_of_nonneg (by omega)]; exact hq
  have hp1 : (n : Int) - 1 = (p : Int) := by rw [← Hp.out]; omega
  obtain ⟨k, Hk⟩ : ∃ k, Hid (2 * t - 1 = k) := ⟨_, rfl⟩
  obtain ⟨l, Hl⟩ : ∃ l, Hid (t - 1 = l) := ⟨_, rfl⟩
  rw [Hk.out, Hl.out] at C2
  have hk1 : 2 * (t : Int) - 1 = (k : Int) := by rw [← Hk.out]; omega
  have hl1 : (t : Int) - 1 = (l : Int) := by rw [← Hl.out]; omega
  have ht24 : t ≤ 99 := by omega
  have e1 : ((k : Int) == (k : Int)) = true := by simp
  have e2 : ((l : Int) == (l : Int)) = true := by simp
  have e3 : ((p : Int) == (p : Int)) = true := by simp
  obtain ⟨va, vn, vc, rfl⟩ : ∃ a n c, v = .slice a n c := by obtain ⟨a, c, rfl, _⟩ := hv; exact ⟨_, _, _, rfl⟩
  have HB : Hid (Below w.heap.size w (w.alloc (.cells #[.int .i64 (n : Int), .slice va vn vc] 24))) := b0
  clear hv G b0 ht
  go_enter Try.func5, Try.ntmps5
  go_wp2_with (first
    | (go_at_call 16; refine C0.mono ?_; rintro e w1 ⟨rfl, b1⟩; clear C0; obtain ⟨x0, x1⟩ := sq_box _ _ _ _ b1; have B1 := Below.next HB.out b1; have D1 := C1.out _ B1; clear C1)
    | (go_at_call 11; refine D1.mono ?_; rintro e w2 ⟨⟨y, rfl, hO⟩, b2⟩; clear D1 x0 x1; obtain ⟨ya, yc, rfl⟩ := hO.cap; rw [HLn.out]; have bb := balloc w2 (.cells #[.int .i64 (p : Int), .slice ya p yc] 33); have D2 := C2.out (.slice ya p yc) _ ((show OR w2 _ (.slice ya p yc) M by rw [← HLn.out]; exact hO).below bb).rw; obtain ⟨x0, x1⟩ := sq_box _ _ _ _ (Below.next (Below.next b1 b2) bb); clear C2)
    | (go_at_call 17; refine D2.mono ?_; rintro e w3 ⟨rfl, b3⟩; clear D2 x0 x1; have hbb := (b3.block w2.heap.size (by simp)).trans (heap_alloc_new w2 (.cells #[.int .i64 (p : Int), .slice ya p yc] 33)); have y1 : w3.cell? ⟨w2.heap.size, 1, none⟩ = some (.slice ya p yc) := (by rw [cell_of_row _ _ _ _ _ _ hbb]; rfl); obtain ⟨x0, x1⟩ := sq_box _ _ _ _ (Below.next (Below.next (Below.next b1 b2) bb) b3)))
  go_ret
  exact ⟨rfl, Below.next (Below.next (Below.next B1 b2) bb) b3⟩
theorem Des_any (s : Int) (L : List Int) (v : Value) (w : World) (hv : Sl w v L) (hll : L.length ≤ maxLen) :
    Calls Try.prog 5 #[.agg #[.int .i64 s, v]] w fun e w' => e = .returned (.bool true) ∧ Below w.heap.size w w' := by
  have hs : ∃ a n c, v = .slice a n c := by obtain ⟨a, c, rfl, _⟩ := hv; exact ⟨_, _, _, rfl⟩
  by_cases hz : hF s L = 0
  · obtain ⟨n, rfl, G⟩ := hF_ok hz
    by_cases h4 : 4 ≤ n
    · exact Des_ok n (n / 4) L v w hv G h4 (by have := G.had.four (by omega); omega)
    · exact Des_off n 2 v w hs (by decide) fun W b => Blocks_small n L v W (hv.below b) G (by omega)
  · exact Des_off s (hF s L) v w hs hz fun W b => Blocks_bad s L v W (hv.below b) hll hz
end Go.Proofs.Ytamdpcajfgbagaa
