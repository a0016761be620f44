/- The law StrongOther of a graph over what the faces tell. -/
import Derived.Test.YtlmjlffipinjiaaST3
namespace Go.Proofs.Ytlmjlffipinjiaa
open Go.RowKit

theorem row4c {w : World} {g : Nat} {x0 x1 x2 x3 : Value} {t : TypeId} (h : w.heap[g]? = some (.cells #[x0, x1, x2, x3] t (0, 0))) : w.cell? ⟨g, 0, none⟩ = some x0 ∧ w.cell? ⟨g, 1, none⟩ = some x1 ∧ w.cell? ⟨g, 2, none⟩ = some x2 ∧ w.cell? ⟨g, 3, none⟩ = some x3 := by
  refine ⟨?_, ?_, ?_, ?_⟩ <;> rw [cell_of_row _ _ _ _ _ _ h] <;> rfl
set_option maxRecDepth 100000 in
set_option maxHeartbeats 16000000 in
theorem Other_ok (hT : FTri) (hN : FNum) (hO : FOth) (n : Nat) (L : List Int) (v : Value) (w : World) (hv : Sl w v L) (G : GoodG n L) :
    Calls Try.prog 5 #[.agg #[.int .i64 (n : Int), v]] w fun e w' => e = .returned (.bool true) ∧ Below w.heap.size w w' := by
  have hml : ∀ {l : List Int}, l.length = n * n → l.length ≤ maxLen := fun {l} h => by
    rw [h]; have := sq576 G.le; unfold maxLen; omega
  have hlo : (otC n L).length = n * n := by simp [otC]
  have b0 := balloc w (.cells #[.int .i64 (n : Int), v] 24)
  have C0 := strongFact_any hT hN (w.alloc (.cells #[.int .i64 (n : Int), v] 24))
  have oth : ∀ {l : List Int}, GoodG n l → ∀ y W, Sl W y l → Calls Try.prog 10 #[.agg #[.int .i64 (n : Int), y]] W fun e w' => (∃ y', e = .returned (.tuple #[.agg #[.int .i64 (n : Int), y'], .int .i64 0]) ∧ OwnS w' y' (otC n l)) ∧ Below W.heap.size W w' := fun {l} Gl y W h => by
    have k := hO n l y W h (hml Gl.len)
    have e1 : otS n l = n := if_pos (gF_good Gl)
    have e2 : otL n l = otC n l := if_pos (gF_good Gl)
    rw [e1, e2, gF_good Gl] at k
    exact k
  have HC1 : Hid (∀ W, Below w.heap.size w W → Calls Try.prog 10 #[.agg #[.int .i64 (n : Int), v]] W fun e w' => (∃ y', e = .returned (.tuple #[.agg #[.int .i64 (n : Int), y'], .int .i64 0]) ∧ OwnS w' y' (otC n L)) ∧ Below W.heap.size W w') := fun W b => oth G v W (hv.below b)
  have HC2 : Hid (∀ y W, Sl W y (otC n L) → Calls Try.prog 10 #[.agg #[.int .i64 (n : Int), y]] W fun e w' => (∃ y', e = .returned (.tuple #[.agg #[.int .i64 (n : Int), y'], .int .i64 0]) ∧ OwnS w' y' L) ∧ Below W.heap.size W w') := fun y W h => by
    have k := oth (ot_good G) y W h
    rw [ot_ot G] at k
    exact k
  have HC3 : Hid (∀ y W, Sl W y L → Below w.heap.size w W → Calls Try.prog 12 #[.agg #[.int .i64 (n : Int), y], .agg #[.int .i64 (n : Int), v]] W fun e w' => e = .returned (.bool true) ∧ Below W.heap.size W w') := fun y W h b => Squares_same n L y v W h (hv.below b) (hml G.len)
  have HC4 : Hid (∀ W, Below w.heap.size w W → Calls Try.prog 9 #[.agg #[.int .i64 (n : Int), v]] W fun e w' => (∃ (P D N F : Int) (u : Nat), e = .returned (.tuple #[.agg #[.int .i64 P, .int .i64 D, .int .i64 N, .int .i64 F], .int .i64 (u : Int)]) ∧ NuR n L P D N F u) ∧ Below W.heap.size W w') := fun W b => hN n L v W (hv.below b) (hml G.len)
  have HC5 : Hid (∀ y W, Sl W y (otC n L) → Calls Try.prog 9 #[.agg #[.int .i64 (n : Int), y]] W fun e w' => (∃ (P D N F : Int) (u : Nat), e = .returned (.tuple #[.agg #[.int .i64 P, .int .i64 D, .int .i64 N, .int .i64 F], .int .i64 (u : Int)]) ∧ NuR n (otC n L) P D N F u) ∧ Below W.heap.size W w') := fun y W h => hN n (otC n L) y W h (hml hlo)
  have HNU : Hid (∀ {P D N F P' D' N' F' : Int} {u u' : Nat}, NuR n L P D N F u → NuR n (otC n L) P' D' N' F' u' → u = u' ∧ (u = 0 → P = n ∧ P' = n ∧ D' = n - 1 - D ∧ 0 ≤ D ∧ D + 1 ≤ n ∧ 0 ≤ N ∧ N ≤ n ∧ 0 ≤ F ∧ F ≤ n ∧ 0 ≤ N' ∧ N' ≤ n ∧ 0 ≤ F' ∧ F' ≤ n ∧ (D ≠ 0 → D' ≠ 0 → N' = n - 2 - 2 * D + F ∧ F' = n - 2 * D + N))) := fun h h' => ot_nums G h h'
  have hn24 := G.le
  have hbox := heap_alloc_new w (.cells #[.int .i64 (n : Int), v] 24)
  obtain ⟨va, vc, rfl⟩ := sl_len hv
  obtain ⟨z, hz⟩ : ∃ z, n * n = z := ⟨_, rfl⟩
  have hLl : L.length = z := by rw [← hz]; exact G.len
  rw [hz] at hlo
  rw [hLl] at C0 b0 hbox HC1 HC3 HC4 ⊢
  generalize otC n L = M at *
  clear hv oth hml hz G
  go_enter Try.func5, Try.ntmps5
  go_wp2_with (first
    | (go_at_call 16; refine C0.mono ?_; rintro e w1 ⟨rfl, b1⟩; clear C0; have hbox1 := (b1.block _ (by simp)).trans hbox; obtain ⟨x0, x1, _, _⟩ := row2 hbox1; have B1 := Below.next b0 b1; have C1 := HC1.out _ B1; clear HC1)
    | (go_at_call 10; refine C1.mono ?_; rintro e w2 ⟨⟨y, rfl, hy⟩, b2⟩; clear C1; obtain ⟨ya, yc, ey⟩ := hy.len; rw [hlo] at ey; subst ey; have b2' := Below.next b2 (balloc w2 (.cells #[.int .i64 (n : Int), .slice ya z yc] 24)); have hob := heap_alloc_new w2 (.cells #[.int .i64 (n : Int), .slice ya z yc] 24); have hbox2 := (b2'.block _ (Array.getElem?_eq_some_iff.1 hbox1).1).trans hbox1; obtain ⟨ob, hobe⟩ : ∃ q, w2.heap.size = q := ⟨_, rfl⟩; rw [hobe] at hob; have hy2 := hy.sl.below (balloc w2 (.cells #[.int .i64 (n : Int), .slice ya z yc] 24)); have C2 := HC2.out _ _ hy2; clear HC2 x0 x1; obtain ⟨x0, x1, _, _⟩ := row2 hbox2; obtain ⟨o0, o1, _, _⟩ := row2 hob; have B2 := Below.next B1 b2')
    | (go_at_call 10; fail))
  refine C2.mono ?_
  rintro e w3 ⟨⟨p, rfl, hp⟩, b3⟩
  clear C2 x0 x1 o0 o1
  obtain ⟨pa, pc, ep⟩ := hp.len
  rw [hLl] at ep
  subst ep
  have b3' := Below.next b3 (balloc w3 (.cells #[.int .i64 (n : Int), .slice pa z pc] 24))
  have hpb := heap_alloc_new w3 (.cells #[.int .i64 (n : Int), .slice pa z pc] 24)
  have hbox3 := (b3'.block _ (Array.getElem?_eq_some_iff.1 hbox2).1).trans hbox2
  have hob3 := (b3'.block _ (Array.getElem?_eq_some_iff.1 hob).1).trans hob
  have hp3 := hp.sl.below (balloc w3 (.cells #[.int .i64 (n : Int), .slice pa z pc] 24))
  have hy3 := hy2.below b3'
  have B3 := Below.next B2 b3'
  have C3 := HC3.out _ _ hp3 B3
  obtain ⟨pb, hpbe⟩ : ∃ q, w3.heap.size = q := ⟨_, rfl⟩
  rw [hpbe] at hpb
  obtain ⟨x0, x1, _, _⟩ := row2 hbox3
  obtain ⟨p0, p1, _, _⟩ := row2 hpb
  clear HC3 hob hbox2 hbox1 hbox
  go_wp2_with (first
    | (go_at_call 12; refine C3.mono ?_; rintro e w4 ⟨rfl, b4⟩; clear C3 x0 x1 p0 p1; have hbox4 := (b4.block _ (Array.getElem?_eq_some_iff.1 hbox3).1).trans hbox3; have hob4 := (b4.block _ (Array.getElem?_eq_some_iff.1 hob3).1).trans hob3; have hy4 := hy3.below b4; have B4 := Below.next B3 b4; have C4 := HC4.out _ B4; clear HC4 hbox3 hob3; obtain ⟨x0, x1, _, _⟩ := row2 hbox4)
    | (go_at_call 9; fail))
  refine C4.mono ?_
  rintro e w5 ⟨⟨P, D, N, F, u, rfl, hr⟩, b5⟩
  clear C4 x0 x1
  have b5' := Below.next b5 (balloc w5 (.cells #[.int .i64 P, .int .i64 D, .int .i64 N, .int .i64 F] 28))
  have hnb := heap_alloc_new w5 (.cells #[.int .i64 P, .int .i64 D, .int .i64 N, .int .i64 F] 28)
  have hob5 := (b5'.block _ (Array.getElem?_eq_some_iff.1 hob4).1).trans hob4
  have hy5 := hy4.below b5'
  have B5 := Below.next B4 b5'
  have C5 := HC5.out _ _ hy5
  obtain ⟨nb, hnbe⟩ : ∃ q, w5.heap.size = q := ⟨_, rfl⟩
  rw [hnbe] at hnb
  obtain ⟨o0, o1, _, _⟩ := row2 hob5
  clear HC5 hob4 hbox4
  go_wp2_with fail
  refine C5.mono ?_
  rintro e w6 ⟨⟨P', D', N', F', u', rfl, hr'⟩, b6⟩
  clear C5 o0 o1
  obtain ⟨huu, hnum⟩ := HNU.out hr hr'
  subst huu
  have b6' := Below.next b6 (balloc w6 (.cells #[.int .i64 P', .int .i64 D', .int .i64 N', .int .i64 F'] 28))
  have hmb := heap_alloc_new w6 (.cells #[.int .i64 P', .int .i64 D', .int .i64 N', .int .i64 F'] 28)
  have hnb6 := (b6'.block _ (Array.getElem?_eq_some_iff.1 hnb).1).trans hnb
  have B6 := Below.next B5 b6'
  obtain ⟨mb, hmbe⟩ : ∃ q, w6.heap.size = q := ⟨_, rfl⟩
  rw [hmbe] at hmb
  obtain ⟨n0, n1, n2, n3⟩ := row4c hnb6
  obtain ⟨m0, m1, m2, m3⟩ := row4c hmb
  have huu2 : ((u : Int) != (u : Int)) = false := by simp
  clear HNU hr hr' hnb hob5
  by_cases hu : u = 0
  · have du : ((u : Int) != 0) = false := by simp [hu]
    obtain ⟨rfl, rfl, hD', f1, f2, f3, f4, f5, f6, f7, f8, f9, f10, hfin⟩ := hnum hu
    have q1 : ((n : Int) != (n : Int)) = false := by simp
    have w1' := wrapZ (z := (n : Int) - 1) (by omega) (by omega)
    have w2' := wrapZ (z := (n : Int) - 1 - D) (by omega) (by omega)
    have q2 : (D' != (n : Int) - 1 - D) = false := by simp [hD']
    have g1 : 0 ≤ D' ∧ D' ≤ 99 := by omega
    obtain ⟨g2, g3⟩ := g1
    clear hu hD' hnum
    by_cases hD : D = 0
    · have dD : (D == 0) = true := by simp [hD]
      clear hD hfin
      go_wp2
      go_ret
      exact ⟨rfl, B6⟩
    · have dD : (D == 0) = false := by simp [hD]
      by_cases hE : D' = 0
      · have dE : (D' == 0) = true := by simp [hE]
        clear hD hE hfin
        go_wp2
        go_ret
        exact ⟨rfl, B6⟩
      · have dE : (D' == 0) = false := by simp [hE]
        obtain ⟨r1, r2⟩ := hfin hD hE
        have v1 := wrapZ (z := (n : Int) - 2) (by omega) (by omega)
        have v2 := wrapZ (z := 2 * D) (by omega) (by omega)
        have v3 := wrapZ (z := (n : Int) - 2 - 2 * D) (by omega) (by omega)
        have v4 := wrapZ (z := (n : Int) - 2 - 2 * D + F) (by omega) (by omega)
        have v5 := wrapZ (z := (n : Int) - 2 * D) (by omega) (by omega)
        have v6 := wrapZ (z := (n : Int) - 2 * D + N) (by omega) (by omega)
        have e1 : (N' == (n : Int) - 2 - 2 * D + F) = true := by simp [r1]
        have e2 : (F' == (n : Int) - 2 * D + N) = true := by simp [r2]
        clear hD hE hfin r1 r2
        go_wp2
        go_ret
        exact ⟨rfl, B6⟩
  · have du : ((u : Int) != 0) = true := by simp; omega
    clear hu hnum
    go_wp2
    go_ret
    exact ⟨rfl, B6⟩
theorem Other_law (hT : FTri) (hN : FNum) (hO : FOth) (s : Int) (L : List Int) (v : Value) (w : World) (hv : Sl w v L) (hl : L.length ≤ maxLen) :
    Calls Try.prog 5 #[.agg #[.int .i64 s, v]] w fun e w' => e = .returned (.bool true) ∧ Below w.heap.size w w' := by
  by_cases hz : gF s L = 0
  · obtain ⟨n, rfl, G⟩ := gF_ok hz
    exact Other_ok hT hN hO n L v w hv G
  · exact Other_bad hT hN hO s L v w hv hl hz
end Go.Proofs.Ytlmjlffipinjiaa
