/- The walk of Triangle's pairs. -/
import Derived.Test.YtlmjlffipinjiaaSP11
import Derived.Deep.RegionHeld3
import Derived.Deep.QuietTactic
namespace Go.Proofs.Ytlmjlffipinjiaa
open Go.RowKit Go.Shelf

attribute [local go_sem] Oper.semAt_some
def shB (x y : Nat) : Bool := x / 32 == y / 32 || x / 32 == y % 32 || x % 32 == y / 32 || x % 32 == y % 32
def shL (n a b : Nat) : Bool := shB ((prL n).getD a 0) ((prL n).getD b 0)
theorem tr_len : ∀ n : Fin 8, tN n.val = (prL n.val).length ∧ (prL n.val).length ≤ 21 := by decide +kernel
theorem tr_sh : ∀ n : Fin 8, ∀ a b : Fin 21, a.val < b.val → b.val < (prL n.val).length → trG n.val a.val b.val = if shL n.val a.val b.val then 1 else 0 := by decide +kernel
/-- Pairs as cells. -/
def vPr (l : List Nat) : List Value := l.flatMap fun x => [.int .i64 ((x / 32 : Nat) : Int), .int .i64 ((x % 32 : Nat) : Int)]
theorem vPr_len (l : List Nat) : (vPr l).length = l.length * 2 := by
  induction l with
  | nil => rfl
  | cons x l ih =>
    have e : vPr (x :: l) = [.int .i64 ((x / 32 : Nat) : Int), .int .i64 ((x % 32 : Nat) : Int)] ++ vPr l := by simp [vPr]
    rw [e, List.length_append, ih, List.length_cons, List.length_cons, List.length_cons, List.length_nil]
    omega
theorem vPr_snoc (l : List Nat) (x : Nat) : vPr (l ++ [x]) = vPr l ++ [.int .i64 ((x / 32 : Nat) : Int), .int .i64 ((x % 32 : Nat) : Int)] := by simp [vPr]
theorem vPr_at : ∀ (l : List Nat) (j : Nat), j < l.length → (vPr l)[j * 2]? = some (.int .i64 ((l.getD j 0 / 32 : Nat) : Int)) ∧ (vPr l)[j * 2 + 1]? = some (.int .i64 ((l.getD j 0 % 32 : Nat) : Int))
  | x :: l, 0, _ => by simp [vPr]
  | x :: l, j + 1, h => by
    have := vPr_at l j (by simpa using h)
    rw [show (j + 1) * 2 = j * 2 + 2 by omega]
    simpa [vPr, List.flatMap_cons] using this
theorem info66 : ∃ i, Try.prog.info? 66 = some i ∧ i.zero = some (.agg #[.int .i64 0, .int .i64 0]) ∧ i.size = 2 ∧ i.bytes = 16 := by
  refine ⟨_, rfl, ?_, ?_, ?_⟩ <;> kernel_rfl
/-- The pairs' list as it is read: cells, and its box. -/
def PrW (w : World) (gb : Nat) (l : List Nat) : Prop := ∃ (g cap : Nat), Boxed w gb 65 (.slice (some ⟨g, 0, none⟩) l.length cap) ∧ g < w.heap.size ∧ ∀ j, j < l.length → w.cell? ⟨g, j * 2, none⟩ = some (.int .i64 ((l.getD j 0 / 32 : Nat) : Int)) ∧ w.cell? ⟨g, j * 2 + 1, none⟩ = some (.int .i64 ((l.getD j 0 % 32 : Nat) : Int))
theorem PrW.below {w w' : World} {gb : Nat} {l : List Nat} (h : PrW w gb l) (hb : Below w.heap.size w w') : PrW w' gb l := by
  obtain ⟨g, cap, h1, h2, h3⟩ := h
  exact ⟨g, cap, boxB h1 hb h1.lt, Nat.lt_of_lt_of_le h2 hb.size, fun j hj => ⟨(hb.cell (p := ⟨g, j * 2, none⟩) h2).trans (h3 j hj).1, (hb.cell (p := ⟨g, j * 2 + 1, none⟩) h2).trans (h3 j hj).2⟩⟩

theorem two_al (w : World) (x0 x1 y0 y1 : Value) : ((w.alloc (.cells #[x0, x1] 66)).alloc (.cells #[y0, y1] 66)).drew.cell? ⟨w.heap.size, 0, none⟩ = some x0 ∧ ((w.alloc (.cells #[x0, x1] 66)).alloc (.cells #[y0, y1] 66)).drew.cell? ⟨w.heap.size, 1, none⟩ = some x1 ∧ ((w.alloc (.cells #[x0, x1] 66)).alloc (.cells #[y0, y1] 66)).drew.cell? ⟨w.heap.size + 1, 0, none⟩ = some y0 ∧ ((w.alloc (.cells #[x0, x1] 66)).alloc (.cells #[y0, y1] 66)).drew.cell? ⟨w.heap.size + 1, 1, none⟩ = some y1 ∧ Below w.heap.size w ((w.alloc (.cells #[x0, x1] 66)).alloc (.cells #[y0, y1] 66)).drew := by
  have h1 := row2 ((Below.heap_alloc (w.alloc (.cells #[x0, x1] 66)) (.cells #[y0, y1] 66) w.heap.size (by simp)).trans (heap_alloc_new w (.cells #[x0, x1] 66)))
  have h2 := heap_alloc_new (w.alloc (.cells #[x0, x1] 66)) (.cells #[y0, y1] 66)
  rw [World.size_alloc] at h2
  have h2 := row2 h2
  exact ⟨h1.1, h1.2.1, h2.1, h2.2.1, (Below.next (balloc w _) (balloc _ _)).drew⟩
set_option maxRecDepth 100000 in
set_option maxHeartbeats 8000000 in
theorem tri1_any (l : List Nat) (gb a b : Nat) (w : World) (hP : PrW w gb l) (ha : a < l.length) (hb : b < l.length) (_hl : l.length ≤ 99) :
    Calls Try.prog 38 #[.int .i64 (a : Int), .int .i64 (b : Int), .pointer (some ⟨gb, 0, none⟩)] w fun e w' => e = .returned (.bool (shB (l.getD a 0) (l.getD b 0))) ∧ Below w.heap.size w w' := by
  obtain ⟨g, cap, h1, h2, h3⟩ := hP
  have hgb := h1.lt
  have c0 := h1.cell
  obtain ⟨c1, c2⟩ := h3 a ha
  obtain ⟨c3, c4⟩ := h3 b hb
  obtain ⟨p, hp⟩ : ∃ p, l.getD a 0 / 32 = p := ⟨_, rfl⟩
  obtain ⟨q, hq⟩ : ∃ p, l.getD a 0 % 32 = p := ⟨_, rfl⟩
  obtain ⟨r, hr⟩ : ∃ p, l.getD b 0 / 32 = p := ⟨_, rfl⟩
  obtain ⟨s, hs⟩ : ∃ p, l.getD b 0 % 32 = p := ⟨_, rfl⟩
  have HR : Hid (shB (l.getD a 0) (l.getD b 0) = (p == r || p == s || q == r || q == s)) := by
    show shB _ _ = _
    unfold shB
    rw [hp, hq, hr, hs]
  rw [hp] at c1
  rw [hq] at c2
  rw [hr] at c3
  rw [hs] at c4
  rw [HR.out]
  have hA : (a : Int) < l.length := by omega
  have hB : (b : Int) < l.length := by omega
  generalize l.length = n at *
  have k1 : ∀ p x, w.cell? p = some x → w.drew.cell? p = some x := fun _ _ h => h
  have al : ∀ (W : World) (o : Obj) (p : Addr) (x : Value), p.block < W.heap.size → W.cell? p = some x → (W.alloc o).drew.cell? p = some x := fun W o p x hp h => ((balloc W o).cell hp).trans h
  clear h1 h3 hp hq hr hs
  go_enter Try.func38, Try.ntmps38
  have KK : ∀ W : World, Below w.heap.size w W → (W.cell? ⟨gb, 0, none⟩ = some (.slice (some ⟨g, 0, none⟩) n cap) ∧ W.cell? ⟨g, a * 2, none⟩ = some (.int .i64 (p : Int)) ∧ W.cell? ⟨g, a * 2 + 1, none⟩ = some (.int .i64 (q : Int)) ∧ W.cell? ⟨g, b * 2, none⟩ = some (.int .i64 (r : Int)) ∧ W.cell? ⟨g, b * 2 + 1, none⟩ = some (.int .i64 (s : Int))) := fun W hW =>
    ⟨(hW.cell (p := ⟨gb, 0, none⟩) hgb).trans c0, (hW.cell (p := ⟨g, a * 2, none⟩) h2).trans c1, (hW.cell (p := ⟨g, a * 2 + 1, none⟩) h2).trans c2, (hW.cell (p := ⟨g, b * 2, none⟩) h2).trans c3, (hW.cell (p := ⟨g, b * 2 + 1, none⟩) h2).trans c4⟩
  have S0 := KK w.drew (Below.refl _ w).drew
  go_wp2
  refine Code.wp_mono (Q := fun e a' w' => e = .normal ∧ ∃ (g1 g2 : Nat) (u8 u9 u10 u11 u12 u13 u14 u15 : Value), a' = { tmps := #[.int .i64 (a : Int), .int .i64 (b : Int), .pointer (some ⟨gb, 0, none⟩), undef, undef, .bool false, .pointer (some ⟨g1, 0, none⟩), .pointer (some ⟨g2, 0, none⟩), u8, u9, u10, u11, u12, u13, u14, u15, undef, undef, undef, undef, undef, undef, undef, undef, undef, undef, undef, undef, undef, undef, undef, undef, undef, undef, undef, undef, undef, undef, undef, undef, undef, undef], defers := [] } ∧ w'.cell? ⟨g1, 0, none⟩ = some (.int .i64 (p : Int)) ∧ w'.cell? ⟨g1, 1, none⟩ = some (.int .i64 (q : Int)) ∧ w'.cell? ⟨g2, 0, none⟩ = some (.int .i64 (r : Int)) ∧ w'.cell? ⟨g2, 1, none⟩ = some (.int .i64 (s : Int)) ∧ Below w.heap.size w w') ?rest ?region
  case region =>
    go_region_held3 (fun W => W.cell? ⟨gb, 0, none⟩ = some (.slice (some ⟨g, 0, none⟩) n cap) ∧ W.cell? ⟨g, a * 2, none⟩ = some (.int .i64 (p : Int)) ∧ W.cell? ⟨g, a * 2 + 1, none⟩ = some (.int .i64 (q : Int)) ∧ W.cell? ⟨g, b * 2, none⟩ = some (.int .i64 (r : Int)) ∧ W.cell? ⟨g, b * 2 + 1, none⟩ = some (.int .i64 (s : Int))) (first | assumption | (refine KK _ ?_; repeat (first | exact Below.refl _ _ | refine Below.drew ?_ | refine Below.alloc ?_ (by simp; try omega) _ | refine Below.setCell ?_ (by simp; try omega) _))) (fail)
    · obtain ⟨q0, q1, q2, q3, q4⟩ := two_al w (.int .i64 (p : Int)) (.int .i64 (q : Int)) (.int .i64 (r : Int)) (.int .i64 (s : Int))
      exact ⟨rfl, _, _, _, _, _, _, _, _, _, _, rfl, q0, q1, q2, q3, q4⟩
    · obtain ⟨q0, q1, q2, q3, q4⟩ := two_al w (.int .i64 (r : Int)) (.int .i64 (s : Int)) (.int .i64 (p : Int)) (.int .i64 (q : Int))
      exact ⟨rfl, _, _, _, _, _, _, _, _, _, _, rfl, q2, q3, q0, q1, q4⟩
  case rest =>
    rintro e a' w' ⟨rfl, g1, g2, u8, u9, u10, u11, u12, u13, u14, u15, rfl, d1, d2, d3, d4, hb⟩
    clear KK S0 c0 c1 c2 c3 c4 al k1
    by_cases t1 : p = r
    · have f1 : ((p : Int) == (r : Int)) = true := by simp [t1]
      have HF : Hid ((p == r || p == s || q == r || q == s) = true) := (by simp [t1] : (p == r || p == s || q == r || q == s) = true)
      clear t1
      go_wp2
      go_ret
      exact ⟨by rw [HF.out]; rfl, hb⟩
    · have f1 : ((p : Int) == (r : Int)) = false := by simp; omega
      by_cases t2 : p = s
      · have f2 : ((p : Int) == (s : Int)) = true := by simp [t2]
        have HF : Hid ((p == r || p == s || q == r || q == s) = true) := (by simp [t2] : (p == r || p == s || q == r || q == s) = true)
        clear t1 t2
        go_wp2
        go_ret
        exact ⟨by rw [HF.out]; rfl, hb⟩
      · have f2 : ((p : Int) == (s : Int)) = false := by simp; omega
        by_cases t3 : q = r
        · have f3 : ((q : Int) == (r : Int)) = true := by simp [t3]
          have HF : Hid ((p == r || p == s || q == r || q == s) = true) := (by simp [t3] : (p == r || p == s || q == r || q == s) = true)
          clear t1 t2 t3
          go_wp2
          go_ret
          exact ⟨by rw [HF.out]; rfl, hb⟩
        · have f3 : ((q : Int) == (r : Int)) = false := by simp; omega
          have f4 : ((q : Int) == (s : Int)) = (q == s) := by rw [Bool.eq_iff_iff]; simp; omega
          have HF : Hid ((p == r || p == s || q == r || q == s) = (q == s)) := (by simp [t1, t2, t3] : (p == r || p == s || q == r || q == s) = (q == s))
          clear t1 t2 t3
          go_wp2
          go_ret
          exact ⟨by rw [HF.out, ← f4]; rfl, hb⟩
end Go.Proofs.Ytlmjlffipinjiaa
