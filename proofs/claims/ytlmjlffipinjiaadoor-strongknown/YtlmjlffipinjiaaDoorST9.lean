/- What LatinFault tells. -/
import Derived.Test.YtlmjlffipinjiaaDoorSrP
import Derived.Test.YtlmjlffipinjiaaDoorL2
import Derived.Test.YtlmjlffipinjiaaDoorL5
/- The law StrongMakes over what the faces tell. -/
/- The law StrongKnown over what the faces tell. -/
/- Latin squares' graphs are strong. -/
namespace Go.Proofs.YtlmjlffipinjiaaDoor

theorem lat_u {n : Nat} {s : Nat → Nat → Nat} (h : Lat n s) : LatU n s where
  lt := h.lt
  row i x hi hx := by
    obtain ⟨j, hj, e⟩ := h.onto hi hx
    exact ⟨j, hj, e, fun k hk ek => h.row i hi k j hk hj (ek.trans e.symm)⟩
  col j x hj hx := by
    obtain ⟨i, hi, e⟩ := h.ontoC hj hx
    exact ⟨i, hi, e, fun k hk ek => h.col j hj k i hk hi (ek.trans e.symm)⟩
theorem lg_la {n : Nat} {L : List Int} (G : GoodS n L) {a b : Nat} (ha : a < n * n) (hb : b < n * n) : lgF n L a b = laG n (sq n L) a b := by
  have hn : 0 < n := G.pos
  have key : ∀ c, c < n * n → L.getD c 0 = (sq n L (c / n) (c % n) : Int) := fun c hc => by
    have h1 : c / n < n := Nat.div_lt_of_lt_mul hc
    have h2 : c % n < n := Nat.mod_lt _ hn
    have := G.val h1 h2
    rw [Nat.mul_comm, Nat.div_add_mod] at this
    exact this
  unfold lgF laG
  rw [key a ha, key b hb]
  by_cases h : a ≠ b ∧ (a / n = b / n ∨ a % n = b % n ∨ sq n L (a / n) (a % n) = sq n L (b / n) (b % n))
  · rw [if_pos h, if_pos ⟨h.1, by rcases h.2 with k | k | k; exact .inl k; exact .inr (.inl k); exact .inr (.inr (by rw [k]))⟩]
  · rw [if_neg h, if_neg fun k => h ⟨k.1, by rcases k.2 with q | q | q; exact .inl q; exact .inr (.inl q); exact .inr (.inr (by omega))⟩]
theorem lg_gr (n : Nat) (L : List Int) (v : Nat) : Gr v (lgF n L) where
  bit a b _ _ := by unfold lgF; split <;> simp
  sym a b _ _ := by
    unfold lgF
    by_cases h : a ≠ b ∧ (a / n = b / n ∨ a % n = b % n ∨ L.getD a 0 = L.getD b 0)
    · rw [if_pos h, if_pos ⟨Ne.symm h.1, by rcases h.2 with k | k | k; exact .inl k.symm; exact .inr (.inl k.symm); exact .inr (.inr k.symm)⟩]
    · rw [if_neg h, if_neg fun k => h ⟨Ne.symm k.1, by rcases k.2 with q | q | q; exact .inl q.symm; exact .inr (.inl q.symm); exact .inr (.inr q.symm)⟩]
  diag a _ := if_neg fun h => h.1 rfl
theorem lg_good {n : Nat} {L : List Int} (h1 : 1 ≤ n) (h4 : n ≤ 4) : GoodG (n * n) (lgC n L) := by
  have h16 : n * n ≤ 16 := Nat.le_trans (Nat.mul_le_mul h4 h4) (by decide)
  have hp : 0 < n * n := Nat.mul_pos h1 h1
  exact ⟨hp, by omega, by simp [lgC], (lg_gr n L (n * n)).congr fun a b ha hb => gx_range (lgF n L) ha hb⟩
/-- The numbers of a Latin square's graph. -/
theorem lg_stn {n : Nat} {L : List Int} (G : GoodS n L) (h3 : 3 ≤ n) (h4 : n ≤ 4) : StN (n * n) (3 * (n - 1)) n 6 (gx (n * n) (lgC n L)) := by
  have S := (la_stg (lat_u G.lat)).congr (B := gx (n * n) (lgC n L)) fun a b ha hb => (gx_range (lgF n L) ha hb).trans (lg_la G ha hb)
  have GG := lg_good (L := L) G.pos h4
  have hnn : 3 * n ≤ n * n := Nat.mul_le_mul_right n h3
  exact S.stn GG.gr GG.pos (by omega) (by push_cast; have : (3 * (n : Int)) ≤ n * n := by exact_mod_cast hnn
                                          omega)
end Go.Proofs.YtlmjlffipinjiaaDoor

namespace Go.Proofs.YtlmjlffipinjiaaDoor
open Go.RowKit

theorem OwnS.put {w : World} {y u v : Value} {l : List Int} {b : Nat} {cs : Array Value} (h : OwnS w y l) (hb : w.heap[b]? = some (.cells cs 26 (0, 0))) : OwnS ((w.setCell ⟨b, 0, none⟩ u).setCell ⟨b, 1, none⟩ v) y l := by
  rcases h with h | ⟨g, cap, e, h⟩
  · exact .inl h
  · exact .inr ⟨g, cap, e, (h.other ⟨b, 0, none⟩ u (own_ne24 h hb)).other ⟨b, 1, none⟩ v (own_ne24 h hb)⟩
/-- What is told of Paley's graph. -/
def PaR (p k : Int) (l : List Int) (n : Int) (M : List Int) (e : Int) : Prop := (Fd.FaultIs p k l e ∧ e ≠ 0 ∧ n = 0 ∧ M = []) ∨ ∃ P K : Nat, p = P ∧ k = K ∧ Fd.GoodF P K l ∧ e = paE (P ^ K) ∧ ((e ≠ 0 ∧ n = 0 ∧ M = []) ∨ (e = 0 ∧ n = ((P ^ K : Nat) : Int) ∧ M = pgC (P ^ K) (Fd.addQ P K) (Fd.mulQ P K (Fd.monL l))))
theorem PaR.num {p k : Int} {l : List Int} {n : Int} {M : List Int} {e : Int} (h : PaR p k l n M e) : e ≠ 0 ∨ (e = 0 ∧ ∃ q : Nat, n = q ∧ PaN q M) := by
  rcases h with ⟨_, h, _⟩ | ⟨P, K, rfl, rfl, hG, he, ⟨h, _⟩ | ⟨h, rfl, rfl⟩⟩
  · exact .inl h
  · exact .inl h
  · exact .inr ⟨h, _, rfl, paley_num hG (by omega)⟩
def LaR (s : Int) (L : List Int) (n : Int) (M : List Int) (u : Nat) : Prop := (lF s L ≠ 0 ∧ u = lF s L ∧ n = 0 ∧ M = []) ∨ ∃ m : Nat, s = m ∧ GoodS m L ∧ ((4 < m ∧ u = 3 ∧ n = 0 ∧ M = []) ∨ (m ≤ 4 ∧ u = 0 ∧ n = ((m * m : Nat) : Int) ∧ M = lgC m L))
theorem LaR.num {s : Int} {L : List Int} {n : Int} {M : List Int} {u : Nat} (h : LaR s L n M u) : u ≠ 0 ∨ (u = 0 ∧ s < 3) ∨ (u = 0 ∧ ∃ m q : Nat, s = m ∧ (m = 3 ∨ m = 4) ∧ n = (q : Int) ∧ GoodG q M ∧ StN q (3 * (m - 1)) m 6 (gx q M)) := by
  rcases h with ⟨h0, rfl, _⟩ | ⟨m, rfl, G, ⟨_, rfl, _⟩ | ⟨h4, rfl, rfl, rfl⟩⟩
  · exact .inl h0
  · exact .inl (by decide)
  · right
    by_cases h3 : m < 3
    · exact .inl ⟨rfl, by omega⟩
    · exact .inr ⟨rfl, m, m * m, rfl, by omega, rfl, lg_good G.pos h4, lg_stn G (by omega) h4⟩
def FPal : Prop := ∀ (p k : Int) (l : List Int) (u : Value) (W : World), Fd.Tab W → Sl W u l → l.length ≤ maxLen → Calls Tryd.prog 5 #[.agg #[.int .i64 p, .int .i64 k, u]] W fun e w' => (∃ (n : Int) (y : Value) (M : List Int) (z : Int), e = .returned (.tuple #[.agg #[.int .i64 n, y], .int .i64 z]) ∧ PaR p k l n M z ∧ OwnS w' y M) ∧ Below W.heap.size W w'
def FLat : Prop := ∀ (s : Int) (L : List Int) (v : Value) (W : World), Sl W v L → L.length ≤ maxLen → Calls Tryd.prog 10 #[.agg #[.int .i64 s, v]] W fun e w' => (∃ (n : Int) (y : Value) (M : List Int) (u : Nat), e = .returned (.tuple #[.agg #[.int .i64 n, y], .int .i64 (u : Int)]) ∧ LaR s L n M u ∧ OwnS w' y M) ∧ Below W.heap.size W w'
theorem num_exact (hN : FNum) {n : Nat} {M : List Int} (G : GoodG n M) {D N F : Int} (S : StN n D N F (gx n M)) (y : Value) (W : World) (h : Sl W y M) : Calls Tryd.prog 14 #[.agg #[.int .i64 (n : Int), y]] W fun e w' => e = .returned (.tuple #[.agg #[.int .i64 (n : Int), .int .i64 D, .int .i64 N, .int .i64 F], .int .i64 0]) ∧ Below W.heap.size W w' := by
  have hl : M.length ≤ maxLen := by rw [G.len]; have := sq576 G.le; unfold maxLen; omega
  refine (hN n M y W h hl).mono fun e w' ⟨⟨P, D', N', F', u, he, hr⟩, hb⟩ => ?_
  have : NuR n M n D N F 0 := .inr ⟨n, rfl, G, .inl ⟨rfl, rfl, S⟩⟩
  obtain ⟨rfl, rfl, rfl, rfl, rfl⟩ := hr.one this
  exact ⟨he, hb⟩
theorem tri_num (n : Int) : tE n ≠ 0 ∨ (tE n = 0 ∧ n ≤ 3) ∨ (tE n = 0 ∧ ∃ m q : Nat, n = m ∧ 3 < m ∧ m ≤ 7 ∧ tS n = q ∧ GoodG q (tL n) ∧ StN q (2 * (n - 2)) (n - 2) 4 (gx q (tL n))) := by
  by_cases h : tE n = 0
  · right
    by_cases h3 : n ≤ 3
    · exact .inl ⟨h, h3⟩
    · have h7 : n ≤ 7 := by
        unfold tE at h
        by_cases k : n < 2 ∨ 7 < n
        · rw [if_pos k] at h; cases h
        · omega
      obtain ⟨m, rfl⟩ : ∃ m : Nat, n = m := ⟨n.toNat, by omega⟩
      have e1 : tS m = tN m := if_pos h
      have e2 : tL m = trC m := if_pos h
      rw [e1, e2]
      exact .inr ⟨h, m, tN m, rfl, by omega, by omega, rfl, tr_good (by omega) (by omega), tr_stn (by omega) (by omega)⟩
  · exact .inl h
/-- The boxes of the square that came, and of the graph at hand. -/
structure KB (w : World) (s : Int) (sv : Value) (gb : Nat) (gn : Int) (gy : Value) (wr : World) : Prop where
  sbox : wr.heap[w.heap.size + 1]? = some (.cells #[.int .i64 s, sv] 26 (0, 0))
  gbox : wr.heap[gb]? = some (.cells #[.int .i64 gn, gy] 26 (0, 0))
  bel : Below w.heap.size w wr
  lt : w.heap.size + 1 < gb
section
variable {w wr w1 : World} {s gn : Int} {sv gy : Value} {gb : Nat}
theorem KB.next (h : KB w s sv gb gn gy wr) (b : Below wr.heap.size wr w1) : KB w s sv gb gn gy w1 :=
  ⟨(b.block _ (Array.getElem?_eq_some_iff.1 h.sbox).1).trans h.sbox, (b.block _ (Array.getElem?_eq_some_iff.1 h.gbox).1).trans h.gbox, Below.next h.bel b, h.lt⟩
theorem KB.put (h : KB w s sv gb gn gy wr) (n : Int) (y : Value) : KB w s sv gb n y ((wr.setCell ⟨gb, 0, none⟩ (.int .i64 n)).setCell ⟨gb, 1, none⟩ y) :=
  ⟨(heap_setCell_other _ ⟨gb, 1, none⟩ (w.heap.size + 1) y (by have := h.lt; show w.heap.size + 1 ≠ gb; omega)).trans ((heap_setCell_other wr ⟨gb, 0, none⟩ (w.heap.size + 1) (.int .i64 n) (by have := h.lt; show w.heap.size + 1 ≠ gb; omega)).trans h.sbox), put2_row h.gbox _ _, (h.bel.setCell (p := ⟨gb, 0, none⟩) (by have := h.lt; show w.heap.size ≤ gb; omega) _).setCell (p := ⟨gb, 1, none⟩) (by have := h.lt; show w.heap.size ≤ gb; omega) _, h.lt⟩
theorem KB.cells (h : KB w s sv gb gn gy wr) : (wr.cell? ⟨w.heap.size + 1, 0, none⟩ = some (.int .i64 s) ∧ wr.cell? ⟨w.heap.size + 1, 1, none⟩ = some sv) ∧ (wr.cell? ⟨gb, 0, none⟩ = some (.int .i64 gn) ∧ wr.cell? ⟨gb, 1, none⟩ = some gy ∧ wr.frozen? ⟨gb, 0, none⟩ = false ∧ wr.frozen? ⟨gb, 1, none⟩ = false) := by
  obtain ⟨a, b, _, _⟩ := row2 h.sbox
  exact ⟨⟨a, b⟩, row2 h.gbox⟩
end
set_option maxRecDepth 100000 in
set_option maxHeartbeats 40000000 in
theorem Known_law (hT : FTri) (hN : FNum) (hP : FPal) (hLa : FLat) (p k : Int) (l : List Int) (u : Value) (n : Int) (s : Int) (L : List Int) (v : Value) (w : World) (hTab : Fd.Tab w) (hu : Sl w u l) (hlu : l.length ≤ maxLen) (hv : Sl w v L) (hlv : L.length ≤ maxLen) :
    Calls Tryd.prog 4 #[.agg #[.int .i64 p, .int .i64 k, u], .int .i64 n, .agg #[.int .i64 s, v]] w fun e w' => e = .returned (.bool true) ∧ Below w.heap.size w w' := by
  have b0 : Below w.heap.size w ((w.alloc (.cells #[.int .i64 p, .int .i64 k, u] 24)).alloc (.cells #[.int .i64 s, v] 26)) := Below.next (balloc _ _) (balloc _ _)
  have hfb : ((w.alloc (.cells #[.int .i64 p, .int .i64 k, u] 24)).alloc (.cells #[.int .i64 s, v] 26)).heap[w.heap.size]? = some (.cells #[.int .i64 p, .int .i64 k, u] 24 (0, 0)) := (Below.heap_alloc _ _ _ (by simp)).trans (heap_alloc_new w _)
  have hsb : ((w.alloc (.cells #[.int .i64 p, .int .i64 k, u] 24)).alloc (.cells #[.int .i64 s, v] 26)).heap[w.heap.size + 1]? = some (.cells #[.int .i64 s, v] 26 (0, 0)) := by
    have := heap_alloc_new (w.alloc (.cells #[.int .i64 p, .int .i64 k, u] 24)) (.cells #[.int .i64 s, v] 26)
    simpa using this
  have C0 := strongFact_any hT hN ((w.alloc (.cells #[.int .i64 p, .int .i64 k, u] 24)).alloc (.cells #[.int .i64 s, v] 26))
  have HC1 : Hid (∀ W, Below w.heap.size w W → Calls Tryd.prog 5 #[.agg #[.int .i64 p, .int .i64 k, u]] W fun e w' => (∃ (n : Int) (y : Value) (M : List Int) (z : Int), e = .returned (.tuple #[.agg #[.int .i64 n, y], .int .i64 z]) ∧ PaR p k l n M z ∧ OwnS w' y M) ∧ Below W.heap.size W w') := fun W b => hP p k l u W (hTab.below b) (hu.below b) hlu
  have HC2 : Hid (∀ W, Calls Tryd.prog 8 #[.int .i64 n] W fun e w' => (∃ y, e = .returned (.tuple #[.agg #[.int .i64 (tS n), y], .int .i64 (tE n : Int)]) ∧ OwnS w' y (tL n)) ∧ Below W.heap.size W w') := fun W => hT n W
  have HC3 : Hid (∀ W, Below w.heap.size w W → Calls Tryd.prog 10 #[.agg #[.int .i64 s, v]] W fun e w' => (∃ (n : Int) (y : Value) (M : List Int) (u : Nat), e = .returned (.tuple #[.agg #[.int .i64 n, y], .int .i64 (u : Int)]) ∧ LaR s L n M u ∧ OwnS w' y M) ∧ Below W.heap.size W w') := fun W b => hLa s L v W (hv.below b) hlv
  have HTN : Hid (tE n ≠ 0 ∨ (tE n = 0 ∧ n ≤ 3) ∨ (tE n = 0 ∧ ∃ m q : Nat, n = m ∧ 3 < m ∧ m ≤ 7 ∧ tS n = q ∧ GoodG q (tL n) ∧ StN q (2 * (n - 2)) (n - 2) 4 (gx q (tL n)))) := tri_num n
  generalize tE n = te at *
  generalize tS n = ts at *
  generalize tL n = tl at *
  obtain ⟨ua, uc, rfl⟩ := sl_len hu
  obtain ⟨va, vc, rfl⟩ := sl_len hv
  generalize l.length = zu at *
  generalize L.length = zv at *
  clear hu hv hTab
  go_enter Tryd.func4, Tryd.ntmps4
  go_wp2_with (first
    | (go_at_call 13; refine C0.mono ?_; rintro e w1 ⟨rfl, b1⟩; clear C0; have hfb1 := (b1.block _ (Array.getElem?_eq_some_iff.1 hfb).1).trans hfb; have hsb1 := (b1.block _ (Array.getElem?_eq_some_iff.1 hsb).1).trans hsb; obtain ⟨x0, x1, x2⟩ := row3 hfb1; have B1 := Below.next b0 b1; have C1 := HC1.out _ B1; clear HC1)
    | (go_at_call 5; fail))
  refine C1.mono ?_
  rintro e w2 ⟨⟨gn, gy, gM, ge, rfl, hpa, hgy⟩, b2⟩
  clear C1 x0 x1 x2
  obtain ⟨ga, gc, eg⟩ := hgy.len
  have hsb2 := (b2.block _ (Array.getElem?_eq_some_iff.1 hsb1).1).trans hsb1
  have B2 := Below.next B1 b2
  have hlt2 : w.heap.size + 1 < w2.heap.size := (Array.getElem?_eq_some_iff.1 hsb2).1
  have K2 : KB w s (.slice va zv vc) w2.heap.size gn gy (w2.alloc (.cells #[.int .i64 gn, gy] 26)) := ⟨(Below.heap_alloc _ _ _ hlt2).trans hsb2, heap_alloc_new w2 _, Below.next B2 (balloc _ _), hlt2⟩
  have hgy2 := hgy.below (balloc w2 (.cells #[.int .i64 gn, gy] 26))
  obtain ⟨zg, Hzg⟩ : ∃ z, Hid (gM.length = z) := ⟨_, rfl⟩
  rw [Hzg.out] at eg
  subst eg
  obtain ⟨gb, hgb⟩ : ∃ q, w2.heap.size = q := ⟨_, rfl⟩
  rw [hgb] at K2
  clear hsb hsb1 hsb2 hfb hfb1 b0 b1 b2 B1 B2 hgy
  rcases hpa.num with hne | ⟨rfl, q, rfl, GP, d, dn, df, hd, hdn, hdf, SP⟩
  · have d2 : (ge == 0) = false := by simp [hne]
    clear hne hpa hgy2
    have C3 := HC2.out (w2.alloc (.cells #[.int .i64 gn, .slice ga zg gc] 26))
    go_wp2_with fail
    refine C3.mono ?_
    rintro e w4 ⟨⟨ty, rfl, hty⟩, b4⟩
    clear C3
    have K4 := K2.next b4
    obtain ⟨ta, tc, et⟩ := hty.len
    obtain ⟨zt, Hzt⟩ : ∃ z, Hid (tl.length = z) := ⟨_, rfl⟩
    rw [Hzt.out] at et
    subst et
    have K5 := K4.put ts (.slice ta zt tc)
    have hty5 := hty.put (u := .int .i64 ts) (v := .slice ta zt tc) K4.gbox
    obtain ⟨_, p2, p3, p4, p5⟩ := K4.cells
    rcases HTN.out with hne | ⟨rfl, hn3⟩ | ⟨rfl, m, q, rfl, hm3, hm7, rfl, GT, ST⟩
    · have d4 : ((te : Int) == 0) = false := by simp; omega
      have HK5 : Hid _ := K5
      clear hne HTN hty hty5 K4 K5
      have K5 : KB w s (.slice va zv vc) gb ts (.slice ta zt tc) ((w4.setCell ⟨gb, 0, none⟩ (.int .i64 ts)).setCell ⟨gb, 1, none⟩ (.slice ta zt tc)) := HK5.out
      clear HK5
      have C5 := HC3.out _ K5.bel
      obtain ⟨⟨q0, q1⟩, q2, q3, _, _⟩ := K5.cells
      go_wp2_with fail
      refine C5.mono ?_
      rintro e w6 ⟨⟨hn, hy, hM, hu6, rfl, hla, hhy⟩, b6⟩
      clear C5 q0 q1 q2 q3
      have K6 := K5.next b6
      obtain ⟨ha6, hc6, eh⟩ := hhy.len
      obtain ⟨zh, Hzh⟩ : ∃ z, Hid (hM.length = z) := ⟨_, rfl⟩
      rw [Hzh.out] at eh
      subst eh
      have K7 := K6.put hn (.slice ha6 zh hc6)
      have hhy7 := hhy.put (u := .int .i64 hn) (v := .slice ha6 zh hc6) K6.gbox
      obtain ⟨⟨q0, q1⟩, q2, q3, q4, q5⟩ := K6.cells
      rcases hla.num with hne | ⟨rfl, hs3⟩ | ⟨rfl, m, qm, rfl, hm, rfl, GG, SS⟩
      · have d6 : ((hu6 : Int) != 0) = true := by simp; omega
        have B7 := K7.bel
        have HB7 : Hid _ := B7
        clear hne hla hhy hhy7 K6 K7 B7
        go_wp2
        go_ret
        exact ⟨rfl, HB7.out⟩
      · have d6 : decide (s < 3) = true := decide_eq_true hs3
        have B7 := K7.bel
        have HB7 : Hid _ := B7
        obtain ⟨⟨z0, z1⟩, _⟩ := K7.cells
        clear hla hhy hhy7 K6 K7 B7 hs3
        go_wp2
        go_ret
        exact ⟨rfl, HB7.out⟩
      · have C7 := num_exact hN GG SS _ _ hhy7.sl
        have d6 : decide ((m : Int) < 3) = false := by simp; omega
        have m1 := wrapZ (z := (m : Int) - 1) (by omega) (by omega)
        have m2 := wrapZ (z := 3 * ((m : Int) - 1)) (by omega) (by omega)
        have e6 : (3 * ((m : Int) - 1) != 3 * ((m : Int) - 1)) = false := by simp
        have e7 : ((m : Int) != (m : Int)) = false := by simp
        obtain ⟨⟨z0, z1⟩, z2, z3, _, _⟩ := K7.cells
        have HK7 : Hid _ := K7
        clear hla hhy hhy7 K6 GG SS
        go_wp2_with fail
        refine C7.mono ?_
        rintro e w8 ⟨rfl, b8⟩
        clear C7 z0 z1 z2 z3 q0 q1 q2 q3 q4 q5
        have K8 := (KB.next HK7.out b8).next (balloc w8 (.cells #[.int .i64 (qm : Int), .int .i64 (3 * ((m : Int) - 1)), .int .i64 (m : Int), .int .i64 6] 37))
        have hnb := heap_alloc_new w8 (.cells #[.int .i64 (qm : Int), .int .i64 (3 * ((m : Int) - 1)), .int .i64 (m : Int), .int .i64 6] 37)
        obtain ⟨nb, hnbe⟩ : ∃ q, w8.heap.size = q := ⟨_, rfl⟩
        rw [hnbe] at hnb
        obtain ⟨n0, n1, n2, n3⟩ := row4c hnb
        obtain ⟨⟨z0, z1⟩, _⟩ := K8.cells
        have B8 := K8.bel
        clear K8 HK7 K7
        go_wp2
        go_ret
        exact ⟨rfl, B8⟩
    · have d4 : decide (3 < n) = false := decide_eq_false (by omega)
      have HK5 : Hid _ := K5
      clear hn3 HTN hty hty5 K4 K5
      have K5 : KB w s (.slice va zv vc) gb ts (.slice ta zt tc) ((w4.setCell ⟨gb, 0, none⟩ (.int .i64 ts)).setCell ⟨gb, 1, none⟩ (.slice ta zt tc)) := HK5.out
      clear HK5
      have C5 := HC3.out _ K5.bel
      obtain ⟨⟨q0, q1⟩, q2, q3, _, _⟩ := K5.cells
      go_wp2_with fail
      refine C5.mono ?_
      rintro e w6 ⟨⟨hn, hy, hM, hu6, rfl, hla, hhy⟩, b6⟩
      clear C5 q0 q1 q2 q3
      have K6 := K5.next b6
      obtain ⟨ha6, hc6, eh⟩ := hhy.len
      obtain ⟨zh, Hzh⟩ : ∃ z, Hid (hM.length = z) := ⟨_, rfl⟩
      rw [Hzh.out] at eh
      subst eh
      have K7 := K6.put hn (.slice ha6 zh hc6)
      have hhy7 := hhy.put (u := .int .i64 hn) (v := .slice ha6 zh hc6) K6.gbox
      obtain ⟨⟨q0, q1⟩, q2, q3, q4, q5⟩ := K6.cells
      rcases hla.num with hne | ⟨rfl, hs3⟩ | ⟨rfl, m, qm, rfl, hm, rfl, GG, SS⟩
      · have d6 : ((hu6 : Int) != 0) = true := by simp; omega
        have B7 := K7.bel
        have HB7 : Hid _ := B7
        clear hne hla hhy hhy7 K6 K7 B7
        go_wp2
        go_ret
        exact ⟨rfl, HB7.out⟩
      · have d6 : decide (s < 3) = true := decide_eq_true hs3
        have B7 := K7.bel
        have HB7 : Hid _ := B7
        obtain ⟨⟨z0, z1⟩, _⟩ := K7.cells
        clear hla hhy hhy7 K6 K7 B7 hs3
        go_wp2
        go_ret
        exact ⟨rfl, HB7.out⟩
      · have C7 := num_exact hN GG SS _ _ hhy7.sl
        have d6 : decide ((m : Int) < 3) = false := by simp; omega
        have m1 := wrapZ (z := (m : Int) - 1) (by omega) (by omega)
        have m2 := wrapZ (z := 3 * ((m : Int) - 1)) (by omega) (by omega)
        have e6 : (3 * ((m : Int) - 1) != 3 * ((m : Int) - 1)) = false := by simp
        have e7 : ((m : Int) != (m : Int)) = false := by simp
        obtain ⟨⟨z0, z1⟩, z2, z3, _, _⟩ := K7.cells
        have HK7 : Hid _ := K7
        clear hla hhy hhy7 K6 GG SS
        go_wp2_with fail
        refine C7.mono ?_
        rintro e w8 ⟨rfl, b8⟩
        clear C7 z0 z1 z2 z3 q0 q1 q2 q3 q4 q5
        have K8 := (KB.next HK7.out b8).next (balloc w8 (.cells #[.int .i64 (qm : Int), .int .i64 (3 * ((m : Int) - 1)), .int .i64 (m : Int), .int .i64 6] 37))
        have hnb := heap_alloc_new w8 (.cells #[.int .i64 (qm : Int), .int .i64 (3 * ((m : Int) - 1)), .int .i64 (m : Int), .int .i64 6] 37)
        obtain ⟨nb, hnbe⟩ : ∃ q, w8.heap.size = q := ⟨_, rfl⟩
        rw [hnbe] at hnb
        obtain ⟨n0, n1, n2, n3⟩ := row4c hnb
        obtain ⟨⟨z0, z1⟩, _⟩ := K8.cells
        have B8 := K8.bel
        clear K8 HK7 K7
        go_wp2
        go_ret
        exact ⟨rfl, B8⟩
    · have d4 : decide (3 < (m : Int)) = true := decide_eq_true (by omega)
      have C5 := num_exact hN GT ST _ _ hty5.sl
      have m1 := wrapZ (z := (m : Int) - 2) (by omega) (by omega)
      have m2 := wrapZ (z := 2 * ((m : Int) - 2)) (by omega) (by omega)
      have e4 : (2 * ((m : Int) - 2) != 2 * ((m : Int) - 2)) = false := by simp
      have e5 : ((m : Int) - 2 != (m : Int) - 2) = false := by simp
      obtain ⟨_, z2, z3, _, _⟩ := K5.cells
      have HK5 : Hid _ := K5
      clear HTN hty hty5 K4 K5 GT ST
      go_wp2_with fail
      refine C5.mono ?_
      rintro e w5 ⟨rfl, b5⟩
      clear C5 z2 z3 p2 p3 p4 p5
      have K6 := (KB.next HK5.out b5).next (balloc w5 (.cells #[.int .i64 (q : Int), .int .i64 (2 * ((m : Int) - 2)), .int .i64 ((m : Int) - 2), .int .i64 4] 37))
      have htb := heap_alloc_new w5 (.cells #[.int .i64 (q : Int), .int .i64 (2 * ((m : Int) - 2)), .int .i64 ((m : Int) - 2), .int .i64 4] 37)
      obtain ⟨tb, htbe⟩ : ∃ q, w5.heap.size = q := ⟨_, rfl⟩
      rw [htbe] at htb
      obtain ⟨n0, n1, n2, n3⟩ := row4c htb
      have HK6 : Hid _ := K6
      clear HK5 K6
      have K5 : KB w s (.slice va zv vc) gb q (.slice ta zt tc) (w5.alloc (.cells #[.int .i64 (q : Int), .int .i64 (2 * ((m : Int) - 2)), .int .i64 ((m : Int) - 2), .int .i64 4] 37)) := HK6.out
      clear HK6
      have C5 := HC3.out _ K5.bel
      obtain ⟨⟨q0, q1⟩, q2, q3, _, _⟩ := K5.cells
      go_wp2_with fail
      refine C5.mono ?_
      rintro e w6 ⟨⟨hn, hy, hM, hu6, rfl, hla, hhy⟩, b6⟩
      clear C5 q0 q1 q2 q3
      have K6 := K5.next b6
      obtain ⟨ha6, hc6, eh⟩ := hhy.len
      obtain ⟨zh, Hzh⟩ : ∃ z, Hid (hM.length = z) := ⟨_, rfl⟩
      rw [Hzh.out] at eh
      subst eh
      have K7 := K6.put hn (.slice ha6 zh hc6)
      have hhy7 := hhy.put (u := .int .i64 hn) (v := .slice ha6 zh hc6) K6.gbox
      obtain ⟨⟨q0, q1⟩, q2, q3, q4, q5⟩ := K6.cells
      rcases hla.num with hne | ⟨rfl, hs3⟩ | ⟨rfl, m, qm, rfl, hm, rfl, GG, SS⟩
      · have d6 : ((hu6 : Int) != 0) = true := by simp; omega
        have B7 := K7.bel
        have HB7 : Hid _ := B7
        clear hne hla hhy hhy7 K6 K7 B7
        go_wp2
        go_ret
        exact ⟨rfl, HB7.out⟩
      · have d6 : decide (s < 3) = true := decide_eq_true hs3
        have B7 := K7.bel
        have HB7 : Hid _ := B7
        obtain ⟨⟨z0, z1⟩, _⟩ := K7.cells
        clear hla hhy hhy7 K6 K7 B7 hs3
        go_wp2
        go_ret
        exact ⟨rfl, HB7.out⟩
      · have C7 := num_exact hN GG SS _ _ hhy7.sl
        have d6 : decide ((m : Int) < 3) = false := by simp; omega
        have m1 := wrapZ (z := (m : Int) - 1) (by omega) (by omega)
        have m2 := wrapZ (z := 3 * ((m : Int) - 1)) (by omega) (by omega)
        have e6 : (3 * ((m : Int) - 1) != 3 * ((m : Int) - 1)) = false := by simp
        have e7 : ((m : Int) != (m : Int)) = false := by simp
        obtain ⟨⟨z0, z1⟩, z2, z3, _, _⟩ := K7.cells
        have HK7 : Hid _ := K7
        clear hla hhy hhy7 K6 GG SS
        go_wp2_with fail
        refine C7.mono ?_
        rintro e w8 ⟨rfl, b8⟩
        clear C7 z0 z1 z2 z3 q0 q1 q2 q3 q4 q5
        have K8 := (KB.next HK7.out b8).next (balloc w8 (.cells #[.int .i64 (qm : Int), .int .i64 (3 * ((m : Int) - 1)), .int .i64 (m : Int), .int .i64 6] 37))
        have hnb := heap_alloc_new w8 (.cells #[.int .i64 (qm : Int), .int .i64 (3 * ((m : Int) - 1)), .int .i64 (m : Int), .int .i64 6] 37)
        obtain ⟨nb, hnbe⟩ : ∃ q, w8.heap.size = q := ⟨_, rfl⟩
        rw [hnbe] at hnb
        obtain ⟨n0, n1, n2, n3⟩ := row4c hnb
        obtain ⟨⟨z0, z1⟩, _⟩ := K8.cells
        have B8 := K8.bel
        clear K8 HK7 K7
        go_wp2
        go_ret
        exact ⟨rfl, B8⟩
  · have C2 := num_exact hN GP SP _ _ hgy2.sl
    have hq24 := GP.le
    have c1 := wrapZ (z := (q : Int) - 1) (by omega) (by omega)
    have c2 := wrapZ (z := (q : Int) - 5) (by omega) (by omega)
    have c3 : ((q : Int) - 1) / 2 = (d : Int) := by omega
    have c4 : ((q : Int) - 5) / 4 = (dn : Int) := by omega
    have c5 : ((q : Int) - 1) / 4 = (df : Int) := by omega
    have c6 : ((q : Int) - 1).tdiv 2 = (d : Int) := by rw [Int.tdiv_eq_ediv_of_nonneg (by omega)]; exact c3
    have c7 : ((q : Int) - 5).tdiv 4 = (dn : Int) := by rw [Int.tdiv_eq_ediv_of_nonneg (by omega)]; exact c4
    have c8 : ((q : Int) - 1).tdiv 4 = (df : Int) := by rw [Int.tdiv_eq_ediv_of_nonneg (by omega)]; exact c5
    have c9 := wrapN9 (q := d) (by omega)
    have c10 := wrapN9 (q := dn) (by omega)
    have c11 := wrapN9 (q := df) (by omega)
    have e1 : ((d : Int) != (d : Int)) = false := by simp
    have e2 : ((dn : Int) != (dn : Int)) = false := by simp
    have e3 : ((df : Int) != (df : Int)) = false := by simp
    obtain ⟨_, z2, z3, _, _⟩ := K2.cells
    have HK2 : Hid _ := K2
    clear hpa hgy2 GP SP K2 hd hdn hdf
    go_wp2_with fail
    refine C2.mono ?_
    rintro e w3 ⟨rfl, b3⟩
    clear C2 z2 z3
    have K3 := (KB.next HK2.out b3).next (balloc w3 (.cells #[.int .i64 (q : Int), .int .i64 (d : Int), .int .i64 (dn : Int), .int .i64 (df : Int)] 37))
    have hmb := heap_alloc_new w3 (.cells #[.int .i64 (q : Int), .int .i64 (d : Int), .int .i64 (dn : Int), .int .i64 (df : Int)] 37)
    obtain ⟨mb, hmbe⟩ : ∃ q, w3.heap.size = q := ⟨_, rfl⟩
    rw [hmbe] at hmb
    obtain ⟨v0, v1, v2, v3⟩ := row4c hmb
    obtain ⟨_, z2, z3, _, _⟩ := K3.cells
    clear HK2
    have C3 := HC2.out (w3.alloc (.cells #[.int .i64 (q : Int), .int .i64 (d : Int), .int .i64 (dn : Int), .int .i64 (df : Int)] 37))
    go_wp2_with fail
    refine C3.mono ?_
    rintro e w4 ⟨⟨ty, rfl, hty⟩, b4⟩
    clear C3
    have K4 := K3.next b4
    obtain ⟨ta, tc, et⟩ := hty.len
    obtain ⟨zt, Hzt⟩ : ∃ z, Hid (tl.length = z) := ⟨_, rfl⟩
    rw [Hzt.out] at et
    subst et
    have K5 := K4.put ts (.slice ta zt tc)
    have hty5 := hty.put (u := .int .i64 ts) (v := .slice ta zt tc) K4.gbox
    obtain ⟨_, p2, p3, p4, p5⟩ := K4.cells
    rcases HTN.out with hne | ⟨rfl, hn3⟩ | ⟨rfl, m, q, rfl, hm3, hm7, rfl, GT, ST⟩
    · have d4 : ((te : Int) == 0) = false := by simp; omega
      have HK5 : Hid _ := K5
      clear hne HTN hty hty5 K4 K5
      have K5 : KB w s (.slice va zv vc) gb ts (.slice ta zt tc) ((w4.setCell ⟨gb, 0, none⟩ (.int .i64 ts)).setCell ⟨gb, 1, none⟩ (.slice ta zt tc)) := HK5.out
      clear HK5
      have C5 := HC3.out _ K5.bel
      obtain ⟨⟨q0, q1⟩, q2, q3, _, _⟩ := K5.cells
      go_wp2_with fail
      refine C5.mono ?_
      rintro e w6 ⟨⟨hn, hy, hM, hu6, rfl, hla, hhy⟩, b6⟩
      clear C5 q0 q1 q2 q3
      have K6 := K5.next b6
      obtain ⟨ha6, hc6, eh⟩ := hhy.len
      obtain ⟨zh, Hzh⟩ : ∃ z, Hid (hM.length = z) := ⟨_, rfl⟩
      rw [Hzh.out] at eh
      subst eh
      have K7 := K6.put hn (.slice ha6 zh hc6)
      have hhy7 := hhy.put (u := .int .i64 hn) (v := .slice ha6 zh hc6) K6.gbox
      obtain ⟨⟨q0, q1⟩, q2, q3, q4, q5⟩ := K6.cells
      rcases hla.num with hne | ⟨rfl, hs3⟩ | ⟨rfl, m, qm, rfl, hm, rfl, GG, SS⟩
      · have d6 : ((hu6 : Int) != 0) = true := by simp; omega
        have B7 := K7.bel
        have HB7 : Hid _ := B7
        clear hne hla hhy hhy7 K6 K7 B7
        go_wp2
        go_ret
        exact ⟨rfl, HB7.out⟩
      · have d6 : decide (s < 3) = true := decide_eq_true hs3
        have B7 := K7.bel
        have HB7 : Hid _ := B7
        obtain ⟨⟨z0, z1⟩, _⟩ := K7.cells
        clear hla hhy hhy7 K6 K7 B7 hs3
        go_wp2
        go_ret
        exact ⟨rfl, HB7.out⟩
      · have C7 := num_exact hN GG SS _ _ hhy7.sl
        have d6 : decide ((m : Int) < 3) = false := by simp; omega
        have m1 := wrapZ (z := (m : Int) - 1) (by omega) (by omega)
        have m2 := wrapZ (z := 3 * ((m : Int) - 1)) (by omega) (by omega)
        have e6 : (3 * ((m : Int) - 1) != 3 * ((m : Int) - 1)) = false := by simp
        have e7 : ((m : Int) != (m : Int)) = false := by simp
        obtain ⟨⟨z0, z1⟩, z2, z3, _, _⟩ := K7.cells
        have HK7 : Hid _ := K7
        clear hla hhy hhy7 K6 GG SS
        go_wp2_with fail
        refine C7.mono ?_
        rintro e w8 ⟨rfl, b8⟩
        clear C7 z0 z1 z2 z3 q0 q1 q2 q3 q4 q5
        have K8 := (KB.next HK7.out b8).next (balloc w8 (.cells #[.int .i64 (qm : Int), .int .i64 (3 * ((m : Int) - 1)), .int .i64 (m : Int), .int .i64 6] 37))
        have hnb := heap_alloc_new w8 (.cells #[.int .i64 (qm : Int), .int .i64 (3 * ((m : Int) - 1)), .int .i64 (m : Int), .int .i64 6] 37)
        obtain ⟨nb, hnbe⟩ : ∃ q, w8.heap.size = q := ⟨_, rfl⟩
        rw [hnbe] at hnb
        obtain ⟨n0, n1, n2, n3⟩ := row4c hnb
        obtain ⟨⟨z0, z1⟩, _⟩ := K8.cells
        have B8 := K8.bel
        clear K8 HK7 K7
        go_wp2
        go_ret
        exact ⟨rfl, B8⟩
    · have d4 : decide (3 < n) = false := decide_eq_false (by omega)
      have HK5 : Hid _ := K5
      clear hn3 HTN hty hty5 K4 K5
      have K5 : KB w s (.slice va zv vc) gb ts (.slice ta zt tc) ((w4.setCell ⟨gb, 0, none⟩ (.int .i64 ts)).setCell ⟨gb, 1, none⟩ (.slice ta zt tc)) := HK5.out
      clear HK5
      have C5 := HC3.out _ K5.bel
      obtain ⟨⟨q0, q1⟩, q2, q3, _, _⟩ := K5.cells
      go_wp2_with fail
      refine C5.mono ?_
      rintro e w6 ⟨⟨hn, hy, hM, hu6, rfl, hla, hhy⟩, b6⟩
      clear C5 q0 q1 q2 q3
      have K6 := K5.next b6
      obtain ⟨ha6, hc6, eh⟩ := hhy.len
      obtain ⟨zh, Hzh⟩ : ∃ z, Hid (hM.length = z) := ⟨_, rfl⟩
      rw [Hzh.out] at eh
      subst eh
      have K7 := K6.put hn (.slice ha6 zh hc6)
      have hhy7 := hhy.put (u := .int .i64 hn) (v := .slice ha6 zh hc6) K6.gbox
      obtain ⟨⟨q0, q1⟩, q2, q3, q4, q5⟩ := K6.cells
      rcases hla.num with hne | ⟨rfl, hs3⟩ | ⟨rfl, m, qm, rfl, hm, rfl, GG, SS⟩
      · have d6 : ((hu6 : Int) != 0) = true := by simp; omega
        have B7 := K7.bel
        have HB7 : Hid _ := B7
        clear hne hla hhy hhy7 K6 K7 B7
        go_wp2
        go_ret
        exact ⟨rfl, HB7.out⟩
      · have d6 : decide (s < 3) = true := decide_eq_true hs3
        have B7 := K7.bel
        have HB7 : Hid _ := B7
        obtain ⟨⟨z0, z1⟩, _⟩ := K7.cells
        clear hla hhy hhy7 K6 K7 B7 hs3
        go_wp2
        go_ret
        exact ⟨rfl, HB7.out⟩
      · have C7 := num_exact hN GG SS _ _ hhy7.sl
        have d6 : decide ((m : Int) < 3) = false := by simp; omega
        have m1 := wrapZ (z := (m : Int) - 1) (by omega) (by omega)
        have m2 := wrapZ (z := 3 * ((m : Int) - 1)) (by omega) (by omega)
        have e6 : (3 * ((m : Int) - 1) != 3 * ((m : Int) - 1)) = false := by simp
        have e7 : ((m : Int) != (m : Int)) = false := by simp
        obtain ⟨⟨z0, z1⟩, z2, z3, _, _⟩ := K7.cells
        have HK7 : Hid _ := K7
        clear hla hhy hhy7 K6 GG SS
        go_wp2_with fail
        refine C7.mono ?_
        rintro e w8 ⟨rfl, b8⟩
        clear C7 z0 z1 z2 z3 q0 q1 q2 q3 q4 q5
        have K8 := (KB.next HK7.out b8).next (balloc w8 (.cells #[.int .i64 (qm : Int), .int .i64 (3 * ((m : Int) - 1)), .int .i64 (m : Int), .int .i64 6] 37))
        have hnb := heap_alloc_new w8 (.cells #[.int .i64 (qm : Int), .int .i64 (3 * ((m : Int) - 1)), .int .i64 (m : Int), .int .i64 6] 37)
        obtain ⟨nb, hnbe⟩ : ∃ q, w8.heap.size = q := ⟨_, rfl⟩
        rw [hnbe] at hnb
        obtain ⟨n0, n1, n2, n3⟩ := row4c hnb
        obtain ⟨⟨z0, z1⟩, _⟩ := K8.cells
        have B8 := K8.bel
        clear K8 HK7 K7
        go_wp2
        go_ret
        exact ⟨rfl, B8⟩
    · have d4 : decide (3 < (m : Int)) = true := decide_eq_true (by omega)
      have C5 := num_exact hN GT ST _ _ hty5.sl
      have m1 := wrapZ (z := (m : Int) - 2) (by omega) (by omega)
      have m2 := wrapZ (z := 2 * ((m : Int) - 2)) (by omega) (by omega)
      have e4 : (2 * ((m : Int) - 2) != 2 * ((m : Int) - 2)) = false := by simp
      have e5 : ((m : Int) - 2 != (m : Int) - 2) = false := by simp
      obtain ⟨_, z2, z3, _, _⟩ := K5.cells
      have HK5 : Hid _ := K5
      clear HTN hty hty5 K4 K5 GT ST
      go_wp2_with fail
      refine C5.mono ?_
      rintro e w5 ⟨rfl, b5⟩
      clear C5 z2 z3 p2 p3 p4 p5
      have K6 := (KB.next HK5.out b5).next (balloc w5 (.cells #[.int .i64 (q : Int), .int .i64 (2 * ((m : Int) - 2)), .int .i64 ((m : Int) - 2), .int .i64 4] 37))
      have htb := heap_alloc_new w5 (.cells #[.int .i64 (q : Int), .int .i64 (2 * ((m : Int) - 2)), .int .i64 ((m : Int) - 2), .int .i64 4] 37)
      obtain ⟨tb, htbe⟩ : ∃ q, w5.heap.size = q := ⟨_, rfl⟩
      rw [htbe] at htb
      obtain ⟨n0, n1, n2, n3⟩ := row4c htb
      have HK6 : Hid _ := K6
      clear HK5 K6
      have K5 : KB w s (.slice va zv vc) gb q (.slice ta zt tc) (w5.alloc (.cells #[.int .i64 (q : Int), .int .i64 (2 * ((m : Int) - 2)), .int .i64 ((m : Int) - 2), .int .i64 4] 37)) := HK6.out
      clear HK6
      have C5 := HC3.out _ K5.bel
      obtain ⟨⟨q0, q1⟩, q2, q3, _, _⟩ := K5.cells
      go_wp2_with fail
      refine C5.mono ?_
      rintro e w6 ⟨⟨hn, hy, hM, hu6, rfl, hla, hhy⟩, b6⟩
      clear C5 q0 q1 q2 q3
      have K6 := K5.next b6
      obtain ⟨ha6, hc6, eh⟩ := hhy.len
      obtain ⟨zh, Hzh⟩ : ∃ z, Hid (hM.length = z) := ⟨_, rfl⟩
      rw [Hzh.out] at eh
      subst eh
      have K7 := K6.put hn (.slice ha6 zh hc6)
      have hhy7 := hhy.put (u := .int .i64 hn) (v := .slice ha6 zh hc6) K6.gbox
      obtain ⟨⟨q0, q1⟩, q2, q3, q4, q5⟩ := K6.cells
      rcases hla.num with hne | ⟨rfl, hs3⟩ | ⟨rfl, m, qm, rfl, hm, rfl, GG, SS⟩
      · have d6 : ((hu6 : Int) != 0) = true := by simp; omega
        have B7 := K7.bel
        have HB7 : Hid _ := B7
        clear hne hla hhy hhy7 K6 K7 B7
        go_wp2
        go_ret
        exact ⟨rfl, HB7.out⟩
      · have d6 : decide (s < 3) = true := decide_eq_true hs3
        have B7 := K7.bel
        have HB7 : Hid _ := B7
        obtain ⟨⟨z0, z1⟩, _⟩ := K7.cells
        clear hla hhy hhy7 K6 K7 B7 hs3
        go_wp2
        go_ret
        exact ⟨rfl, HB7.out⟩
      · have C7 := num_exact hN GG SS _ _ hhy7.sl
        have d6 : decide ((m : Int) < 3) = false := by simp; omega
        have m1 := wrapZ (z := (m : Int) - 1) (by omega) (by omega)
        have m2 := wrapZ (z := 3 * ((m : Int) - 1)) (by omega) (by omega)
        have e6 : (3 * ((m : Int) - 1) != 3 * ((m : Int) - 1)) = false := by simp
        have e7 : ((m : Int) != (m : Int)) = false := by simp
        obtain ⟨⟨z0, z1⟩, z2, z3, _, _⟩ := K7.cells
        have HK7 : Hid _ := K7
        clear hla hhy hhy7 K6 GG SS
        go_wp2_with fail
        refine C7.mono ?_
        rintro e w8 ⟨rfl, b8⟩
        clear C7 z0 z1 z2 z3 q0 q1 q2 q3 q4 q5
        have K8 := (KB.next HK7.out b8).next (balloc w8 (.cells #[.int .i64 (qm : Int), .int .i64 (3 * ((m : Int) - 1)), .int .i64 (m : Int), .int .i64 6] 37))
        have hnb := heap_alloc_new w8 (.cells #[.int .i64 (qm : Int), .int .i64 (3 * ((m : Int) - 1)), .int .i64 (m : Int), .int .i64 6] 37)
        obtain ⟨nb, hnbe⟩ : ∃ q, w8.heap.size = q := ⟨_, rfl⟩
        rw [hnbe] at hnb
        obtain ⟨n0, n1, n2, n3⟩ := row4c hnb
        obtain ⟨⟨z0, z1⟩, _⟩ := K8.cells
        have B8 := K8.bel
        clear K8 HK7 K7
        go_wp2
        go_ret
        exact ⟨rfl, B8⟩
end Go.Proofs.YtlmjlffipinjiaaDoor

namespace Go.Proofs.YtlmjlffipinjiaaDoor
open Go.RowKit

theorem fault_totS (p k : Int) (l : List Int) : ∃ z, Fd.FaultIs p k l z := by
  by_cases h1 : Fd.ordZ p k = 0
  · exact ⟨1, .inl ⟨h1, rfl⟩⟩
  by_cases h2 : (l.length : Int) = k
  · by_cases h3 : Fd.inL p l
    · by_cases h4 : Fd.irrP (Fd.monL l) k.toNat p.toNat
      · exact ⟨0, .inr (.inr (.inr (.inr ⟨h1, h2, h3, h4, rfl⟩)))⟩
      · exact ⟨4, .inr (.inr (.inr (.inl ⟨h1, h2, h3, h4, rfl⟩)))⟩
    · exact ⟨1, .inr (.inr (.inl ⟨h1, h2, h3, rfl⟩))⟩
  · exact ⟨2, .inr (.inl ⟨h1, h2, rfl⟩)⟩
theorem PaR.one {p k : Int} {l : List Int} {n n' : Int} {M M' : List Int} {e e' : Int} (h : PaR p k l n M e) (h' : PaR p k l n' M' e') : n = n' ∧ M = M' ∧ e = e' := by
  rcases h with ⟨f, h0, rfl, rfl⟩ | ⟨P, K, rfl, rfl, G, he, hh⟩
  · rcases h' with ⟨f', h0', rfl, rfl⟩ | ⟨P', K', rfl, rfl, G', _⟩
    · exact ⟨rfl, rfl, f.one f'⟩
    · exact absurd (f.one G'.fault) h0
  · rcases h' with ⟨f', h0', rfl, rfl⟩ | ⟨P', K', e1, e2, G', he', hh'⟩
    · exact absurd (f'.one G.fault) h0'
    · obtain rfl : P = P' := by omega
      obtain rfl : K = K' := by omega
      have hee : e = e' := he.trans he'.symm
      rcases hh with ⟨k0, rfl, rfl⟩ | ⟨k0, rfl, rfl⟩ <;> rcases hh' with ⟨k1, rfl, rfl⟩ | ⟨k1, rfl, rfl⟩
      · exact ⟨rfl, rfl, hee⟩
      · exact absurd (hee.trans k1) k0
      · exact absurd (hee.symm.trans k0) k1
      · exact ⟨rfl, rfl, hee⟩
theorem good_len {n : Nat} {M : List Int} (G : GoodG n M) : M.length ≤ maxLen := by rw [G.len]; have := sq576 G.le; unfold maxLen; omega
theorem nil_len : ([] : List Int).length ≤ maxLen := by unfold maxLen; exact Nat.zero_le _
theorem PaR.len {p k : Int} {l : List Int} {n : Int} {M : List Int} {e : Int} (h : PaR p k l n M e) : M.length ≤ maxLen := by
  rcases h with ⟨_, _, _, rfl⟩ | ⟨P, K, rfl, rfl, hG, he, ⟨_, _, rfl⟩ | ⟨h, rfl, rfl⟩⟩
  · exact nil_len
  · exact nil_len
  · exact good_len (paley_num hG (by omega)).1
theorem tl_len (n : Int) : (tL n).length ≤ maxLen := by
  by_cases h : tE n = 0
  · have h7 : 2 ≤ n ∧ n ≤ 7 := by
      unfold tE at h
      by_cases k : n < 2 ∨ 7 < n
      · rw [if_pos k] at h; cases h
      · omega
    obtain ⟨m, rfl⟩ : ∃ m : Nat, n = m := ⟨n.toNat, by omega⟩
    have e2 : tL m = trC m := if_pos h
    rw [e2]
    exact good_len (tr_good (n := m) (by omega) (by omega))
  · have e2 : tL n = [] := if_neg h
    rw [e2]; exact nil_len
theorem LaR.len {s : Int} {L : List Int} {n : Int} {M : List Int} {u : Nat} (h : LaR s L n M u) : M.length ≤ maxLen := by
  rcases h with ⟨h0, rfl, _, rfl⟩ | ⟨m, rfl, G, ⟨_, rfl, _, rfl⟩ | ⟨h4, rfl, rfl, rfl⟩⟩
  · exact nil_len
  · exact nil_len
  · exact good_len (lg_good G.pos h4)
theorem PaleyG_any (p k : Int) (l : List Int) (v : Value) (w : World) (hl : Sl w v l) :
    Calls Tryd.prog 6 #[.agg #[.int .i64 p, .int .i64 k, v]] w fun e w' => (∃ (n : Int) (y : Value) (M : List Int) (z : Int), e = .returned (.tuple #[.agg #[.int .i64 n, y], .int .i64 z]) ∧ PaR p k l n M z ∧ OwnS w' y M) ∧ Below w.heap.size w w' := by
  obtain ⟨z, hz⟩ := fault_totS p k l
  by_cases h0 : z = 0
  · subst h0
    obtain ⟨P, K, rfl, rfl, hG⟩ := Fd.good_of hz
    by_cases k0 : paE (P ^ K) = 0
    · refine (PaleyG_ok P K l v w hl hG k0).mono fun e w' ⟨⟨y, he, ho⟩, hb⟩ => ⟨⟨_, y, _, _, he, .inr ⟨P, K, rfl, rfl, hG, ?_, .inr ⟨rfl, rfl, rfl⟩⟩, ho⟩, hb⟩
      rw [k0]; rfl
    · refine (PaleyG_none P K l v w hl hG k0).mono fun e w' ⟨he, hb⟩ => ⟨⟨_, _, _, _, he, .inr ⟨P, K, rfl, rfl, hG, rfl, .inl ⟨by omega, rfl, rfl⟩⟩, OwnS.nil _⟩, hb⟩
  · exact (PaleyG_bad p k l z v w hl hz h0).mono fun e w' ⟨he, hb⟩ => ⟨⟨_, _, _, _, he, .inl ⟨hz, h0, rfl, rfl⟩, OwnS.nil _⟩, hb⟩
theorem LatinG_any {m : Nat} {L : List Int} (G : GoodS m L) (v : Value) (w : World) (hl : Sl w v L) :
    Calls Tryd.prog 12 #[.agg #[.int .i64 (m : Int), v]] w fun e w' => (∃ (n : Int) (y : Value) (M : List Int) (u : Nat), e = .returned (.tuple #[.agg #[.int .i64 n, y], .int .i64 (u : Int)]) ∧ LaR m L n M u ∧ OwnS w' y M) ∧ Below w.heap.size w w' := by
  by_cases h : 4 < m
  · obtain ⟨a, c, e⟩ := sl_len hl
    exact (LatinGraph_far m v w (by omega) ⟨a, _, c, e⟩).mono fun e w' ⟨he, hb⟩ => ⟨⟨0, _, [], 3, he, .inr ⟨m, rfl, G, .inl ⟨h, rfl, rfl, rfl⟩⟩, OwnS.nil _⟩, hb⟩
  · refine (LatinGraph_main m L v w G.pos (by omega) hl G.len).mono fun e w' ⟨⟨y, he, ho⟩, hb⟩ => ⟨⟨_, y, lgC m L, 0, he, .inr ⟨m, rfl, G, .inr ⟨by omega, rfl, rfl, rfl⟩⟩, OwnS.of (base := w.heap.size) ?_⟩, hb⟩
    have : (lgC m L).length = m * m * (m * m) := (lg_good (L := L) G.pos (by omega)).len
    rw [this]; exact ho
theorem LaR.one {m : Nat} {L : List Int} (hz : lF m L = 0) {n n' : Int} {M M' : List Int} {u u' : Nat} (h : LaR m L n M u) (h' : LaR m L n' M' u') : n = n' ∧ M = M' ∧ u = u' := by
  rcases h with ⟨h0, _⟩ | ⟨m1, e1, _, h⟩
  · exact absurd hz h0
  rcases h' with ⟨h0, _⟩ | ⟨m2, e2, _, h'⟩
  · exact absurd hz h0
  obtain rfl : m = m1 := by omega
  obtain rfl : m = m2 := by omega
  rcases h with ⟨k, rfl, rfl, rfl⟩ | ⟨k, rfl, rfl, rfl⟩ <;> rcases h' with ⟨k', rfl, rfl, rfl⟩ | ⟨k', rfl, rfl, rfl⟩
  · exact ⟨rfl, rfl, rfl⟩
  · omega
  · omega
  · exact ⟨rfl, rfl, rfl⟩
def FLF : Prop := ∀ (s : Int) (L : List Int) (v : Value) (W : World), Sl W v L → L.length ≤ maxLen → Calls Tryd.prog 11 #[.agg #[.int .i64 s, v]] W fun e w' => e = .returned (.int .i64 (lF s L : Int)) ∧ Below W.heap.size W w'
/-- The boxes of the square that came, and of the two that are held against each other. -/
structure MB (w : World) (s : Int) (sv : Value) (ab bb : Nat) (an : Int) (ay : Value) (bn : Int) (bv : Value) (wr : World) : Prop where
  sbox : wr.heap[w.heap.size + 1]? = some (.cells #[.int .i64 s, sv] 26 (0, 0))
  abox : wr.heap[ab]? = some (.cells #[.int .i64 an, ay] 26 (0, 0))
  bbox : wr.heap[bb]? = some (.cells #[.int .i64 bn, bv] 26 (0, 0))
  bel : Below w.heap.size w wr
  lt : w.heap.size + 1 < ab
  lb : ab < bb
section
variable {w wr w1 : World} {s an bn : Int} {sv ay bv : Value} {ab bb : Nat}
theorem MB.next (h : MB w s sv ab bb an ay bn bv wr) (b : Below wr.heap.size wr w1) : MB w s sv ab bb an ay bn bv w1 :=
  ⟨(b.block _ (Array.getElem?_eq_some_iff.1 h.sbox).1).trans h.sbox, (b.block _ (Array.getElem?_eq_some_iff.1 h.abox).1).trans h.abox, (b.block _ (Array.getElem?_eq_some_iff.1 h.bbox).1).trans h.bbox, Below.next h.bel b, h.lt, h.lb⟩
theorem put2_other {b c : Nat} {x : Option Obj} (u v : Value) (h : wr.heap[c]? = x) (hc : c ≠ b) : ((wr.setCell ⟨b, 0, none⟩ u).setCell ⟨b, 1, none⟩ v).heap[c]? = x :=
  (heap_setCell_other _ ⟨b, 1, none⟩ c v hc).trans ((heap_setCell_other wr ⟨b, 0, none⟩ c u hc).trans h)
theorem put2_bel {b : Nat} (u v : Value) (h : Below w.heap.size w wr) (hb : w.heap.size ≤ b) : Below w.heap.size w ((wr.setCell ⟨b, 0, none⟩ u).setCell ⟨b, 1, none⟩ v) :=
  (h.setCell (p := ⟨b, 0, none⟩) hb _).setCell (p := ⟨b, 1, none⟩) hb _
theorem MB.putA (h : MB w s sv ab bb an ay bn bv wr) (n : Int) (y : Value) : MB w s sv ab bb n y bn bv ((wr.setCell ⟨ab, 0, none⟩ (.int .i64 n)).setCell ⟨ab, 1, none⟩ y) :=
  ⟨put2_other _ _ h.sbox (by have := h.lt; omega), put2_row h.abox _ _, put2_other _ _ h.bbox (by have := h.lb; omega), put2_bel _ _ h.bel (by have := h.lt; omega), h.lt, h.lb⟩
theorem MB.putB (h : MB w s sv ab bb an ay bn bv wr) (n : Int) (y : Value) : MB w s sv ab bb an ay n y ((wr.setCell ⟨bb, 0, none⟩ (.int .i64 n)).setCell ⟨bb, 1, none⟩ y) :=
  ⟨put2_other _ _ h.sbox (by have := h.lt; have := h.lb; omega), put2_other _ _ h.abox (by have := h.lb; omega), put2_row h.bbox _ _, put2_bel _ _ h.bel (by have := h.lt; have := h.lb; omega), h.lt, h.lb⟩
end
set_option maxRecDepth 100000 in
set_option maxHeartbeats 40000000 in
theorem Makes_law (hT : FTri) (hP : FPal) (hLa : FLat) (hF : FLF) (p k : Int) (l : List Int) (u : Value) (n : Int) (s : Int) (L : List Int) (v : Value) (w : World) (hTab : Fd.Tab w) (hu : Sl w u l) (hlu : l.length ≤ maxLen) (hv : Sl w v L) (hlv : L.length ≤ maxLen) :
    Calls Tryd.prog 3 #[.agg #[.int .i64 p, .int .i64 k, u], .int .i64 n, .agg #[.int .i64 s, v]] w fun e w' => e = .returned (.bool true) ∧ Below w.heap.size w w' := by
  have b0 : Below w.heap.size w ((w.alloc (.cells #[.int .i64 p, .int .i64 k, u] 24)).alloc (.cells #[.int .i64 s, v] 26)) := Below.next (balloc _ _) (balloc _ _)
  have hfb : ((w.alloc (.cells #[.int .i64 p, .int .i64 k, u] 24)).alloc (.cells #[.int .i64 s, v] 26)).heap[w.heap.size]? = some (.cells #[.int .i64 p, .int .i64 k, u] 24 (0, 0)) := (Below.heap_alloc _ _ _ (by simp)).trans (heap_alloc_new w _)
  have hsb : ((w.alloc (.cells #[.int .i64 p, .int .i64 k, u] 24)).alloc (.cells #[.int .i64 s, v] 26)).heap[w.heap.size + 1]? = some (.cells #[.int .i64 s, v] 26 (0, 0)) := by
    have := heap_alloc_new (w.alloc (.cells #[.int .i64 p, .int .i64 k, u] 24)) (.cells #[.int .i64 s, v] 26)
    simpa using this
  have HC1 : Hid (∀ W, Below w.heap.size w W → Calls Tryd.prog 5 #[.agg #[.int .i64 p, .int .i64 k, u]] W fun e w' => (∃ (n : Int) (y : Value) (M : List Int) (z : Int), e = .returned (.tuple #[.agg #[.int .i64 n, y], .int .i64 z]) ∧ PaR p k l n M z ∧ OwnS w' y M) ∧ Below W.heap.size W w') := fun W b => hP p k l u W (hTab.below b) (hu.below b) hlu
  have HC2 : Hid (∀ W, Below w.heap.size w W → Calls Tryd.prog 6 #[.agg #[.int .i64 p, .int .i64 k, u]] W fun e w' => (∃ (n : Int) (y : Value) (M : List Int) (z : Int), e = .returned (.tuple #[.agg #[.int .i64 n, y], .int .i64 z]) ∧ PaR p k l n M z ∧ OwnS w' y M) ∧ Below W.heap.size W w') := fun W b => PaleyG_any p k l u W (hu.below b)
  have HC3 : Hid (∀ W, Calls Tryd.prog 8 #[.int .i64 n] W fun e w' => (∃ y, e = .returned (.tuple #[.agg #[.int .i64 (tS n), y], .int .i64 (tE n : Int)]) ∧ OwnS w' y (tL n)) ∧ Below W.heap.size W w') := fun W => hT n W
  have HC4 : Hid (∀ W, Calls Tryd.prog 9 #[.int .i64 n] W fun e w' => (∃ y, e = .returned (.tuple #[.agg #[.int .i64 (tS n), y], .int .i64 (tE n : Int)]) ∧ OwnS w' y (tL n)) ∧ Below W.heap.size W w') := fun W => TriangleOf_any n W
  have HTL : Hid ((tL n).length ≤ maxLen) := tl_len n
  have HC5 : Hid (∀ W, Below w.heap.size w W → Calls Tryd.prog 10 #[.agg #[.int .i64 s, v]] W fun e w' => (∃ (n : Int) (y : Value) (M : List Int) (u : Nat), e = .returned (.tuple #[.agg #[.int .i64 n, y], .int .i64 (u : Int)]) ∧ LaR s L n M u ∧ OwnS w' y M) ∧ Below W.heap.size W w') := fun W b => hLa s L v W (hv.below b) hlv
  have HC6 : Hid (∀ W, Below w.heap.size w W → Calls Tryd.prog 11 #[.agg #[.int .i64 s, v]] W fun e w' => e = .returned (.int .i64 (lF s L : Int)) ∧ Below W.heap.size W w') := fun W b => hF s L v W (hv.below b) hlv
  have HC7 : Hid (lF s L = 0 → ∀ W, Below w.heap.size w W → Calls Tryd.prog 12 #[.agg #[.int .i64 s, v]] W fun e w' => (∃ (n : Int) (y : Value) (M : List Int) (u : Nat), e = .returned (.tuple #[.agg #[.int .i64 n, y], .int .i64 (u : Int)]) ∧ LaR s L n M u ∧ OwnS w' y M) ∧ Below W.heap.size W w') := fun h W b => by
    obtain ⟨m, rfl, G⟩ := lF_ok h
    exact LatinG_any G v W (hv.below b)
  have HLB : Hid (∀ {n M u}, LaR s L n M u → lF s L ≠ 0 → n = 0 ∧ M = [] ∧ u = lF s L) := fun h h0 => by
    rcases h with ⟨_, rfl, rfl, rfl⟩ | ⟨m, rfl, G, _⟩
    · exact ⟨rfl, rfl, rfl⟩
    · exact absurd (lF_good G) h0
  have HLO : Hid (∀ {n M u n' M' u'}, LaR s L n M u → LaR s L n' M' u' → lF s L = 0 → n = n' ∧ M = M' ∧ u = u') := fun h h' h0 => by
    obtain ⟨m, rfl, G⟩ := lF_ok h0
    exact h.one h0 h'
  generalize tE n = te at *
  generalize tS n = ts at *
  generalize tL n = tl at *
  obtain ⟨ua, uc, rfl⟩ := sl_len hu
  obtain ⟨va, vc, rfl⟩ := sl_len hv
  generalize l.length = zu at *
  generalize L.length = zv at *
  clear hu hv hTab
  have C1 := HC1.out _ b0
  obtain ⟨x0, x1, x2⟩ := row3 hfb
  go_enter Tryd.func3, Tryd.ntmps3
  go_wp2_with fail
  refine C1.mono ?_
  rintro e w1 ⟨⟨n1, y1, M1, z1, rfl, hp1, ho1⟩, b1⟩
  clear C1 x0 x1 x2 HC1
  obtain ⟨a1, c1, e1⟩ := ho1.len
  have hsb1 := (b1.block _ (Array.getElem?_eq_some_iff.1 hsb).1).trans hsb
  have hfb1 := (b1.block _ (Array.getElem?_eq_some_iff.1 hfb).1).trans hfb
  have B1 := Below.next b0 b1
  have hl1 : w.heap.size + 1 < w1.heap.size := (Array.getElem?_eq_some_iff.1 hsb1).1
  obtain ⟨q1, Hq1⟩ : ∃ z, Hid (M1.length = z) := ⟨_, rfl⟩
  rw [Hq1.out] at e1
  subst e1
  have hab := heap_alloc_new w1 (.cells #[.int .i64 n1, .slice a1 q1 c1] 26)
  have hsa := (Below.heap_alloc w1 (.cells #[.int .i64 n1, .slice a1 q1 c1] 26) _ hl1).trans hsb1
  have hfa := (Below.heap_alloc w1 (.cells #[.int .i64 n1, .slice a1 q1 c1] 26) _ (by omega)).trans hfb1
  have Ba := Below.next B1 (balloc w1 (.cells #[.int .i64 n1, .slice a1 q1 c1] 26))
  have hoa := ho1.below (balloc w1 (.cells #[.int .i64 n1, .slice a1 q1 c1] 26))
  have C2 := HC2.out _ Ba
  obtain ⟨x0, x1, x2⟩ := row3 hfa
  obtain ⟨ab, hab'⟩ : ∃ q, w1.heap.size = q := ⟨_, rfl⟩
  rw [hab'] at hab hl1
  clear hsb hsb1 hfb hfb1 b0 b1 B1 ho1 HC2
  go_wp2_with fail
  refine C2.mono ?_
  rintro e w2 ⟨⟨n2, y2, M2, z2, rfl, hp2, ho2⟩, b2⟩
  clear C2 x0 x1 x2 hfa
  obtain ⟨g1, g2, g3⟩ := hp1.one hp2
  subst g1 g2 g3
  obtain ⟨a2, c2, e2⟩ := ho2.len
  rw [Hq1.out] at e2
  subst e2
  have hsb2 := (b2.block _ (Array.getElem?_eq_some_iff.1 hsa).1).trans hsa
  have hab2 := (b2.block _ (Array.getElem?_eq_some_iff.1 hab).1).trans hab
  have hl2 : ab < w2.heap.size := (Array.getElem?_eq_some_iff.1 hab2).1
  have K2 : MB w s (.slice va zv vc) ab w2.heap.size n1 (.slice a1 q1 c1) n1 (.slice a2 q1 c2) (w2.alloc (.cells #[.int .i64 n1, .slice a2 q1 c2] 26)) := ⟨(Below.heap_alloc _ _ _ (by omega)).trans hsb2, (Below.heap_alloc _ _ _ hl2).trans hab2, heap_alloc_new w2 _, Below.next (Below.next Ba b2) (balloc _ _), hl1, hl2⟩
  have C3 := Squares_same n1 M1 _ _ _ ((hoa.below b2).below (balloc w2 (.cells #[.int .i64 n1, .slice a2 q1 c2] 26))).sl (ho2.below (balloc w2 (.cells #[.int .i64 n1, .slice a2 q1 c2] 26))).sl hp1.len
  obtain ⟨bb, hbb⟩ : ∃ q, w2.heap.size = q := ⟨_, rfl⟩
  rw [hbb] at K2
  obtain ⟨y0, y1, _, _⟩ := row2 K2.abox
  obtain ⟨y2, y3, _, _⟩ := row2 K2.bbox
  have d1 : (z1 != z1) = false := by simp
  clear hsa hab hab2 hsb2 hl1 hl2 Ba b2 hoa ho2 hp1 hp2
  go_wp2_with fail
  refine C3.mono ?_
  rintro e w3 ⟨rfl, b3⟩
  clear C3 y0 y1 y2 y3
  have K3 := K2.next b3
  have C4 := HC3.out w3
  clear K2 b3 HC3
  go_wp2_with fail
  refine C4.mono ?_
  rintro e w4 ⟨⟨y4, rfl, ho4⟩, b4⟩
  clear C4 d1
  have K4 := K3.next b4
  obtain ⟨a4, c4, e4⟩ := ho4.len
  obtain ⟨q4, Hq4⟩ : ∃ z, Hid (tl.length = z) := ⟨_, rfl⟩
  rw [Hq4.out] at e4
  subst e4
  have K5 := K4.putA ts (.slice a4 q4 c4)
  have ho5 := ho4.put (u := .int .i64 ts) (v := .slice a4 q4 c4) K4.abox
  obtain ⟨y0, y1, y2, y3⟩ := row2 K4.abox
  have C5 := HC4.out ((w4.setCell ⟨ab, 0, none⟩ (.int .i64 ts)).setCell ⟨ab, 1, none⟩ (.slice a4 q4 c4))
  clear K3 b4 HC4 K4 ho4
  go_wp2_with fail
  refine C5.mono ?_
  rintro e w6 ⟨⟨y6, rfl, ho6⟩, b6⟩
  clear C5 y0 y1 y2 y3
  have K6 := K5.next b6
  obtain ⟨a6, c6, e6⟩ := ho6.len
  rw [Hq4.out] at e6
  subst e6
  have K7 := K6.putB ts (.slice a6 q4 c6)
  have ho7 := ho6.put (u := .int .i64 ts) (v := .slice a6 q4 c6) K6.bbox
  have ho7a := (ho5.below b6).put (u := .int .i64 ts) (v := .slice a6 q4 c6) K6.bbox
  obtain ⟨y0, y1, y2, y3⟩ := row2 K6.bbox
  obtain ⟨u0, u1, u2, u3⟩ := row2 K7.abox
  obtain ⟨u4, u5, u6, u7⟩ := row2 K7.bbox
  have C7 := Squares_same ts tl _ _ _ ho7a.sl ho7.sl HTL.out
  have d1 : ((te : Int) != (te : Int)) = false := by simp
  clear K5 b6 K6 ho6 ho5 ho7 ho7a
  go_wp2_with fail
  refine C7.mono ?_
  rintro e w8 ⟨rfl, b8⟩
  clear C7 y0 y1 y2 y3 u0 u1 u2 u3 u4 u5 u6 u7
  have K8 := K7.next b8
  have C9 := HC5.out _ K8.bel
  obtain ⟨y0, y1, _, _⟩ := row2 K8.sbox
  clear K7 b8 HC5
  go_wp2_with fail
  refine C9.mono ?_
  rintro e w9 ⟨⟨n9, y9, M9, z9, rfl, hl9, ho9⟩, b9⟩
  clear C9 y0 y1 d1
  have K9 := K8.next b9
  obtain ⟨a9, c9, e9⟩ := ho9.len
  obtain ⟨q9, Hq9⟩ : ∃ z, Hid (M9.length = z) := ⟨_, rfl⟩
  rw [Hq9.out] at e9
  subst e9
  have K10 := K9.putA n9 (.slice a9 q9 c9)
  have ho10 := ho9.put (u := .int .i64 n9) (v := .slice a9 q9 c9) K9.abox
  obtain ⟨y0, y1, y2, y3⟩ := row2 K9.abox
  obtain ⟨u0, u1, _, _⟩ := row2 K10.sbox
  have C11 := HC6.out _ K10.bel
  clear K8 b9 K9 ho9 HC6
  go_wp2_with fail
  refine C11.mono ?_
  rintro e w11 ⟨rfl, b11⟩
  clear C11 y0 y1 y2 y3 u0 u1
  have K11 := K10.next b11
  have K12 := K11.putB 0 (.slice none 0 0)
  have ho12 := (ho10.below b11).put (u := .int .i64 0) (v := .slice none 0 0) K11.bbox
  obtain ⟨y0, y1, y2, y3⟩ := row2 K11.bbox
  have hl9l := hl9.len
  clear K10 b11 ho10
  by_cases h0 : lF s L = 0
  · have C13 := HC7.out h0 _ K12.bel
    rw [h0]
    have d2 : ((0 : Int) == 0) = true := rfl
    obtain ⟨u0, u1, _, _⟩ := row2 K12.sbox
    have HLo : Hid (∀ {n' M' u'}, LaR s L n' M' u' → n9 = n' ∧ M9 = M' ∧ z9 = u') := fun h' => HLO.out hl9 h' h0
    clear HC7 HLB HLO h0 K11
    go_wp2_with fail
    refine C13.mono ?_
    rintro e w13 ⟨⟨n13, y13, M13, z13, rfl, hl13, ho13⟩, b13⟩
    clear C13 y0 y1 y2 y3 u0 u1
    obtain ⟨g1, g2, g3⟩ := HLo.out hl13
    subst g1 g2 g3
    have K13 := K12.next b13
    obtain ⟨a13, c13, e13⟩ := ho13.len
    rw [Hq9.out] at e13
    subst e13
    have K14 := K13.putB n9 (.slice a13 q9 c13)
    have ho14 := ho13.put (u := .int .i64 n9) (v := .slice a13 q9 c13) K13.bbox
    have ho14a := (ho12.below b13).put (u := .int .i64 n9) (v := .slice a13 q9 c13) K13.bbox
    obtain ⟨y0, y1, y2, y3⟩ := row2 K13.bbox
    obtain ⟨u0, u1, u2, u3⟩ := row2 K14.abox
    obtain ⟨u4, u5, u6, u7⟩ := row2 K14.bbox
    have C15 := Squares_same n9 M9 _ _ _ ho14a.sl ho14.sl hl9l
    have d1 : ((z9 : Int) == (z9 : Int)) = true := by simp
    clear K12 b13 K13 ho12 ho13 ho14 ho14a hl9 hl13 HLo
    go_wp2_with fail
    refine C15.mono ?_
    rintro e w15 ⟨rfl, b15⟩
    clear C15 y0 y1 y2 y3 u0 u1 u2 u3 u4 u5 u6 u7
    have HB : Hid _ := (K14.next b15).bel
    clear K14 b15
    go_wp2
    go_ret
    exact ⟨rfl, HB.out⟩
  · obtain ⟨g1, g2, g3⟩ := HLB.out hl9 h0
    subst g1 g2 g3
    have e9 : (0 : Nat) = q9 := Hq9.out
    subst e9
    have d2 : ((lF s L : Int) == 0) = false := by simp; omega
    obtain ⟨u0, u1, u2, u3⟩ := row2 K12.abox
    obtain ⟨u4, u5, u6, u7⟩ := row2 K12.bbox
    have C15 := Squares_same 0 [] _ _ _ ho12.sl (OwnS.nil _).sl nil_len
    have d1 : ((lF s L : Int) == (lF s L : Int)) = true := by simp
    clear HC7 HLB HLO h0 K11 ho12 hl9
    generalize lF s L = zz at *
    go_wp2_with fail
    refine C15.mono ?_
    rintro e w15 ⟨rfl, b15⟩
    clear C15 y0 y1 y2 y3 u0 u1 u2 u3 u4 u5 u6 u7
    have HB : Hid _ := (K12.next b15).bel
    clear K12 b15
    go_wp2
    go_ret
    exact ⟨rfl, HB.out⟩
end Go.Proofs.YtlmjlffipinjiaaDoor

namespace Go.Proofs.YtlmjlffipinjiaaDoor
theorem flf : FLF := fun s L v W hv hl => LatinFault_any s L v W hv hl
end Go.Proofs.YtlmjlffipinjiaaDoor
