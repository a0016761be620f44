/- What the faces of chapter 16 are to tell of graphs; strongFact over that. -/
import Derived.Test.YtlmjlffipinjiaaSG4
namespace Go.Proofs.Ytlmjlffipinjiaa
open Go.RowKit

theorem own_ne24 {w : World} {g n b : Nat} {f : Nat → Int} {cs : Array Value} (h : Own w g n f) (hb : w.heap[b]? = some (.cells cs 24 (0, 0))) : g ≠ b := by
  rintro rfl
  obtain ⟨cur, h, _⟩ := h
  rw [hb] at h
  simp at h
/-- Nothing, or a block of numbers. -/
def OwnS (w : World) (y : Value) (l : List Int) : Prop := (y = .slice none 0 0 ∧ l = []) ∨ ∃ g cap, y = .slice (some ⟨g, 0, none⟩) l.length cap ∧ Own w g l.length (fun j => l.getD j 0)
theorem OwnS.nil (w : World) : OwnS w (.slice none 0 0) [] := .inl ⟨rfl, rfl⟩
theorem OwnS.of {w : World} {base : Nat} {y : Value} {l : List Int} (h : w.ownsRow base 3 1 y l.length (vi l)) : OwnS w y l := by
  obtain ⟨_, ⟨rfl, hn⟩ | ⟨g, cap, cur, rfl, _, hg, _, _, _, ht⟩⟩ := h
  · exact .inl ⟨rfl, List.length_eq_zero_iff.1 hn⟩
  · refine .inr ⟨g, cap, rfl, cur, hg, fun j hj => ?_⟩
    have h2 : (cur.toList.take (l.length * 1))[j]? = (vi l)[j]? := by rw [ht]
    rw [List.getElem?_take, if_pos (by omega)] at h2
    rw [← Array.getElem?_toList, h2]
    simp [vi, hj]
theorem OwnS.sl {w : World} {y : Value} {l : List Int} (h : OwnS w y l) : Sl w y l := by
  rcases h with ⟨rfl, rfl⟩ | ⟨g, cap, rfl, h⟩
  · exact Sl.nil w
  · exact ⟨_, cap, rfl, fun j hj => ⟨g, 0, rfl, by rw [Nat.zero_add]; exact h.cell j hj⟩⟩
theorem OwnS.below {w w' : World} {y : Value} {l : List Int} (h : OwnS w y l) (hb : Below w.heap.size w w') : OwnS w' y l := by
  rcases h with h | ⟨g, cap, e, h⟩
  · exact .inl h
  · exact .inr ⟨g, cap, e, h.below hb⟩
theorem OwnS.len {w : World} {y : Value} {l : List Int} (h : OwnS w y l) : ∃ a c, y = .slice a l.length c := by
  obtain ⟨a, c, e, _⟩ := h.sl
  exact ⟨a, c, e⟩
theorem sl_len {w : World} {v : Value} {l : List Int} (h : Sl w v l) : ∃ a c, v = .slice a l.length c := by
  obtain ⟨a, c, e, _⟩ := h
  exact ⟨a, c, e⟩
def NuR (s : Int) (L : List Int) (P D N F : Int) (u : Nat) : Prop := (gF s L ≠ 0 ∧ u = gF s L ∧ P = 0 ∧ D = 0 ∧ N = 0 ∧ F = 0) ∨ ∃ n : Nat, s = n ∧ GoodG n L ∧ NmT n (gx n L) P D N F u
theorem NuR.one {s : Int} {L : List Int} {P D N F P' D' N' F' : Int} {u u' : Nat} (h : NuR s L P D N F u) (h' : NuR s L P' D' N' F' u') : P = P' ∧ D = D' ∧ N = N' ∧ F = F' ∧ u = u' := by
  rcases h with ⟨h0, rfl, rfl, rfl, rfl, rfl⟩ | ⟨n, rfl, G, h⟩ <;> rcases h' with ⟨h0', rfl, rfl, rfl, rfl, rfl⟩ | ⟨n', e, G', h'⟩
  · exact ⟨rfl, rfl, rfl, rfl, rfl⟩
  · subst e; exact absurd (gF_good G') h0
  · exact absurd (gF_good G) h0'
  · obtain rfl : n = n' := by omega
    exact h.one h' G.pos
/-- The other graph's cells, and its side. -/
def otC (n : Nat) (L : List Int) : List Int := (List.range (n * n)).map fun j => otG (gx n L) (j / n) (j % n)
def otL (s : Int) (L : List Int) : List Int := if gF s L = 0 then otC s.toNat L else []
def otS (s : Int) (L : List Int) : Int := if gF s L = 0 then s else 0
def FrR (s : Int) (L : List Int) (x u : Nat) : Prop := (gF s L ≠ 0 ∧ u = gF s L ∧ x = 0) ∨ ∃ n : Nat, s = n ∧ GoodG n L ∧ FrT n (gx n L) x u
theorem FrR.one {s : Int} {L : List Int} {x u x' u' : Nat} (h : FrR s L x u) (h' : FrR s L x' u') : x = x' ∧ u = u' := by
  rcases h with ⟨h0, rfl, rfl⟩ | ⟨n, rfl, G, h⟩ <;> rcases h' with ⟨h0', rfl, rfl⟩ | ⟨n', e, G', h'⟩
  · exact ⟨rfl, rfl⟩
  · subst e; exact absurd (gF_good G') h0
  · exact absurd (gF_good G) h0'
  · obtain rfl : n = n' := by omega
    exact h.one h'
def tN (n : Nat) : Nat := (trL n).length
def trC (n : Nat) : List Int := (List.range (tN n * tN n)).map fun j => trG n (j / tN n) (j % tN n)
def tE (n : Int) : Nat := if n < 2 ∨ 7 < n then 1 else 0
def tS (n : Int) : Int := if tE n = 0 then (tN n.toNat : Int) else 0
def tL (n : Int) : List Int := if tE n = 0 then trC n.toNat else []
/-- What the four numbers could be. -/
def FtP (v k l m : Int) : Prop := k * (k - l - 1) = (v - k - 1) * m ∧ ((2 * k + (v - 1) * (l - m) = 0 ∧ v % 2 = 1) ∨ ∃ r f : Nat, 1 ≤ r ∧ (r * r : Int) = (l - m) * (l - m) + 4 * (k - m) ∧ (f : Int) < v ∧ (v - 1 - 2 * f) * r = 2 * k + (v - 1) * (l - m))
def FtO (v k l m : Int) : Prop := v < 2 ∨ 1000 < v ∨ k < 1 ∨ v ≤ k ∨ l < 0 ∨ v < l ∨ m < 0 ∨ v < m
def FtR (v k l m : Int) (q : Bool) (u : Nat) : Prop := (FtO v k l m ∧ q = false ∧ u = 1) ∨ (¬ FtO v k l m ∧ u = 0 ∧ (q = true ↔ FtP v k l m))
def FChk : Prop := ∀ (s : Int) (L : List Int) (v : Value) (W : World), Sl W v L → L.length ≤ maxLen → Calls Try.prog 8 #[.agg #[.int .i64 s, v]] W fun e w' => e = .returned (.int .i64 (gF s L : Int)) ∧ Below W.heap.size W w'
def FNum : Prop := ∀ (s : Int) (L : List Int) (v : Value) (W : World), Sl W v L → L.length ≤ maxLen → Calls Try.prog 9 #[.agg #[.int .i64 s, v]] W fun e w' => (∃ (P D N F : Int) (u : Nat), e = .returned (.tuple #[.agg #[.int .i64 P, .int .i64 D, .int .i64 N, .int .i64 F], .int .i64 (u : Int)]) ∧ NuR s L P D N F u) ∧ Below W.heap.size W w'
def FOth : Prop := ∀ (s : Int) (L : List Int) (v : Value) (W : World), Sl W v L → L.length ≤ maxLen → Calls Try.prog 10 #[.agg #[.int .i64 s, v]] W fun e w' => (∃ y, e = .returned (.tuple #[.agg #[.int .i64 (otS s L), y], .int .i64 (gF s L : Int)]) ∧ OwnS w' y (otL s L)) ∧ Below W.heap.size W w'
def FFri : Prop := ∀ (s : Int) (L : List Int) (v : Value) (W : World), Sl W v L → L.length ≤ maxLen → Calls Try.prog 11 #[.agg #[.int .i64 s, v]] W fun e w' => (∃ (x u : Nat), e = .returned (.tuple #[.int .i64 (x : Int), .int .i64 (u : Int)]) ∧ FrR s L x u) ∧ Below W.heap.size W w'
def FTri : Prop := ∀ (n : Int) (W : World), Calls Try.prog 27 #[.int .i64 n] W fun e w' => (∃ y, e = .returned (.tuple #[.agg #[.int .i64 (tS n), y], .int .i64 (tE n : Int)]) ∧ OwnS w' y (tL n)) ∧ Below W.heap.size W w'
def FFit : Prop := ∀ (v k l m : Int) (W : World), Calls Try.prog 17 #[.agg #[.int .i64 v, .int .i64 k, .int .i64 l, .int .i64 m]] W fun e w' => (∃ (q : Bool) (u : Nat), e = .returned (.tuple #[.bool q, .int .i64 (u : Int)]) ∧ FtR v k l m q u) ∧ Below W.heap.size W w'
theorem gx_range {n a b : Nat} (f : Nat → Nat → Int) (ha : a < n) (hb : b < n) : gx n ((List.range (n * n)).map fun j => f (j / n) (j % n)) a b = f a b := by
  unfold gx
  have h := cell_ltG ha hb
  obtain ⟨e1, e2⟩ := cell_div (i := a) (j := b) (n := n) hb
  simp [h, e1, e2]
theorem tr_bit (n a b : Nat) : trG n a b = 0 ∨ trG n a b = 1 := by unfold trG; split <;> simp
theorem tr_gr (n v : Nat) : Gr v (trG n) where
  bit a b _ _ := tr_bit n a b
  sym a b _ _ := by
    unfold trG
    by_cases h : a ≠ b ∧ (trL n).getD a 0 &&& (trL n).getD b 0 ≠ 0
    · rw [if_pos h, if_pos ⟨Ne.symm h.1, by rw [Nat.and_comm]; exact h.2⟩]
    · rw [if_neg h, if_neg fun k => h ⟨Ne.symm k.1, by rw [Nat.and_comm]; exact k.2⟩]
  diag a _ := if_neg fun h => h.1 rfl
theorem tr_good {n : Nat} (h2 : 2 ≤ n) (h7 : n ≤ 7) : GoodG (tN n) (trC n) := by
  have ht : 1 ≤ tN n ∧ tN n ≤ 24 := by
    have key : ∀ i : Fin 8, 2 ≤ i.val → 1 ≤ tN i.val ∧ tN i.val ≤ 24 := by decide +kernel
    exact key ⟨n, by omega⟩ h2
  exact ⟨ht.1, ht.2, by simp [trC], (tr_gr n (tN n)).congr fun a b ha hb => gx_range (trG n) ha hb⟩
/-- The numbers of a triangle. -/
theorem tr_stn {n : Nat} (h3 : 3 < n) (h7 : n ≤ 7) : StN (tN n) (2 * (n - 2)) (n - 2) 4 (gx (tN n) (trC n)) := by
  have S := (tr_stg h3 h7).congr (B := gx (tN n) (trC n)) fun a b ha hb => gx_range (trG n) ha hb
  have G := (tr_good (show 2 ≤ n by omega) h7)
  have key : ∀ i : Fin 8, 3 < i.val → 2 * i.val ≤ tN i.val + 2 := by decide +kernel
  have hk := key ⟨n, by omega⟩ h3
  dsimp only at hk
  unfold tN at hk
  exact S.stn G.gr G.pos (by omega) (by omega)
theorem fact_num {P D N F : Int} {u : Nat} (h : NuR 10 (trC 5) P D N F u) : P = 10 ∧ D = 6 ∧ N = 3 ∧ F = 4 ∧ u = 0 := by
  have G := tr_good (n := 5) (by decide) (by decide)
  have S := tr_stn (n := 5) (by decide) (by decide)
  have e : tN 5 = 10 := by decide +kernel
  rw [e] at G S
  have : NuR 10 (trC 5) 10 6 3 4 0 := .inr ⟨10, rfl, G, .inl ⟨rfl, rfl, S⟩⟩
  exact h.one this
theorem tE5 : tE 5 = 0 := by decide
theorem tS5 : tS 5 = 10 := by decide +kernel
theorem tL5 : tL 5 = trC 5 := rfl
set_option maxRecDepth 100000 in
set_option maxHeartbeats 4000000 in
theorem strongFact_any (hT : FTri) (hN : FNum) (w : World) : Calls Try.prog 16 #[] w fun e w' => e = .returned (.bool true) ∧ Below w.heap.size w w' := by
  have C := hT 5 w
  rw [tE5, tS5, tL5] at C
  have hlen : (trC 5).length = 100 := by decide +kernel
  have HD : Hid (∀ y W, Sl W y (trC 5) → Calls Try.prog 9 #[.agg #[.int .i64 10, y]] W fun e w' => e = .returned (.tuple #[.agg #[.int .i64 10, .int .i64 6, .int .i64 3, .int .i64 4], .int .i64 0]) ∧ Below W.heap.size W w') := fun y W h => (hN 10 (trC 5) y W h (by rw [hlen]; decide)).mono fun e w' ⟨⟨P, D, N, F, u, he, hr⟩, hb⟩ => by
    obtain ⟨rfl, rfl, rfl, rfl, rfl⟩ := fact_num hr
    exact ⟨he, hb⟩
  generalize trC 5 = l at *
  go_enter Try.func16, Try.ntmps16
  go_wp2_with (first
    | (go_at_call 27; refine C.mono ?_; rintro e w1 ⟨⟨y, rfl, hy⟩, b1⟩; clear C; obtain ⟨ya, yc, ey⟩ := hy.len; rw [hlen] at ey; subst ey; have D := HD.out _ _ (hy.sl.below (balloc w1 (.cells #[.int .i64 10, .slice ya 100 yc] 24))); clear HD)
    | (go_at_call 9; refine D.mono ?_; rintro e w2 ⟨rfl, b2⟩; clear D))
  go_ret
  exact ⟨rfl, Below.next (Below.next b1 (Below.next (balloc _ _) b2)) (balloc _ _)⟩
end Go.Proofs.Ytlmjlffipinjiaa
