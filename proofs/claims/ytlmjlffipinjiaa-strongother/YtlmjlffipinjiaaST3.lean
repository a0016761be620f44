/- The law StrongOther over what the faces tell. -/
import Derived.Test.YtlmjlffipinjiaaST2
import Derived.Test.YtlmjlffipinjiaaSqA
namespace Go.Proofs.Ytlmjlffipinjiaa
open Go.RowKit

theorem ot_good {n : Nat} {L : List Int} (G : GoodG n L) : GoodG n (otC n L) :=
  ⟨G.pos, G.le, by simp [otC], G.gr.other.congr fun a b ha hb => gx_range (otG (gx n L)) ha hb⟩
theorem ot_ot {n : Nat} {L : List Int} (G : GoodG n L) : otC n (otC n L) = L := by
  have hn : 0 < n := G.pos
  apply List.ext_getElem
  · simp [otC, G.len]
  · intro j h1 h2
    have hj : j < n * n := by rw [← G.len]; exact h2
    have hq : j / n < n := Nat.div_lt_of_lt_mul hj
    have hr : j % n < n := Nat.mod_lt _ hn
    have e1 : (otC n (otC n L))[j] = otG (gx n (otC n L)) (j / n) (j % n) := by simp [otC]
    have e2 : otG (gx n (otC n L)) (j / n) (j % n) = otG (otG (gx n L)) (j / n) (j % n) := by
      have : gx n (otC n L) (j / n) (j % n) = otG (gx n L) (j / n) (j % n) := gx_range (otG (gx n L)) hq hr
      unfold otG at this ⊢
      rw [this]
    rw [e1, e2, otG_otG G.gr hq]
    unfold gx
    rw [Nat.mul_comm, Nat.div_add_mod]
    simp [List.getD_eq_getElem?_getD, h2]
/-- The two graphs' numbers. -/
theorem ot_nums {n : Nat} {L : List Int} (G : GoodG n L) {P D N F P' D' N' F' : Int} {u u' : Nat} (h : NuR n L P D N F u) (h' : NuR n (otC n L) P' D' N' F' u') :
    u = u' ∧ (u = 0 → P = n ∧ P' = n ∧ D' = n - 1 - D ∧ 0 ≤ D ∧ D + 1 ≤ n ∧ 0 ≤ N ∧ N ≤ n ∧ 0 ≤ F ∧ F ≤ n ∧ 0 ≤ N' ∧ N' ≤ n ∧ 0 ≤ F' ∧ F' ≤ n ∧ (D ≠ 0 → D' ≠ 0 → N' = n - 2 - 2 * D + F ∧ F' = n - 2 * D + N)) := by
  have GO := ot_good G
  have num : ∀ {A : Nat → Nat → Int} {k l m : Int}, Gr n A → StN n k l m A → 0 ≤ k ∧ k + 1 ≤ n ∧ 0 ≤ l ∧ l ≤ n ∧ 0 ≤ m ∧ m ≤ n := fun {A k l m} GA S => by
    have hd := GA.dg_less (a := 0) G.pos
    rw [S.st.deg 0 G.pos] at hd
    have hl : 0 ≤ l ∧ l ≤ n := by
      by_cases q : ∀ a b, a < n → b < n → A a b ≠ 1
      · rw [S.nl q]; omega
      · refine Classical.byContradiction fun c => q fun a b ha hb e => c ?_
        have := GA.cm_at ha hb
        have := GA.dg_less ha
        rw [S.st.near a b ha hb e] at *
        omega
    have hm : 0 ≤ m ∧ m ≤ n := by
      by_cases q : ∀ a b, a < n → b < n → a ≠ b → A a b ≠ 0
      · rw [S.nm q]; omega
      · refine Classical.byContradiction fun c => q fun a b ha hb hne e => c ?_
        have := GA.cm_at ha hb
        have := GA.dg_less ha
        rw [S.st.far a b ha hb hne e] at *
        omega
    omega
  rcases h with ⟨h0, _⟩ | ⟨n1, e, G1, h⟩
  · exact absurd (gF_good G) h0
  · obtain rfl : n = n1 := by omega
    rcases h' with ⟨h0', _⟩ | ⟨n2, e2, G2, h'⟩
    · exact absurd (gF_good GO) h0'
    · obtain rfl : n = n2 := by omega
      have hcg : ∀ a b, a < n → b < n → gx n (otC n L) a b = otG (gx n L) a b := fun a b ha hb => gx_range (otG (gx n L)) ha hb
      have cg : ∀ {k l m : Int}, StN n k l m (gx n (otC n L)) ↔ StN n k l m (otG (gx n L)) := fun {k l m} => by
        constructor
        · intro S
          exact ⟨S.st.congr fun a b ha hb => (hcg a b ha hb).symm, fun q => S.nl fun a b ha hb => by rw [hcg a b ha hb]; exact q a b ha hb, fun q => S.nm fun a b ha hb hne => by rw [hcg a b ha hb]; exact q a b ha hb hne⟩
        · intro S
          exact ⟨S.st.congr fun a b ha hb => hcg a b ha hb, fun q => S.nl fun a b ha hb => by rw [← hcg a b ha hb]; exact q a b ha hb, fun q => S.nm fun a b ha hb hne => by rw [← hcg a b ha hb]; exact q a b ha hb hne⟩
      rcases h with ⟨rfl, rfl, S⟩ | ⟨rfl, _, _, _, _, h⟩ <;> rcases h' with ⟨rfl, rfl, S'⟩ | ⟨rfl, _, _, _, _, h'⟩
      · refine ⟨rfl, fun _ => ?_⟩
        obtain ⟨l', m', T, hT⟩ := S.other G.gr
        obtain ⟨rfl, rfl, rfl⟩ := (cg.1 S').one T G.pos
        have n1 := num G.gr S
        have n2 := num GO.gr S'
        refine ⟨rfl, rfl, rfl, by omega, by omega, by omega, by omega, by omega, by omega, by omega, by omega, by omega, by omega, fun d1 d2 => hT G.pos (by omega) (by omega)⟩
      · exfalso
        obtain ⟨l', m', T, _⟩ := S.other G.gr
        exact h' ⟨_, _, _, cg.2 T⟩
      · exfalso
        exact h ((other_strong G.gr).2 ⟨_, _, _, cg.1 S'⟩)
      · exact ⟨rfl, fun q => by cases q⟩
set_option maxRecDepth 100000 in
set_option maxHeartbeats 8000000 in
theorem Other_bad (hT : FTri) (hN : FNum) (hO : FOth) (s : Int) (L : List Int) (v : Value) (w : World) (hv : Sl w v L) (hl : L.length ≤ maxLen) (hz : gF s L ≠ 0) :
    Calls Try.prog 5 #[.agg #[.int .i64 s, v]] w fun e w' => e = .returned (.bool true) ∧ Below w.heap.size w w' := by
  have b0 := balloc w (.cells #[.int .i64 s, v] 24)
  have C0 := strongFact_any hT hN (w.alloc (.cells #[.int .i64 s, v] 24))
  have e1 : otS s L = 0 := if_neg hz
  have e2 : otL s L = [] := if_neg hz
  have HC1 : Hid (∀ W, Below w.heap.size w W → Calls Try.prog 10 #[.agg #[.int .i64 s, v]] W fun e w' => (∃ y, e = .returned (.tuple #[.agg #[.int .i64 (otS s L), y], .int .i64 (gF s L : Int)]) ∧ OwnS w' y (otL s L)) ∧ Below W.heap.size W w') := fun W b => hO s L v W (hv.below b) hl
  rw [e1, e2] at HC1
  obtain ⟨u, Hu⟩ : ∃ u, Hid (gF s L = u) := ⟨_, rfl⟩
  rw [Hu.out] at HC1 hz
  have hne : ((u : Int) != 0) = true := by simp; omega
  have hbox := heap_alloc_new w (.cells #[.int .i64 s, v] 24)
  obtain ⟨va, vc, rfl⟩ := sl_len hv
  generalize L.length = z at *
  clear hv e1 e2 hz
  go_enter Try.func5, Try.ntmps5
  go_wp2_with (first
    | (go_at_call 16; refine C0.mono ?_; rintro e w1 ⟨rfl, b1⟩; clear C0; have hbox1 := (b1.block _ (by simp)).trans hbox; obtain ⟨x0, x1, _, _⟩ := row2 hbox1; have B1 := Below.next b0 b1; have C1 := HC1.out _ B1; clear HC1)
    | (go_at_call 10; refine C1.mono ?_; rintro e w2 ⟨⟨y, rfl, hy⟩, b2⟩; clear C1; obtain ⟨ya, yc, ey⟩ := hy.len; rw [List.length_nil] at ey; subst ey))
  go_ret
  exact ⟨rfl, Below.next (Below.next B1 b2) (balloc _ _)⟩
end Go.Proofs.Ytlmjlffipinjiaa
