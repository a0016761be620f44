/- The walk of the document's LatinGraph. -/
import Derived.Test.YtlmjlffipinjiaaDoorST1
import Derived.Test.YtlmjlffipinjiaaDoorSqA
/- The law StrongChecks over what the faces tell. -/
/- The laws StrongReal and StrongOther over what the faces tell. -/
namespace Go.Proofs.YtlmjlffipinjiaaDoor
open Go.RowKit

theorem fits_R {s : Int} {L : List Int} {P D N F : Int} (h : NuR s L P D N F 0) (hD : 1 ≤ D) {q : Bool} {u : Nat} (hq : FtR P D N F q u) : q = true ∧ u = 0 := by
  rcases h with ⟨h0, h1, _⟩ | ⟨n, rfl, G, h⟩
  · exact absurd h1.symm h0
  · rcases h with ⟨_, rfl, S⟩ | ⟨h, _⟩
    · obtain ⟨e1, e2, e3, e4, e5, e6, e7⟩ := S.fits G.gr G.pos hD rfl
      have hn := G.le
      rcases hq with ⟨h, _⟩ | ⟨_, rfl, hq⟩
      · unfold FtO at h
        omega
      · refine ⟨hq.2 ⟨e1, ?_⟩, rfl⟩
        rcases e7 with ⟨k1, k2⟩ | ⟨r, f, k1, k2, k3, k4⟩
        · exact .inl ⟨k1, by omega⟩
        · exact .inr ⟨r, f, k1, k2, by omega, k4⟩
    · cases h
theorem nu_err {s : Int} {L : List Int} {P D N F : Int} {u : Nat} (h : NuR s L P D N F u) (hu : u ≠ 0) : D = 0 := by
  rcases h with ⟨_, _, _, h, _⟩ | ⟨n, rfl, G, ⟨h, _⟩ | ⟨_, _, h, _⟩⟩
  · exact h
  · exact absurd h hu
  · exact h
end Go.Proofs.YtlmjlffipinjiaaDoor

/- The law StrongOther over what the faces tell. -/
namespace Go.Proofs.YtlmjlffipinjiaaDoor
open Go.RowKit

theorem ot_good {n : Nat} {L : List Int} (G : GoodG n L) : GoodG n (otC n L) :=
  ⟨G.pos, G.le, by simp [otC], G.gr.other.congr fun a b ha hb => gx_range (otG (gx n L)) ha hb⟩
theorem ot_ot {n : Nat} {L : List Int} (G : GoodG n L) : otC n (otC n L) = L := by
  have hn : 0 < n := G.pos
  apply List.ext_getElem
  · simp [otC, G.len]
  · intro j h1 h2
    have hj : j < n * n := by rw [← G.len]; exact h2
    have hq : j / n < n := Nat.div_lt_of_lt_mul hj
    have hr : j % n < n := Nat.mod_lt _ hn
    have e1 : (otC n (otC n L))[j] = otG (gx n (otC n L)) (j / n) (j % n) := by simp [otC]
    have e2 : otG (gx n (otC n L)) (j / n) (j % n) = otG (otG (gx n L)) (j / n) (j % n) := by
      have : gx n (otC n L) (j / n) (j % n) = otG (gx n L) (j / n) (j % n) := gx_range (otG (gx n L)) hq hr
      unfold otG at this ⊢
      rw [this]
    rw [e1, e2, otG_otG G.gr hq]
    unfold gx
    rw [Nat.mul_comm, Nat.div_add_mod]
    simp [List.getD_eq_getElem?_getD, h2]
/-- The two graphs' numbers. -/
theorem ot_nums {n : Nat} {L : List Int} (G : GoodG n L) {P D N F P' D' N' F' : Int} {u u' : Nat} (h : NuR n L P D N F u) (h' : NuR n (otC n L) P' D' N' F' u') :
    u = u' ∧ (u = 0 → P = n ∧ P' = n ∧ D' = n - 1 - D ∧ 0 ≤ D ∧ D + 1 ≤ n ∧ 0 ≤ N ∧ N ≤ n ∧ 0 ≤ F ∧ F ≤ n ∧ 0 ≤ N' ∧ N' ≤ n ∧ 0 ≤ F' ∧ F' ≤ n ∧ (D ≠ 0 → D' ≠ 0 → N' = n - 2 - 2 * D + F ∧ F' = n - 2 * D + N)) := by
  have GO := ot_good G
  have num : ∀ {A : Nat → Nat → Int} {k l m : Int}, Gr n A → StN n k l m A → 0 ≤ k ∧ k + 1 ≤ n ∧ 0 ≤ l ∧ l ≤ n ∧ 0 ≤ m ∧ m ≤ n := fun {A k l m} GA S => by
    have hd := GA.dg_less (a := 0) G.pos
    rw [S.st.deg 0 G.pos] at hd
    have hl : 0 ≤ l ∧ l ≤ n := by
      by_cases q : ∀ a b, a < n → b < n → A a b ≠ 1
      · rw [S.nl q]; omega
      · refine Classical.byContradiction fun c => q fun a b ha hb e => c ?_
        have := GA.cm_at ha hb
        have := GA.dg_less ha
        rw [S.st.near a b ha hb e] at *
        omega
    have hm : 0 ≤ m ∧ m ≤ n := by
      by_cases q : ∀ a b, a < n → b < n → a ≠ b → A a b ≠ 0
      · rw [S.nm q]; omega
      · refine Classical.byContradiction fun c => q fun a b ha hb hne e => c ?_
        have := GA.cm_at ha hb
        have := GA.dg_less ha
        rw [S.st.far a b ha hb hne e] at *
        omega
    omega
  rcases h with ⟨h0, _⟩ | ⟨n1, e, G1, h⟩
  · exact absurd (gF_good G) h0
  · obtain rfl : n = n1 := by omega
    rcases h' with ⟨h0', _⟩ | ⟨n2, e2, G2, h'⟩
    · exact absurd (gF_good GO) h0'
    · obtain rfl : n = n2 := by omega
      have hcg : ∀ a b, a < n → b < n → gx n (otC n L) a b = otG (gx n L) a b := fun a b ha hb => gx_range (otG (gx n L)) ha hb
      have cg : ∀ {k l m : Int}, StN n k l m (gx n (otC n L)) ↔ StN n k l m (otG (gx n L)) := fun {k l m} => by
        constructor
        · intro S
          exact ⟨S.st.congr fun a b ha hb => (hcg a b ha hb).symm, fun q => S.nl fun a b ha hb => by rw [hcg a b ha hb]; exact q a b ha hb, fun q => S.nm fun a b ha hb hne => by rw [hcg a b ha hb]; exact q a b ha hb hne⟩
        · intro S
          exact ⟨S.st.congr fun a b ha hb => hcg a b ha hb, fun q => S.nl fun a b ha hb => by rw [← hcg a b ha hb]; exact q a b ha hb, fun q => S.nm fun a b ha hb hne => by rw [← hcg a b ha hb]; exact q a b ha hb hne⟩
      rcases h with ⟨rfl, rfl, S⟩ | ⟨rfl, _, _, _, _, h⟩ <;> rcases h' with ⟨rfl, rfl, S'⟩ | ⟨rfl, _, _, _, _, h'⟩
      · refine ⟨rfl, fun _ => ?_⟩
        obtain ⟨l', m', T, hT⟩ := S.other G.gr
        obtain ⟨rfl, rfl, rfl⟩ := (cg.1 S').one T G.pos
        have n1 := num G.gr S
        have n2 := num GO.gr S'
        refine ⟨rfl, rfl, rfl, by omega, by omega, by omega, by omega, by omega, by omega, by omega, by omega, by omega, by omega, fun d1 d2 => hT G.pos (by omega) (by omega)⟩
      · exfalso
        obtain ⟨l', m', T, _⟩ := S.other G.gr
        exact h' ⟨_, _, _, cg.2 T⟩
      · exfalso
        exact h ((other_strong G.gr).2 ⟨_, _, _, cg.1 S'⟩)
      · exact ⟨rfl, fun q => by cases q⟩
end Go.Proofs.YtlmjlffipinjiaaDoor

/- The law StrongOther of a graph over what the faces tell. -/
namespace Go.Proofs.YtlmjlffipinjiaaDoor
open Go.RowKit

theorem row4c {w : World} {g : Nat} {x0 x1 x2 x3 : Value} {t : TypeId} (h : w.heap[g]? = some (.cells #[x0, x1, x2, x3] t (0, 0))) : w.cell? ⟨g, 0, none⟩ = some x0 ∧ w.cell? ⟨g, 1, none⟩ = some x1 ∧ w.cell? ⟨g, 2, none⟩ = some x2 ∧ w.cell? ⟨g, 3, none⟩ = some x3 := by
  refine ⟨?_, ?_, ?_, ?_⟩ <;> rw [cell_of_row _ _ _ _ _ _ h] <;> rfl
end Go.Proofs.YtlmjlffipinjiaaDoor

/- The law StrongFriends over what the faces tell. -/
namespace Go.Proofs.YtlmjlffipinjiaaDoor
open Go.RowKit

/-- Have all pairs that were looked at just one friend? -/
def FD (n : Nat) (t : Nat → Nat → Int) (a b : Nat) (q : Bool) : Prop := q = true ↔ ∀ a' b', Done a b a' b' → cmG n t a' b' = 1
theorem FD.start (n : Nat) (t : Nat → Nat → Int) : FD n t 0 0 true := ⟨fun _ a' b' h => by unfold Done at h; omega, fun _ => rfl⟩
theorem FD.row {n a : Nat} {t : Nat → Nat → Int} {q : Bool} (h : FD n t a a q) : FD n t (a + 1) 0 q :=
  ⟨fun k a' b' d => h.1 k a' b' (by unfold Done at d ⊢; omega), fun k => h.2 fun a' b' d => k a' b' (by unfold Done at d ⊢; omega)⟩
theorem FD.step {n a b : Nat} {t : Nat → Nat → Int} {q : Bool} (h : FD n t a b q) (hb : b < a) (r : Bool) (hr : r = true ↔ cmG n t a b = 1) : FD n t a (b + 1) (q && r) := by
  unfold FD
  rw [Bool.and_eq_true]
  constructor
  · rintro ⟨k1, k2⟩ a' b' d
    by_cases e : a' = a ∧ b' = b
    · obtain ⟨rfl, rfl⟩ := e; exact hr.1 k2
    · exact h.1 k1 a' b' (by unfold Done at d ⊢; omega)
  · intro k
    exact ⟨h.2 fun a' b' d => k a' b' (by unfold Done at d ⊢; omega), hr.2 (k a b (by unfold Done; omega))⟩
theorem FD.fri {n : Nat} {t : Nat → Nat → Int} {q : Bool} (h : FD n t n 0 q) : q = true ↔ Fri n t :=
  ⟨fun k => fri_of fun a b ha hb => h.1 k a b (by unfold Done; omega), fun F => h.2 fun a' b' d => F a' b' (by unfold Done at d; omega) (by unfold Done at d; omega) (by unfold Done at d; omega)⟩
end Go.Proofs.YtlmjlffipinjiaaDoor

namespace Go.Proofs.YtlmjlffipinjiaaDoor
open Go.RowKit

end Go.Proofs.YtlmjlffipinjiaaDoor

namespace Go.Proofs.YtlmjlffipinjiaaDoor
open Go.RowKit

/-- Are two cells of a square joined? -/
def lgF (n : Nat) (L : List Int) (a b : Nat) : Int := if a ≠ b ∧ (a / n = b / n ∨ a % n = b % n ∨ L.getD a 0 = L.getD b 0) then 1 else 0
def lgC (n : Nat) (L : List Int) : List Int := (List.range (n * n * (n * n))).map fun j => lgF n L (j / (n * n)) (j % (n * n))
theorem own_nil24 (w : World) : (w.alloc (.cells #[.int .i64 0, .slice none 0 0] 26)).heap[w.heap.size]? = some (.cells #[.int .i64 0, .slice none 0 0] 26 (0, 0)) := heap_alloc_new w _
set_option maxRecDepth 100000 in
set_option maxHeartbeats 8000000 in
theorem LatinGraph_far (s : Int) (v : Value) (w : World) (h : 4 < s) (hv : ∃ a m c, v = .slice a m c) :
    Calls Tryd.prog 12 #[.agg #[.int .i64 s, v]] w fun e w' => e = .returned (.tuple #[.agg #[.int .i64 0, .slice none 0 0], .int .i64 3]) ∧ Below w.heap.size w w' := by
  obtain ⟨a, m, c, rfl⟩ := hv
  have d : decide (4 < s) = true := decide_eq_true h
  have hb : Below w.heap.size w ((w.alloc (.cells #[.int .i64 s, .slice a m c] 26)).alloc (.cells #[.int .i64 0, .slice none 0 0] 26)) := Below.next (balloc _ _) (balloc _ _)
  have hr : ((w.alloc (.cells #[.int .i64 s, .slice a m c] 26)).alloc (.cells #[.int .i64 0, .slice none 0 0] 26)).heap[w.heap.size + 1]? = some (.cells #[.int .i64 0, .slice none 0 0] 26 (0, 0)) := by
    have := heap_alloc_new (w.alloc (.cells #[.int .i64 s, .slice a m c] 26)) (.cells #[.int .i64 0, .slice none 0 0] 26)
    simpa using this
  clear h
  go_enter Tryd.func12, Tryd.ntmps12
  go_wp2
  exact post_sq2 2 3 Tryd.results12 rfl hr rfl rfl ⟨rfl, hb⟩
set_option maxRecDepth 100000 in
set_option maxHeartbeats 16000000 in
theorem LatinGraph_main (n : Nat) (L : List Int) (v : Value) (w : World) (h1 : 1 ≤ n) (h4 : n ≤ 4) (hv : Sl w v L) (hl : L.length = n * n) :
    Calls Tryd.prog 12 #[.agg #[.int .i64 (n : Int), v]] w fun e w' => (∃ y, e = .returned (.tuple #[.agg #[.int .i64 ((n * n : Nat) : Int), y], .int .i64 0]) ∧ w'.ownsRow w.heap.size 3 1 y (n * n * (n * n)) (vi (lgC n L))) ∧ Below w.heap.size w w' := by
  obtain ⟨i3, hi3, hz0, hz1, hz2⟩ := info3
  have hpos : 0 < n * n := Nat.mul_pos h1 h1
  obtain ⟨g, off, cap, rfl, hg, hcell⟩ := hv.form hl hpos
  have HLG : Hid (∀ a b, lgF n L a b = if a ≠ b ∧ (a / n = b / n ∨ a % n = b % n ∨ L.getD a 0 = L.getD b 0) then 1 else 0) := fun _ _ => rfl
  have HQ : Hid (lgC n L = (List.range (n * n * (n * n))).map fun j => lgF n L (j / (n * n)) (j % (n * n))) := rfl
  generalize lgC n L = Q at *
  generalize lgF n L = T at *
  have d4 : decide (4 < (n : Int)) = false := by simp; omega
  have hz16 : n * n ≤ 16 := Nat.le_trans (Nat.mul_le_mul h4 h4) (by decide)
  obtain ⟨z, hz⟩ : ∃ z, n * n = z := ⟨_, rfl⟩
  have hmul : (n : Int) * (n : Int) = (z : Int) := by rw [← hz]; simp
  rw [hz] at hcell HQ hz16 hpos
  rw [hz]
  have HC : Hid (∀ j, j < z → w.cell? ⟨g, off + j, none⟩ = some (.int .i64 (L.getD j 0))) := hcell
  generalize hf : (fun j => T (j / z) (j % z)) = f
  have HF : Hid (∀ a b, b < z → f (a * z + b) = T a b) := fun a b hb => by
    rw [← hf]
    dsimp only
    obtain ⟨e1, e2⟩ := cell_div (i := a) (j := b) (n := z) hb
    rw [e1, e2]
  rw [hf] at HQ
  rw [HQ.out]
  have hzz : z * z ≤ 999 := Nat.le_trans (Nat.mul_le_mul hz16 hz16) (by decide)
  have hn0 : ¬ n = 0 := by omega
  have hn0' : ¬ (n : Int) = 0 := by omega
  have R0 : (((w.alloc (.cells #[.int .i64 (n : Int), .slice (some ⟨g, off, none⟩) z cap] 26)).alloc (.cells #[.int .i64 0, .slice none 0 0] 26)).alloc (.cells #[.int .i64 (z : Int), .slice none 0 0] 26)).heap[w.heap.size]? = some (.cells #[.int .i64 (n : Int), .slice (some ⟨g, off, none⟩) z cap] 26 (0, 0)) := (Below.heap_alloc _ _ _ (by simp; omega)).trans ((Below.heap_alloc _ _ _ (by simp)).trans (heap_alloc_new w _))
  have HAB : AB w (w.heap.size + 1 + 1) (w.heap.size + 1) z 0 ((List.range 0).map f) (.slice none 0 0) (((w.alloc (.cells #[.int .i64 (n : Int), .slice (some ⟨g, off, none⟩) z cap] 26)).alloc (.cells #[.int .i64 0, .slice none 0 0] 26)).alloc (.cells #[.int .i64 (z : Int), .slice none 0 0] 26)) := by
    refine ⟨?_, ?_, World.ownsRow_nil _ _ _ _, Below.next (Below.next (balloc _ _) (balloc _ _)) (balloc _ _)⟩
    · have := heap_alloc_new ((w.alloc (.cells #[.int .i64 (n : Int), .slice (some ⟨g, off, none⟩) z cap] 26)).alloc (.cells #[.int .i64 0, .slice none 0 0] 26)) (.cells #[.int .i64 (z : Int), .slice none 0 0] 26)
      simpa using this
    · refine (Below.heap_alloc _ _ _ (by simp)).trans ?_
      have := heap_alloc_new (w.alloc (.cells #[.int .i64 (n : Int), .slice (some ⟨g, off, none⟩) z cap] 26)) (.cells #[.int .i64 0, .slice none 0 0] 26)
      simpa using this
  clear hcell hv hl hz hf HQ
  go_enter Tryd.func12, Tryd.ntmps12
  go_wp2
  go_loopw [6] (fun av wr => ∃ (a k : Nat) (o : Value), av = .int .i64 (a : Int) ∧ a ≤ z ∧ Hid (k = a * z) ∧ wr.heap[w.heap.size]? = some (.cells #[.int .i64 (n : Int), .slice (some ⟨g, off, none⟩) z cap] 26 (0, 0)) ∧ AB w (w.heap.size + 1 + 1) (w.heap.size + 1) z k ((List.range k).map f) o wr) (fun av _ => (z - intOf av).toNat)
  case atStart => exact ⟨0, 0, _, rfl, by omega, (by omega : 0 = 0 * z), R0, HAB⟩
  case round =>
    clear R0 HAB
    obtain ⟨a, k, o, rfl, ha, Hk, R0, HAB⟩ := hrel
    obtain ⟨x0, x1, _, _⟩ := row2 R0
    by_cases hla : a < z
    · have hda : decide ((a : Int) < (z : Int)) = true := by simp; omega
      have hda2 : decide (a < z) = true := by simp; omega
      go_wp2
      go_loopw [7] (fun bv wr => ∃ (b k : Nat) (o : Value), bv = .int .i64 (b : Int) ∧ b ≤ z ∧ Hid (k = a * z + b) ∧ wr.heap[w.heap.size]? = some (.cells #[.int .i64 (n : Int), .slice (some ⟨g, off, none⟩) z cap] 26 (0, 0)) ∧ AB w (w.heap.size + 1 + 1) (w.heap.size + 1) z k ((List.range k).map f) o wr) (fun bv _ => (z - intOf bv).toNat)
      case atStart => exact ⟨0, k, o, rfl, by omega, Hk, R0, HAB⟩
      case round =>
        clear R0 HAB x0 x1 Hk
        obtain ⟨b, k, o, rfl, hb, Hk, R0, HAB⟩ := hrel
        obtain ⟨x0, x1, _, _⟩ := row2 R0
        obtain ⟨s0, s1, sf0, sf1⟩ := row2 HAB.sbox
        obtain ⟨a0, a1, af0, af1⟩ := row2 HAB.rbox
        by_cases hlb : b < z
        · have hdb : decide ((b : Int) < (z : Int)) = true := by simp; omega
          have hai : (a : Int) < z := by omega
          have hbi : (b : Int) < z := by omega
          have ca := (HAB.bel.cell (p := ⟨g, off + a, none⟩) hg).trans (HC.out a hla)
          have cb := (HAB.bel.cell (p := ⟨g, off + b, none⟩) hg).trans (HC.out b hlb)
          have hk99 : k ≤ 999 := by
            have := cell_ltG hla hlb
            rw [Hk.out]; omega
          have hfk : f k = T a b := by rw [Hk.out]; exact HF.out a b hlb
          rw [HLG.out] at hfk
          have Hk2 : Hid (k + 1 = a * z + (b + 1)) := by show _ = _; rw [Hk.out]; omega
          generalize L.getD a 0 = xa at ca hfk
          generalize L.getD b 0 = xb at cb hfk
          obtain ⟨qa, Hqa⟩ : ∃ q, Hid (a / n = q) := ⟨_, rfl⟩
          obtain ⟨qb, Hqb⟩ : ∃ q, Hid (b / n = q) := ⟨_, rfl⟩
          obtain ⟨ra, Hra⟩ : ∃ q, Hid (a % n = q) := ⟨_, rfl⟩
          obtain ⟨rb, Hrb⟩ : ∃ q, Hid (b % n = q) := ⟨_, rfl⟩
          rw [Hqa.out, Hqb.out, Hra.out, Hrb.out] at hfk
          have t1 : (a : Int) / (n : Int) = (qa : Int) := by rw [← Hqa.out]; simp
          have t2 : (b : Int) / (n : Int) = (qb : Int) := by rw [← Hqb.out]; simp
          have t3 : (a : Int) % (n : Int) = (ra : Int) := by rw [← Hra.out]; simp
          have t4 : (b : Int) % (n : Int) = (rb : Int) := by rw [← Hrb.out]; simp
          have t5 : (a : Int).tdiv (n : Int) = (qa : Int) := by rw [Int.tdiv_eq_ediv_of_nonneg (by omega)]; exact t1
          have t6 : (b : Int).tdiv (n : Int) = (qb : Int) := by rw [Int.tdiv_eq_ediv_of_nonneg (by omega)]; exact t2
          have t7 : (a : Int).tmod (n : Int) = (ra : Int) := by rw [Int.tmod_eq_emod_of_nonneg (by omega)]; exact t3
          have t8 : (b : Int).tmod (n : Int) = (rb : Int) := by rw [Int.tmod_eq_emod_of_nonneg (by omega)]; exact t4
          have u1 := wrapN9 (q := qa) (by rw [← Hqa.out]; have := Nat.div_le_self a n; omega)
          have u2 := wrapN9 (q := qb) (by rw [← Hqb.out]; have := Nat.div_le_self b n; omega)
          have u3 := wrapN9 (q := ra) (by rw [← Hra.out]; have := Nat.mod_le a n; omega)
          have u4 := wrapN9 (q := rb) (by rw [← Hrb.out]; have := Nat.mod_le b n; omega)
          have hW := HAB.row
          have hB := HAB.bel
          have hsz := hB.size
          have hl2 : w.heap.size + 1 + 1 < wr.heap.size := (Array.getElem?_eq_some_iff.1 HAB.sbox).1
          obtain ⟨oa, oc, rfl⟩ := own_slice hW
          obtain ⟨fl, Hfl⟩ : ∃ fl, Hid (vi ((List.range k).map f) = fl) := ⟨_, rfl⟩
          rw [Hfl.out] at hW
          have HABH : Hid (AB w (w.heap.size + 1 + 1) (w.heap.size + 1) z k ((List.range k).map f) (.slice oa k oc) wr) := HAB
          clear HAB Hk
          by_cases hab : a = b
          · have dab : ((a : Int) != (b : Int)) = false := by simp [hab]
            replace hfk : f k = 0 := hfk.trans (if_neg fun h => h.1 hab)
            clear hab
            go_wp2
            go_quiet (fail)
            go_wp2_with (first
              | (at_builtin; refine wpList_append_own _ rfl _ _ 22 rfl w.heap.size 3 i3 (.int .i64 0) 1 8 und22 hi3 hz0 hz1 hz2 rfl (by decide) _ k fl rfl (hW.alloc _) ⟨wr.heap.size, 0, none⟩ 1 1 [.int .i64 0] rfl rfl ?c1 ?c2 ?c3 ?c4 ?c5 ?_)
              | go_in)
            case c1 =>
              intro j u hj
              match j, hj with
              | 0, hj => simp at hj; subst hj; simp [Addr.add]; exact news_q (wr.drewN nq) _
            case c2 => intro u hu; simp at hu; subst hu; rfl
            case c3 => unfold maxLen; omega
            case c4 => omega
            case c5 => simp; omega
            intro v' w2 hown' hgrow _
            have HA := HABH.out.quiet nq
            have k0 := HA.kept hgrow (b := w.heap.size) R0
            have k2 := HA.kept hgrow HA.sbox
            have hown2 : w2.ownsRow w.heap.size 3 1 v' (k + 1) (vi ((List.range k).map f ++ [0])) := by
              rw [show vi ((List.range k).map f ++ [0]) = fl ++ [.int .i64 0] by rw [← Hfl.out]; simp [vi]]
              exact hown'
            obtain ⟨va, vc, rfl⟩ := own_slice hown2
            have HA2 := HA.more hgrow hown2 (by omega) (by omega)
            rw [show (List.range k).map f ++ [0] = (List.range (k + 1)).map f by rw [List.range_succ, List.map_append, ← hfk]; rfl] at HA2
            have HA3 : Hid (AB w (w.heap.size + 1 + 1) (w.heap.size + 1) z (k + 1) ((List.range (k + 1)).map f) (.slice va (k + 1) vc) (w2.setCell ⟨w.heap.size + 1 + 1, 1, none⟩ (.slice va (k + 1) vc))) := HA2
            have HR3 : Hid ((w2.setCell ⟨w.heap.size + 1 + 1, 1, none⟩ (.slice va (k + 1) vc)).heap[w.heap.size]? = some (.cells #[.int .i64 (n : Int), .slice (some ⟨g, off, none⟩) z cap] 26 (0, 0))) := (heap_setCell_other w2 ⟨w.heap.size + 1 + 1, 1, none⟩ w.heap.size _ (by show w.heap.size ≠ w.heap.size + 1 + 1; omega)).trans k0
            obtain ⟨v0, v1, vf0, vf1⟩ := row2 k2
            clear HA HA2 k0 k2 hown' hown2 hgrow x0 x1 s0 s1 sf0 sf1 a0 a1 af0 af1 hW R0 ca cb
            go_wp2
            go_roundw
            case rel => exact ⟨b + 1, k + 1, _, by go_num, by omega, Hk2, HR3.out, HA3.out⟩
            case measure => simp [intOf]; omega
          · have dab : ((a : Int) != (b : Int)) = true := by simp; omega
            by_cases hq : qa = qb
            · have dq : ((qa : Int) == (qb : Int)) = true := by simp [hq]
              replace hfk : f k = 1 := hfk.trans (if_pos ⟨hab, .inl hq⟩)
              clear hab hq
              go_wp2
              go_quiet (fail)
              go_wp2_with (first
                | (at_builtin; refine wpList_append_own _ rfl _ _ 22 rfl w.heap.size 3 i3 (.int .i64 0) 1 8 und22 hi3 hz0 hz1 hz2 rfl (by decide) _ k fl rfl (hW.alloc _) ⟨wr.heap.size, 0, none⟩ 1 1 [.int .i64 1] rfl rfl ?c1 ?c2 ?c3 ?c4 ?c5 ?_)
                | go_in)
              case c1 =>
                intro j u hj
                match j, hj with
                | 0, hj => simp at hj; subst hj; simp [Addr.add]; exact news_q (wr.drewN nq) _
              case c2 => intro u hu; simp at hu; subst hu; rfl
              case c3 => unfold maxLen; omega
              case c4 => omega
              case c5 => simp; omega
              intro v' w2 hown' hgrow _
              have HA := HABH.out.quiet nq
              have k0 := HA.kept hgrow (b := w.heap.size) R0
              have k2 := HA.kept hgrow HA.sbox
              have hown2 : w2.ownsRow w.heap.size 3 1 v' (k + 1) (vi ((List.range k).map f ++ [1])) := by
                rw [show vi ((List.range k).map f ++ [1]) = fl ++ [.int .i64 1] by rw [← Hfl.out]; simp [vi]]
                exact hown'
              obtain ⟨va, vc, rfl⟩ := own_slice hown2
              have HA2 := HA.more hgrow hown2 (by omega) (by omega)
              rw [show (List.range k).map f ++ [1] = (List.range (k + 1)).map f by rw [List.range_succ, List.map_append, ← hfk]; rfl] at HA2
              have HA3 : Hid (AB w (w.heap.size + 1 + 1) (w.heap.size + 1) z (k + 1) ((List.range (k + 1)).map f) (.slice va (k + 1) vc) (w2.setCell ⟨w.heap.size + 1 + 1, 1, none⟩ (.slice va (k + 1) vc))) := HA2
              have HR3 : Hid ((w2.setCell ⟨w.heap.size + 1 + 1, 1, none⟩ (.slice va (k + 1) vc)).heap[w.heap.size]? = some (.cells #[.int .i64 (n : Int), .slice (some ⟨g, off, none⟩) z cap] 26 (0, 0))) := (heap_setCell_other w2 ⟨w.heap.size + 1 + 1, 1, none⟩ w.heap.size _ (by show w.heap.size ≠ w.heap.size + 1 + 1; omega)).trans k0
              obtain ⟨v0, v1, vf0, vf1⟩ := row2 k2
              clear HA HA2 k0 k2 hown' hown2 hgrow x0 x1 s0 s1 sf0 sf1 a0 a1 af0 af1 hW R0 ca cb
              go_wp2
              go_roundw
              case rel => exact ⟨b + 1, k + 1, _, by go_num, by omega, Hk2, HR3.out, HA3.out⟩
              case measure => simp [intOf]; omega
            · have dq : ((qa : Int) == (qb : Int)) = false := by simp; omega
              by_cases hr : ra = rb
              · have dr : ((ra : Int) == (rb : Int)) = true := by simp [hr]
                replace hfk : f k = 1 := hfk.trans (if_pos ⟨hab, .inr (.inl hr)⟩)
                clear hab hq hr
                go_wp2
                go_quiet (fail)
                go_wp2_with (first
                  | (at_builtin; refine wpList_append_own _ rfl _ _ 22 rfl w.heap.size 3 i3 (.int .i64 0) 1 8 und22 hi3 hz0 hz1 hz2 rfl (by decide) _ k fl rfl (hW.alloc _) ⟨wr.heap.size, 0, none⟩ 1 1 [.int .i64 1] rfl rfl ?c1 ?c2 ?c3 ?c4 ?c5 ?_)
                  | go_in)
                case c1 =>
                  intro j u hj
                  match j, hj with
                  | 0, hj => simp at hj; subst hj; simp [Addr.add]; exact news_q (wr.drewN nq) _
                case c2 => intro u hu; simp at hu; subst hu; rfl
                case c3 => unfold maxLen; omega
                case c4 => omega
                case c5 => simp; omega
                intro v' w2 hown' hgrow _
                have HA := HABH.out.quiet nq
                have k0 := HA.kept hgrow (b := w.heap.size) R0
                have k2 := HA.kept hgrow HA.sbox
                have hown2 : w2.ownsRow w.heap.size 3 1 v' (k + 1) (vi ((List.range k).map f ++ [1])) := by
                  rw [show vi ((List.range k).map f ++ [1]) = fl ++ [.int .i64 1] by rw [← Hfl.out]; simp [vi]]
                  exact hown'
                obtain ⟨va, vc, rfl⟩ := own_slice hown2
                have HA2 := HA.more hgrow hown2 (by omega) (by omega)
                rw [show (List.range k).map f ++ [1] = (List.range (k + 1)).map f by rw [List.range_succ, List.map_append, ← hfk]; rfl] at HA2
                have HA3 : Hid (AB w (w.heap.size + 1 + 1) (w.heap.size + 1) z (k + 1) ((List.range (k + 1)).map f) (.slice va (k + 1) vc) (w2.setCell ⟨w.heap.size + 1 + 1, 1, none⟩ (.slice va (k + 1) vc))) := HA2
                have HR3 : Hid ((w2.setCell ⟨w.heap.size + 1 + 1, 1, none⟩ (.slice va (k + 1) vc)).heap[w.heap.size]? = some (.cells #[.int .i64 (n : Int), .slice (some ⟨g, off, none⟩) z cap] 26 (0, 0))) := (heap_setCell_other w2 ⟨w.heap.size + 1 + 1, 1, none⟩ w.heap.size _ (by show w.heap.size ≠ w.heap.size + 1 + 1; omega)).trans k0
                obtain ⟨v0, v1, vf0, vf1⟩ := row2 k2
                clear HA HA2 k0 k2 hown' hown2 hgrow x0 x1 s0 s1 sf0 sf1 a0 a1 af0 af1 hW R0 ca cb
                go_wp2
                go_roundw
                case rel => exact ⟨b + 1, k + 1, _, by go_num, by omega, Hk2, HR3.out, HA3.out⟩
                case measure => simp [intOf]; omega
              · have dr : ((ra : Int) == (rb : Int)) = false := by simp; omega
                by_cases hx : xa = xb
                · have dx : (xa == xb) = true := by simp [hx]
                  replace hfk : f k = 1 := hfk.trans (if_pos ⟨hab, .inr (.inr hx)⟩)
                  clear hab hq hr hx
                  go_wp2
                  go_quiet (fail)
                  go_wp2_with (first
                    | (at_builtin; refine wpList_append_own _ rfl _ _ 22 rfl w.heap.size 3 i3 (.int .i64 0) 1 8 und22 hi3 hz0 hz1 hz2 rfl (by decide) _ k fl rfl (hW.alloc _) ⟨wr.heap.size, 0, none⟩ 1 1 [.int .i64 1] rfl rfl ?c1 ?c2 ?c3 ?c4 ?c5 ?_)
                    | go_in)
                  case c1 =>
                    intro j u hj
                    match j, hj with
                    | 0, hj => simp at hj; subst hj; simp [Addr.add]; exact news_q (wr.drewN nq) _
                  case c2 => intro u hu; simp at hu; subst hu; rfl
                  case c3 => unfold maxLen; omega
                  case c4 => omega
                  case c5 => simp; omega
                  intro v' w2 hown' hgrow _
                  have HA := HABH.out.quiet nq
                  have k0 := HA.kept hgrow (b := w.heap.size) R0
                  have k2 := HA.kept hgrow HA.sbox
                  have hown2 : w2.ownsRow w.heap.size 3 1 v' (k + 1) (vi ((List.range k).map f ++ [1])) := by
                    rw [show vi ((List.range k).map f ++ [1]) = fl ++ [.int .i64 1] by rw [← Hfl.out]; simp [vi]]
                    exact hown'
                  obtain ⟨va, vc, rfl⟩ := own_slice hown2
                  have HA2 := HA.more hgrow hown2 (by omega) (by omega)
                  rw [show (List.range k).map f ++ [1] = (List.range (k + 1)).map f by rw [List.range_succ, List.map_append, ← hfk]; rfl] at HA2
                  have HA3 : Hid (AB w (w.heap.size + 1 + 1) (w.heap.size + 1) z (k + 1) ((List.range (k + 1)).map f) (.slice va (k + 1) vc) (w2.setCell ⟨w.heap.size + 1 + 1, 1, none⟩ (.slice va (k + 1) vc))) := HA2
                  have HR3 : Hid ((w2.setCell ⟨w.heap.size + 1 + 1, 1, none⟩ (.slice va (k + 1) vc)).heap[w.heap.size]? = some (.cells #[.int .i64 (n : Int), .slice (some ⟨g, off, none⟩) z cap] 26 (0, 0))) := (heap_setCell_other w2 ⟨w.heap.size + 1 + 1, 1, none⟩ w.heap.size _ (by show w.heap.size ≠ w.heap.size + 1 + 1; omega)).trans k0
                  obtain ⟨v0, v1, vf0, vf1⟩ := row2 k2
                  clear HA HA2 k0 k2 hown' hown2 hgrow x0 x1 s0 s1 sf0 sf1 a0 a1 af0 af1 hW R0 ca cb
                  go_wp2
                  go_roundw
                  case rel => exact ⟨b + 1, k + 1, _, by go_num, by omega, Hk2, HR3.out, HA3.out⟩
                  case measure => simp [intOf]; omega
                · have dx : (xa == xb) = false := by simp [hx]
                  replace hfk : f k = 0 := hfk.trans (if_neg fun h => by rcases h.2 with e | e | e; exact hq e; exact hr e; exact hx e)
                  clear hab hq hr hx
                  go_wp2
                  go_quiet (fail)
                  go_wp2_with (first
                    | (at_builtin; refine wpList_append_own _ rfl _ _ 22 rfl w.heap.size 3 i3 (.int .i64 0) 1 8 und22 hi3 hz0 hz1 hz2 rfl (by decide) _ k fl rfl (hW.alloc _) ⟨wr.heap.size, 0, none⟩ 1 1 [.int .i64 0] rfl rfl ?c1 ?c2 ?c3 ?c4 ?c5 ?_)
                    | go_in)
                  case c1 =>
                    intro j u hj
                    match j, hj with
                    | 0, hj => simp at hj; subst hj; simp [Addr.add]; exact news_q (wr.drewN nq) _
                  case c2 => intro u hu; simp at hu; subst hu; rfl
                  case c3 => unfold maxLen; omega
                  case c4 => omega
                  case c5 => simp; omega
                  intro v' w2 hown' hgrow _
                  have HA := HABH.out.quiet nq
                  have k0 := HA.kept hgrow (b := w.heap.size) R0
                  have k2 := HA.kept hgrow HA.sbox
                  have hown2 : w2.ownsRow w.heap.size 3 1 v' (k + 1) (vi ((List.range k).map f ++ [0])) := by
                    rw [show vi ((List.range k).map f ++ [0]) = fl ++ [.int .i64 0] by rw [← Hfl.out]; simp [vi]]
                    exact hown'
                  obtain ⟨va, vc, rfl⟩ := own_slice hown2
                  have HA2 := HA.more hgrow hown2 (by omega) (by omega)
                  rw [show (List.range k).map f ++ [0] = (List.range (k + 1)).map f by rw [List.range_succ, List.map_append, ← hfk]; rfl] at HA2
                  have HA3 : Hid (AB w (w.heap.size + 1 + 1) (w.heap.size + 1) z (k + 1) ((List.range (k + 1)).map f) (.slice va (k + 1) vc) (w2.setCell ⟨w.heap.size + 1 + 1, 1, none⟩ (.slice va (k + 1) vc))) := HA2
                  have HR3 : Hid ((w2.setCell ⟨w.heap.size + 1 + 1, 1, none⟩ (.slice va (k + 1) vc)).heap[w.heap.size]? = some (.cells #[.int .i64 (n : Int), .slice (some ⟨g, off, none⟩) z cap] 26 (0, 0))) := (heap_setCell_other w2 ⟨w.heap.size + 1 + 1, 1, none⟩ w.heap.size _ (by show w.heap.size ≠ w.heap.size + 1 + 1; omega)).trans k0
                  obtain ⟨v0, v1, vf0, vf1⟩ := row2 k2
                  clear HA HA2 k0 k2 hown' hown2 hgrow x0 x1 s0 s1 sf0 sf1 a0 a1 af0 af1 hW R0 ca cb
                  go_wp2
                  go_roundw
                  case rel => exact ⟨b + 1, k + 1, _, by go_num, by omega, Hk2, HR3.out, HA3.out⟩
                  case measure => simp [intOf]; omega
        · have hdb : decide ((b : Int) < (z : Int)) = false := by simp; omega
          have hdb2 : decide (b < z) = false := by simp; omega
          have Hk2 : Hid (k = (a + 1) * z) := by show _ = _; rw [Hk.out, Nat.succ_mul, show b = z by omega]
          clear s0 s1 sf0 sf1 a0 a1 af0 af1
          go_wp2
          go_roundw
          case rel => exact ⟨a + 1, k, o, by go_num, by omega, Hk2, R0, HAB⟩
          case measure => simp [intOf]; omega
    · have hda : decide ((a : Int) < (z : Int)) = false := by simp; omega
      have hda2 : decide (a < z) = false := by simp; omega
      obtain rfl : k = z * z := by rw [Hk.out, show a = z by omega]
      obtain ⟨s0, s1, sf0, sf1⟩ := row2 HAB.sbox
      obtain ⟨a0, a1, af0, af1⟩ := row2 HAB.rbox
      obtain ⟨e1, e2, e3⟩ := HAB.ret (show w.heap.size ≤ w.heap.size + 1 by omega)
      have HE2 : Hid _ := e2
      have HE3 : Hid _ := e3
      obtain ⟨oa, oc, rfl⟩ := own_slice HAB.row
      clear HAB e2 e3
      go_wp2
      exact post_sq2 2 3 Tryd.results12 rfl e1 rfl rfl ⟨⟨_, rfl, HE2.out⟩, HE3.out⟩
end Go.Proofs.YtlmjlffipinjiaaDoor
