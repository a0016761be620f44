/- The laws of chapter 16 on what makes graphs, of the landed package. -/
import Derived.Test.YtlmjlffipinjiaaDoorSP13
import Derived.Test.YtlmjlffipinjiaaDoorST9
import Derived.Deep.QuietTactic
import Derived.Test.YtlmjlffipinjiaaDoorW10
/- What Latin tells. -/
namespace Go.Proofs.YtlmjlffipinjiaaDoor
open Go.RowKit Go.Shelf

def lgB (n : Nat) (L : List Int) (a b : Nat) : Bool := a / n == b / n || a % n == b % n || L.getD a 0 == L.getD b 0
set_option maxRecDepth 100000 in
set_option maxHeartbeats 8000000 in
theorem lat1_any (n : Nat) (L : List Int) (gb a b : Nat) (v : Value) (w : World) (hn : 1 ≤ n) (hn4 : n ≤ 4) (hL : L.length = n * n) (hv : Sl w v L) (hg : w.heap[gb]? = some (.cells #[.int .i64 (n : Int), v] 26 (0, 0))) (ha : a < n * n) (hb : b < n * n) :
    Calls Tryd.prog 29 #[.int .i64 (a : Int), .int .i64 (b : Int), .pointer (some ⟨gb, 0, none⟩)] w fun e w' => e = .returned (.bool (lgB n L a b)) ∧ Below w.heap.size w w' := by
  obtain ⟨g, off, cap, rfl, hgl, hcell⟩ := hv.form hL (Nat.mul_pos hn hn)
  obtain ⟨x0, x1, _, _⟩ := row2 hg
  have cx := hcell a ha
  have cy := hcell b hb
  obtain ⟨x, hx⟩ : ∃ x, L.getD a 0 = x := ⟨_, rfl⟩
  obtain ⟨y, hy⟩ : ∃ y, L.getD b 0 = y := ⟨_, rfl⟩
  rw [hx] at cx
  rw [hy] at cy
  have hz : n * n ≤ 4 * 4 := Nat.mul_le_mul hn4 hn4
  obtain ⟨p, hp⟩ : ∃ p, a / n = p := ⟨_, rfl⟩
  obtain ⟨q, hq⟩ : ∃ p, b / n = p := ⟨_, rfl⟩
  obtain ⟨r, hr⟩ : ∃ p, a % n = p := ⟨_, rfl⟩
  obtain ⟨s, hs⟩ : ∃ p, b % n = p := ⟨_, rfl⟩
  have lp : p ≤ a := by rw [← hp]; exact Nat.div_le_self _ _
  have lq : q ≤ b := by rw [← hq]; exact Nat.div_le_self _ _
  have e1 : (a : Int) / (n : Int) = (p : Int) := by rw [← hp]; simp
  have e2 : (b : Int) / (n : Int) = (q : Int) := by rw [← hq]; simp
  have e3 : (a : Int).tmod (n : Int) = (r : Int) := by rw [Int.tmod_eq_emod_of_nonneg (by omega), ← hr]; simp
  have e4 : (b : Int).tmod (n : Int) = (s : Int) := by rw [Int.tmod_eq_emod_of_nonneg (by omega), ← hs]; simp
  have hnz : ¬ n = 0 := by omega
  have w1 : IntKind.i64.wrap (p : Int) = (p : Int) := by rw [IntKind.wrap_i64]; omega
  have w2 : IntKind.i64.wrap (q : Int) = (q : Int) := by rw [IntKind.wrap_i64]; omega
  have hA : (a : Int) < ((n * n : Nat) : Int) := by omega
  have hB : (b : Int) < ((n * n : Nat) : Int) := by omega
  have HL : Hid (lgB n L a b = (p == q || r == s || x == y)) := by
    show lgB n L a b = _
    unfold lgB
    rw [hp, hq, hr, hs, hx, hy]
  generalize n * n = z at *
  rw [HL.out]
  clear hp hq hr hs hx hy hcell hL hv hg HL
  by_cases t1 : p = q
  · have f1 : ((p : Int) == (q : Int)) = true := by simp [t1]
    have HF : Hid ((p == q || r == s || x == y) = true) := (by simp [t1] : (p == q || r == s || x == y) = true)
    clear t1
    go_enter Tryd.func29, Tryd.ntmps29
    go_wp2
    go_quiet (fail)
    go_wp2
    go_ret
    exact ⟨by rw [HF.out]; rfl, bdrewN (Below.refl _ _) _⟩
  · have f1 : ((p : Int) == (q : Int)) = false := by simp; omega
    by_cases t2 : r = s
    · have f2 : ((r : Int) == (s : Int)) = true := by simp [t2]
      have HF : Hid ((p == q || r == s || x == y) = true) := (by simp [t2] : (p == q || r == s || x == y) = true)
      clear t1 t2
      go_enter Tryd.func29, Tryd.ntmps29
      go_wp2
      go_quiet (fail)
      go_wp2
      go_ret
      exact ⟨by rw [HF.out]; rfl, bdrewN (Below.refl _ _) _⟩
    · have f2 : ((r : Int) == (s : Int)) = false := by simp; omega
      have HF : Hid ((p == q || r == s || x == y) = (x == y)) := (by simp [t1, t2] : (p == q || r == s || x == y) = (x == y))
      clear t1 t2
      go_enter Tryd.func29, Tryd.ntmps29
      go_wp2
      go_quiet (fail)
      go_wp2
      go_ret
      exact ⟨by rw [HF.out]; rfl, bdrewN (Below.refl _ _) _⟩
theorem lg_is (n : Nat) (L : List Int) (a b : Nat) (hab : a < b) : lgF n L a b = if lgB n L a b then 1 else 0 := by
  unfold lgF lgB
  have : a ≠ b := by omega
  by_cases h : a / n = b / n ∨ a % n = b % n ∨ L.getD a 0 = L.getD b 0
  · rw [if_pos ⟨this, h⟩, if_pos]
    simp only [Bool.or_eq_true, beq_iff_eq]
    rcases h with h | h | h
    · exact .inl (.inl h)
    · exact .inl (.inr h)
    · exact .inr h
  · rw [if_neg fun k => h k.2, if_neg]
    simp only [not_or] at h
    simp only [Bool.or_eq_true, beq_iff_eq, not_or]
    exact ⟨⟨h.1, h.2.1⟩, h.2.2⟩
theorem lg_sym (n : Nat) (L : List Int) (a b : Nat) : lgF n L a b = lgF n L b a := by
  unfold lgF
  congr 1
  apply propext
  constructor <;> rintro ⟨h1, h | h | h⟩
  · exact ⟨fun e => h1 e.symm, .inl h.symm⟩
  · exact ⟨fun e => h1 e.symm, .inr (.inl h.symm)⟩
  · exact ⟨fun e => h1 e.symm, .inr (.inr h.symm)⟩
  · exact ⟨fun e => h1 e.symm, .inl h.symm⟩
  · exact ⟨fun e => h1 e.symm, .inr (.inl h.symm)⟩
  · exact ⟨fun e => h1 e.symm, .inr (.inr h.symm)⟩
set_option maxRecDepth 100000 in
set_option maxHeartbeats 8000000 in
theorem flat : FLat := by
  intro s L v W hv hll
  have hbox := heap_alloc_new W (.cells #[.int .i64 s, v] 26)
  have b0 := balloc W (.cells #[.int .i64 s, v] 26)
  have b1 := balloc (W.alloc (.cells #[.int .i64 s, v] 26)) (.cells #[.int .i64 0, .slice none 0 0] 26)
  have hr1 : ((W.alloc (.cells #[.int .i64 s, v] 26)).alloc (.cells #[.int .i64 0, .slice none 0 0] 26)).heap[W.heap.size + 1]? = some (.cells #[.int .i64 0, .slice none 0 0] 26 (0, 0)) := by
    have := heap_alloc_new (W.alloc (.cells #[.int .i64 s, v] 26)) (.cells #[.int .i64 0, .slice none 0 0] 26)
    rwa [World.size_alloc] at this
  have hbox1 := (b1.block W.heap.size (by simp)).trans hbox
  obtain ⟨x0, x1, _, _⟩ := row2 hbox1
  have b01 := Below.next b0 b1
  have hv1 := hv.below b01
  have CK := Check_any s L v _ hv1 hll
  have hls : W.heap.size + 1 < ((W.alloc (.cells #[.int .i64 s, v] 26)).alloc (.cells #[.int .i64 0, .slice none 0 0] 26)).heap.size := by simp
  generalize hW1 : ((W.alloc (.cells #[.int .i64 s, v] 26)).alloc (.cells #[.int .i64 0, .slice none 0 0] 26)) = W1 at *
  have HLS : Hid (W.heap.size + 1 < W1.heap.size) := hls
  have HB1 : Hid (Below W.heap.size W W1) := b01
  have HR1 : Hid (W1.heap[W.heap.size + 1]? = some (.cells #[.int .i64 0, .slice none 0 0] 26 (0, 0))) := hr1
  have HBX : Hid (W1.heap[W.heap.size]? = some (.cells #[.int .i64 s, v] 26 (0, 0))) := hbox1
  have HV1 : Hid (Sl W1 v L) := hv1
  have HBW : Hid (∀ W2, Below W1.heap.size W1 W2 → Below W.heap.size W ((W2.setCell ⟨W.heap.size + 1, 0, none⟩ (.int .i64 0)).setCell ⟨W.heap.size + 1, 1, none⟩ (.slice none 0 0))) := fun W2 h => ((Below.next b01 h).setCell (p := ⟨W.heap.size + 1, 0, none⟩) (by show _ ≤ W.heap.size + 1; omega) _).setCell (p := ⟨W.heap.size + 1, 1, none⟩) (by show _ ≤ W.heap.size + 1; omega) _
  clear b0 b1 hbox hls b01 hr1 hbox1 hv1
  by_cases h0 : lF s L = 0
  · obtain ⟨n, rfl, G⟩ := lF_ok h0
    have hn1 := G.pos
    have he : ((lF n L : Int) != 0) = false := by simp [h0]
    by_cases h4 : 4 < n
    · have d4 : decide (4 < (n : Int)) = true := by simp; omega
      have HF : Hid (LaR n L 0 [] 3) := .inr ⟨n, rfl, G, .inl ⟨h4, rfl, rfl, rfl⟩⟩
      rw [h0] at CK
      clear h4 G h0
      go_enter Tryd.func10, Tryd.ntmps10
      go_wp2_with (first
        | (rw [hW1])
        | (go_at_call 28; refine CK.mono ?_; rintro e w2 ⟨rfl, hb2⟩; clear CK; have hrr := (hb2.block _ HLS.out).trans HR1.out; obtain ⟨r0, r1, r2, r3⟩ := row2 hrr; have hbx := (hb2.block W.heap.size (by have := HLS.out; omega)).trans HBX.out; obtain ⟨y0, y1, _, _⟩ := row2 hbx))
      exact post_sq2 2 3 rfl rfl (put2_row hrr _ _) rfl rfl ⟨⟨0, _, [], 3, rfl, HF.out, OwnS.nil _⟩, HBW.out _ hb2⟩
    · have d4 : decide (4 < (n : Int)) = false := by simp; omega
      have hn4 : n ≤ 4 := by omega
      have hz : n * n ≤ 4 * 4 := Nat.mul_le_mul hn4 hn4
      have HCD : Hid (∀ w2, Below W1.heap.size W1 w2 → Calls Tryd.prog 19 #[.int .i64 ((n * n : Nat) : Int), .func (.func 29) #[] #[.pointer (some ⟨W.heap.size, 0, none⟩)]] w2 fun e w' => (∃ y, e = .returned (.agg #[.int .i64 ((n * n : Nat) : Int), y]) ∧ OwnS w' y (lgC n L)) ∧ Below w2.heap.size w2 w') := fun w2 hb2 => by
        refine (drawn_any (n * n) 29 #[] #[.pointer (some ⟨W.heap.size, 0, none⟩)] (lgB n L) w2 (by omega) (enters_of Tryd.func29 (by kernel_rfl) rfl) ?_).mono ?_
        · intro a b W3 hab hb hB
          have hb3 := Below.next hb2 hB
          exact lat1_any n L W.heap.size a b v W3 hn1 hn4 G.len (HV1.out.below hb3) ((hb3.block W.heap.size (by have := HLS.out; omega)).trans HBX.out) (by omega) hb
        · rintro e w' ⟨⟨q, rfl, hq⟩, hb⟩
          refine ⟨⟨_, rfl, ownS_of (by simp [lgC]) hq fun j hj => ?_⟩, hb⟩
          unfold lgC
          rw [rng_get _ _ hj]
          exact drF_all (f := lgF n L) (by omega) (fun a b hab hb => lg_is n L a b hab) (fun a b ha hb => lg_sym n L a b) (fun a ha => by unfold lgF; rw [if_neg fun k => k.1 rfl]) hj
      have HF : Hid (LaR n L ((n * n : Nat) : Int) (lgC n L) 0) := .inr ⟨n, rfl, G, .inr ⟨hn4, rfl, rfl, rfl⟩⟩
      have hlen := G.len
      obtain ⟨va, vc, hve⟩ := sl_len hv
      rw [hlen] at hve
      rw [h0] at CK
      have HBL : Hid (∀ y w', OwnS w' y (lgC n L) → OwnS w' y (lgC n L)) := fun _ _ h => h
      obtain ⟨z, hz'⟩ : ∃ z : Nat, n * n = z := ⟨_, rfl⟩
      rw [hz'] at hve HCD HF
      subst hve
      obtain ⟨Lg, HLg⟩ : ∃ Lg, Hid (lgC n L = Lg) := ⟨_, rfl⟩
      rw [HLg.out] at HCD HF
      have hz99 : z ≤ 99 := by omega
      clear h4 G h0 hz hv hlen hz' HBL HV1
      go_enter Tryd.func10, Tryd.ntmps10
      go_wp2_with (first
        | (rw [hW1])
        | (go_at_call 28; refine CK.mono ?_; rintro e w2 ⟨rfl, hb2⟩; clear CK; have hbx := (hb2.block W.heap.size (by have := HLS.out; omega)).trans HBX.out; obtain ⟨y0, y1, _, _⟩ := row2 hbx; have CN := HCD.out w2 hb2)
        | (go_at_call 19; refine CN.mono ?_; rintro e w4 ⟨⟨y, rfl, hy⟩, hb4⟩; clear CN; obtain ⟨ya, yc, rfl⟩ := hy.len; have hb5 := Below.next hb2 hb4; have hrr := (hb5.block _ HLS.out).trans HR1.out; obtain ⟨r0, r1, r2, r3⟩ := row2 hrr))
      refine post_sq2 2 3 rfl rfl (put2_row hrr _ _) rfl rfl ⟨⟨_, _, Lg, 0, rfl, HF.out, ?_⟩, ((Below.next HB1.out hb5).setCell (p := ⟨W.heap.size + 1, 0, none⟩) (by show _ ≤ W.heap.size + 1; omega) _).setCell (p := ⟨W.heap.size + 1, 1, none⟩) (by show _ ≤ W.heap.size + 1; omega) _⟩
      rcases hy with hy | ⟨g, cap, e, ho⟩
      · exact .inl hy
      · have hne := own_ne24 ho hrr
        exact .inr ⟨g, cap, e, (ho.other ⟨W.heap.size + 1, 0, none⟩ _ hne).other ⟨W.heap.size + 1, 1, none⟩ _ hne⟩
  · have he : ((lF s L : Int) != 0) = true := by simp; omega
    have HF : Hid (LaR s L 0 [] (lF s L)) := .inl ⟨h0, rfl, rfl, rfl⟩
    clear h0
    go_enter Tryd.func10, Tryd.ntmps10
    go_wp2_with (first
      | (rw [hW1])
      | (go_at_call 28; refine CK.mono ?_; rintro e w2 ⟨rfl, hb2⟩; clear CK; have hrr := (hb2.block _ HLS.out).trans HR1.out; obtain ⟨r0, r1, r2, r3⟩ := row2 hrr))
    exact post_sq2 2 3 rfl rfl (put2_row hrr _ _) rfl rfl ⟨⟨0, _, [], lF s L, rfl, HF.out, OwnS.nil _⟩, HBW.out _ hb2⟩
end Go.Proofs.YtlmjlffipinjiaaDoor

/- What Paley tells. -/
namespace Go.Proofs.YtlmjlffipinjiaaDoor
open Go.RowKit Go.Shelf

/-! ### The rows of bits as squares are added -/
def paR (S : Nat → Nat → Nat) (sq : List Nat) (a i x : Nat) : Nat := if x < a then sb (sq.map (S x)) else if x = a then sb ((sq.take i).map (S x)) else 0
theorem paR_zero (S : Nat → Nat → Nat) (sq : List Nat) (x : Nat) : paR S sq 0 0 x = 0 := by
  unfold paR
  rw [if_neg (by omega)]
  split <;> rfl
theorem paR_put (S : Nat → Nat → Nat) (sq : List Nat) (a i s x : Nat) (h : sq[i]? = some s) : paR S sq a (i + 1) x = if x = a then paR S sq a i a ||| 2 ^ S a s else paR S sq a i x := by
  unfold paR
  by_cases h1 : x = a
  · subst h1
    rw [if_neg (by omega), if_pos rfl, if_pos rfl, if_neg (by omega), if_pos rfl, List.take_add_one, h, List.map_append]
    exact sb_snoc _ _
  · rw [if_neg h1, if_neg h1]
    by_cases h2 : x < a
    · rw [if_pos h2, if_pos h2]
    · rw [if_neg h2, if_neg h2, if_neg h1]
theorem paR_next (S : Nat → Nat → Nat) (sq : List Nat) (a x : Nat) : paR S sq (a + 1) 0 x = paR S sq a sq.length x := by
  unfold paR
  by_cases h1 : x < a
  · rw [if_pos (by omega), if_pos h1]
  · by_cases h2 : x = a
    · subst h2
      rw [if_pos (by omega), if_neg h1, if_pos rfl, List.take_length]
    · rw [if_neg (by omega), if_neg h1, if_neg h2]
      split <;> rfl
theorem paR_lt {S : Nat → Nat → Nat} {sq : List Nat} {q : Nat} (hq : q ≤ 24) (hS : ∀ x s, S x s < q) (a i x : Nat) : paR S sq a i x < 2 ^ 32 := by
  have key : ∀ l : List Nat, sb (l.map (S x)) < 2 ^ 32 := fun l => Nat.lt_of_lt_of_le (sb_lt (n := q) fun y hy => by obtain ⟨s, _, rfl⟩ := List.mem_map.1 hy; exact hS x s) (Nat.pow_le_pow_right (by decide) (by omega))
  unfold paR
  split
  · exact key _
  · split
    · exact key _
    · decide
theorem pa_bit {q : Nat} {S T : Nat → Nat → Nat} (hT : ∀ x, T x x < q) {a b : Nat} (ha : a < q) : (paR S ((List.range q).filter fun j => (List.range q).any fun x => decide (1 ≤ x) && T x x == j) q 0 a).testBit b = pgB q S T a q b := by
  unfold paR
  rw [if_pos ha, sb_bit, Bool.eq_iff_iff]
  unfold pgB
  simp only [List.contains_iff_mem, List.mem_map, List.mem_filter, List.mem_range, List.any_eq_true, Bool.and_eq_true, decide_eq_true_eq, beq_iff_eq]
  constructor
  · rintro ⟨s, ⟨_, x, h1, h2, h3⟩, h4⟩
    exact ⟨x, h1, h2, by rw [h3]; exact h4⟩
  · rintro ⟨x, h1, h2, h3⟩
    exact ⟨T x x, ⟨hT x, x, h1, h2, rfl⟩, h3⟩

theorem row3p {w : World} {g : Nat} {x0 x1 x2 : Value} {t : TypeId} (h : w.heap[g]? = some (.cells #[x0, x1, x2] t (0, 0))) : w.cell? ⟨g, 0, none⟩ = some x0 ∧ w.cell? ⟨g, 1, none⟩ = some x1 ∧ w.cell? ⟨g, 2, none⟩ = some x2 :=
  ⟨cell_of_row w g 0 _ _ _ h, cell_of_row w g 1 _ _ _ h, cell_of_row w g 2 _ _ _ h⟩
set_option maxRecDepth 100000 in
set_option maxHeartbeats 4000000 in
theorem order_any (P K : Nat) (u : Value) (w : World) (hP : 1 ≤ P) (_hP2 : P ≤ 61) (h64 : P ^ K ≤ 64) (hK : K ≤ 6) (hu : ∃ a n c, u = .slice a n c) :
    Calls Tryd.prog 16 #[.agg #[.int .i64 (P : Int), .int .i64 (K : Int), u]] w fun e w' => e = .returned (.int .i64 ((P ^ K : Nat) : Int)) ∧ Below w.heap.size w w' := by
  obtain ⟨ua, un, uc, rfl⟩ := hu
  have hbox := heap_alloc_new w (.cells #[.int .i64 (P : Int), .int .i64 (K : Int), .slice ua un uc] 24)
  have b0 := balloc w (.cells #[.int .i64 (P : Int), .int .i64 (K : Int), .slice ua un uc] 24)
  obtain ⟨x0, x1, x2⟩ := row3p hbox
  have HPW : Hid (∀ i, i ≤ K → P ^ i ≤ 64) := fun i hi => Nat.le_trans (Nat.pow_le_pow_right hP hi) h64
  have HC : Hid ((w.alloc (.cells #[.int .i64 (P : Int), .int .i64 (K : Int), .slice ua un uc] 24)).cell? ⟨w.heap.size, 0, none⟩ = some (.int .i64 (P : Int))) := x0
  go_enter Tryd.func16, Tryd.ntmps16
  go_wp2
  go_loopw [3, 6] (fun qv iv wr => ∃ (i y : Nat), iv = .int .i64 (i : Int) ∧ qv = .int .i64 (y : Int) ∧ Hid (y = P ^ i) ∧ i ≤ K ∧ wr = w.alloc (.cells #[.int .i64 (P : Int), .int .i64 (K : Int), .slice ua un uc] 24)) (fun _ iv _ => (K - intOf iv).toNat)
  case atStart => exact ⟨0, 1, rfl, rfl, (by simp : 1 = P ^ 0), by omega, rfl⟩
  case round =>
    obtain ⟨i, y, rfl, rfl, Hy, hi, rfl⟩ := hrel
    by_cases hlt : i < K
    · have hd : decide ((i : Int) < (K : Int)) = true := by simp; omega
      obtain ⟨m, Hm⟩ : ∃ m : Nat, Hid (m = P ^ (i + 1)) := ⟨_, rfl⟩
      have hm : m ≤ 64 := by rw [Hm.out]; exact HPW.out (i + 1) hlt
      have e1 : (y : Int) * (P : Int) = (m : Int) := by rw [Hm.out, Hy.out, Nat.pow_succ]; simp
      go_wp2
      go_roundw
      case rel => exact ⟨i + 1, m, by go_num, by first | rfl | go_num, Hm, by omega, by trivial⟩
      case measure => simp [intOf]; omega
    · have hd : decide ((i : Int) < (K : Int)) = false := by simp; omega
      obtain rfl : i = K := by omega
      have HE : Hid (y = P ^ i) := Hy
      go_wp2
      go_ret
      exact ⟨by rw [← HE.out]; rfl, b0⟩

set_option maxRecDepth 100000 in
set_option maxHeartbeats 16000000 in
theorem fpal : FPal := by
  intro p k l u W hT hu hl
  obtain ⟨fs, hu47⟩ := und45
  have hbox := heap_alloc_new W (.cells #[.int .i64 p, .int .i64 k, u] 24)
  have b0 := balloc W (.cells #[.int .i64 p, .int .i64 k, u] 24)
  have b1 := balloc (W.alloc (.cells #[.int .i64 p, .int .i64 k, u] 24)) (.cells #[.int .i64 0, .slice none 0 0] 26)
  have hr1 : ((W.alloc (.cells #[.int .i64 p, .int .i64 k, u] 24)).alloc (.cells #[.int .i64 0, .slice none 0 0] 26)).heap[W.heap.size + 1]? = some (.cells #[.int .i64 0, .slice none 0 0] 26 (0, 0)) := by
    have := heap_alloc_new (W.alloc (.cells #[.int .i64 p, .int .i64 k, u] 24)) (.cells #[.int .i64 0, .slice none 0 0] 26)
    rwa [World.size_alloc] at this
  have hbox1 := (b1.block W.heap.size (by simp)).trans hbox
  obtain ⟨x0, x1, x2⟩ := row3p hbox1
  have b01 := Below.next b0 b1
  have CS := Fd.Squares_any p k l u _ (hT.below b01) (hu.below b01) hl
  have hls : W.heap.size + 1 < ((W.alloc (.cells #[.int .i64 p, .int .i64 k, u] 24)).alloc (.cells #[.int .i64 0, .slice none 0 0] 26)).heap.size := by simp
  obtain ⟨ua, uc, rfl⟩ := sl_len hu
  generalize hW1 : ((W.alloc (.cells #[.int .i64 p, .int .i64 k, .slice ua l.length uc] 24)).alloc (.cells #[.int .i64 0, .slice none 0 0] 26)) = W1 at *
  have HLS : Hid (W.heap.size + 1 < W1.heap.size) := hls
  have HB1 : Hid (Below W.heap.size W W1) := b01
  have HR1 : Hid (W1.heap[W.heap.size + 1]? = some (.cells #[.int .i64 0, .slice none 0 0] 26 (0, 0))) := hr1
  have HBX : Hid (W1.heap[W.heap.size]? = some (.cells #[.int .i64 p, .int .i64 k, .slice ua l.length uc] 24 (0, 0))) := hbox1
  have HTA : Hid (∀ W2, Below W1.heap.size W1 W2 → Fd.Tab W2 ∧ Sl W2 (.slice ua l.length uc) l) := fun W2 h => ⟨(hT.below b01).below h, (hu.below b01).below h⟩
  have HBW : Hid (∀ W2, Below W1.heap.size W1 W2 → Below W.heap.size W ((W2.setCell ⟨W.heap.size + 1, 0, none⟩ (.int .i64 0)).setCell ⟨W.heap.size + 1, 1, none⟩ (.slice none 0 0))) := fun W2 h => ((Below.next b01 h).setCell (p := ⟨W.heap.size + 1, 0, none⟩) (by show _ ≤ W.heap.size + 1; omega) _).setCell (p := ⟨W.heap.size + 1, 1, none⟩) (by show _ ≤ W.heap.size + 1; omega) _
  clear b0 b1 hbox hls b01 hr1 hbox1
  by_cases hF : Fd.FaultIs p k l 0
  · obtain ⟨P, K, rfl, rfl, hG⟩ := Fd.good_of hF
    have hP2 := hG.field.two
    have hq64 := hG.le64
    have HCS : Hid (∀ (e : Ending) (w2 : World), (∃ (u' : Value) (s : List Int) (z : Int), e = .returned (.tuple #[u', .int .i64 z]) ∧ Fd.Sl w2 u' s ∧ Fd.FaultIs P K l z ∧ Hid (z ≠ 0 → s = []) ∧ Hid (z = 0 → s = Fd.sqTo (P : Int).toNat (K : Int).toNat (Fd.monL l) ((P : Int).toNat ^ (K : Int).toNat)) ∧ Below W1.heap.size W1 w2) → ∃ sa sc, e = .returned (.tuple #[.slice sa ((List.range (P ^ K)).filter (Fd.isSq P K (Fd.monL l))).length sc, .int .i64 0]) ∧ Hid (Sl w2 (.slice sa ((List.range (P ^ K)).filter (Fd.isSq P K (Fd.monL l))).length sc) (((List.range (P ^ K)).filter (Fd.isSq P K (Fd.monL l))).map fun n : Nat => (n : Int))) ∧ Below W1.heap.size W1 w2) := by
      rintro e w2 ⟨u', s, z, rfl, h1, h2, _, h4, h5⟩
      obtain rfl : z = 0 := h2.one hF
      have h4 := h4.out rfl
      rw [Int.toNat_natCast, Int.toNat_natCast] at h4
      have h4 : s = ((List.range (P ^ K)).filter (Fd.isSq P K (Fd.monL l))).map fun n : Nat => (n : Int) := h4
      obtain ⟨sa, sc, e1⟩ := sl_len (show Sl w2 u' s from h1)
      subst h4
      rw [List.length_map] at e1
      subst e1
      exact ⟨sa, sc, rfl, h1, h5⟩
    have CS2 := CS.mono HCS.out
    have HCO : Hid (∀ w2, Calls Tryd.prog 16 #[.agg #[.int .i64 (P : Int), .int .i64 (K : Int), .slice ua l.length uc]] w2 fun e w' => e = .returned (.int .i64 ((P ^ K : Nat) : Int)) ∧ Below w2.heap.size w2 w') := fun w2 => order_any P K _ w2 (by omega) hG.le61 hG.le64 hG.le6 ⟨_, _, _, rfl⟩
    have HPA : Hid (∀ (n : Int) (M : List Int), ((paE (P ^ K) ≠ 0 ∧ n = 0 ∧ M = []) ∨ (paE (P ^ K) = 0 ∧ n = ((P ^ K : Nat) : Int) ∧ M = pgC (P ^ K) (Fd.addQ P K) (Fd.mulQ P K (Fd.monL l)))) → PaR P K l n M (paE (P ^ K))) := fun n M h => .inr ⟨P, K, rfl, rfl, hG, rfl, by
      rcases h with ⟨h1, h2⟩ | ⟨h1, h2⟩
      · exact .inl ⟨by omega, h2⟩
      · exact .inr ⟨by omega, h2⟩⟩
    have HCE : Hid (∀ W2, Below W1.heap.size W1 W2 → W2.cell? ⟨W.heap.size, 0, none⟩ = some (.int .i64 (P : Int)) ∧ W2.cell? ⟨W.heap.size, 1, none⟩ = some (.int .i64 (K : Int)) ∧ W2.cell? ⟨W.heap.size, 2, none⟩ = some (.slice ua l.length uc)) := fun W2 h => row3p ((h.block W.heap.size (by have := HLS.out; omega)).trans HBX.out)
    have HAD : Hid (∀ W2 a b, Below W1.heap.size W1 W2 → a < P ^ K → b < P ^ K → Calls Tryd.prog 17 #[.agg #[.int .i64 (P : Int), .int .i64 (K : Int), .slice ua l.length uc], .int .i64 (a : Int), .int .i64 (b : Int)] W2 fun e w' => e = .returned (.tuple #[.int .i64 ((Fd.addQ P K a b : Nat) : Int), .int .i64 0]) ∧ Below W2.heap.size W2 w') := fun W2 a b h ha hb => Fd.AddG P K a b l _ W2 (HTA.out W2 h).1 (HTA.out W2 h).2 hl hG ha hb _ rfl
    have HS : Hid (∀ x s, Fd.addQ P K x s < P ^ K) := fun x s => Fd.addQ_lt hG.field.toRing1 x s
    have HFIN : Hid (paE (P ^ K) = 0 → ∀ j, j < P ^ K * P ^ K → drF (P ^ K) (fun a b => (paR (Fd.addQ P K) ((List.range (P ^ K)).filter (Fd.isSq P K (Fd.monL l))) (P ^ K) 0 a).testBit b) (prL (P ^ K)).length j = (pgC (P ^ K) (Fd.addQ P K) (Fd.mulQ P K (Fd.monL l))).getD j 0) := fun h0 j hj => by
      have hN := (paley_num hG h0).1
      have hle : P ^ K ≤ 24 := by unfold paE at h0; by_cases h : 24 < P ^ K; rw [if_pos h] at h0; cases h0; omega
      have e : ∀ a b, a < P ^ K → b < P ^ K → gx (P ^ K) (pgC (P ^ K) (Fd.addQ P K) (Fd.mulQ P K (Fd.monL l))) a b = pgF (P ^ K) (Fd.addQ P K) (Fd.mulQ P K (Fd.monL l)) a b := fun a b ha hb => gx_range _ ha hb
      rw [pgC, rng_get _ _ hj]
      refine drF_all (by omega) (fun a b hab hb => ?_) (fun a b ha hb => ?_) (fun a ha => ?_) hj
      · unfold pgF
        have := pa_bit (q := P ^ K) (S := Fd.addQ P K) (T := Fd.mulQ P K (Fd.monL l)) (fun x => Fd.mulQ_lt hG.field.toRing1 x x) (a := a) (b := b) (by omega)
        rw [← this]
        rfl
      · rw [← e a b ha hb, ← e b a hb ha]; exact hN.gr.sym a b ha hb
      · rw [← e a a ha ha]; exact hN.gr.diag a ha
    have HSQ : Hid (∀ i s, ((List.range (P ^ K)).filter (Fd.isSq P K (Fd.monL l)))[i]? = some s → s < P ^ K) := fun i s h => List.mem_range.1 (List.mem_filter.1 (List.mem_of_getElem? h)).1
    have HPE : Hid (paE (P ^ K) = if 24 < P ^ K then 3 else if P ^ K % 4 = 1 then 0 else 4) := rfl
    have HPL : (pgC (P ^ K) (Fd.addQ P K) (Fd.mulQ P K (Fd.monL l))).length = P ^ K * P ^ K := by simp [pgC]
    have hsl : ((List.range (P ^ K)).filter (Fd.isSq P K (Fd.monL l))).length ≤ P ^ K := by
      have := List.length_filter_le (Fd.isSq P K (Fd.monL l)) (List.range (P ^ K))
      simpa using this
    generalize hqq : P ^ K = q at *
    generalize (List.range q).filter (Fd.isSq P K (Fd.monL l)) = sq at *
    generalize pgC q (Fd.addQ P K) (Fd.mulQ P K (Fd.monL l)) = PG at *
    generalize Fd.addQ P K = S at *
    have hE := HPE.out
    by_cases h24 : 24 < q
    · have d1 : decide (24 < (q : Int)) = true := by simp; omega
      rw [if_pos h24] at hE
      have HR : Hid (PaR P K l 0 [] 3) := by
        have := HPA.out 0 [] (.inl ⟨by omega, rfl, rfl⟩)
        rw [hE] at this
        exact this
      clear HFIN hE h24
      go_enter Tryd.func5, Tryd.ntmps5
      go_wp2_with (first
        | (rw [hW1])
        | (go_at_call 15; refine CS2.mono ?_; rintro e w2 ⟨sa, sc, rfl, HSl, hb2⟩; clear CS2; obtain ⟨y0, y1, y2⟩ := HCE.out w2 hb2; have CO := HCO.out w2)
        | (go_at_call 16; refine CO.mono ?_; rintro e w3 ⟨rfl, hb3⟩; clear CO; have b13 := Below.next hb2 hb3; have hrr := (b13.block _ HLS.out).trans HR1.out; obtain ⟨r0, r1, r2, r3⟩ := row2 hrr))
      exact post_sq2 2 3 rfl rfl (put2_row hrr _ _) rfl rfl ⟨⟨0, _, [], 3, rfl, HR.out, OwnS.nil _⟩, HBW.out _ b13⟩
    · have d1 : decide (24 < (q : Int)) = false := by simp; omega
      rw [if_neg h24] at hE
      have hm4 : Int.tmod (q : Int) 4 = ((q % 4 : Nat) : Int) := by rw [Int.tmod_eq_emod_of_nonneg (by omega)]; simp
      by_cases h41 : q % 4 = 1
      · rw [if_pos h41] at hE
        have d2 : (Int.tmod (q : Int) 4 != 1) = false := by rw [hm4]; simp; omega
        have d3 : ((q : Int) % 4 != 1) = false := by simp; omega
        have HR : Hid (PaR P K l (q : Int) PG 0) := by
          have := HPA.out (q : Int) PG (.inr ⟨hE, rfl, rfl⟩)
          rw [hE] at this
          exact this
        have HF2 := HFIN.out hE
        have hPGl : Hid (PG.length = q * q) := HPL
        have HRL : Hid (∀ a i x, paR S sq a i x < 2 ^ 32) := paR_lt (by omega) HS.out
        have HCD : Hid (∀ (w5 : World), Calls Tryd.prog 19 #[.int .i64 (q : Int), .func (.func 20) #[.agg (gRow q (paR S sq q 0))] #[]] w5 fun e w' => (∃ y, e = .returned (.agg #[.int .i64 (q : Int), y]) ∧ OwnS w' y PG) ∧ Below w5.heap.size w5 w') := fun w5 => by
          refine (drawn_any q 20 #[.agg (gRow q (paR S sq q 0))] #[] (fun a b => (paR S sq q 0 a).testBit b) w5 (by omega) (enters_of Tryd.func20 (by kernel_rfl) rfl) ?_).mono ?_
          · intro a b W3 hab hb hB
            exact joined_any q (paR S sq q 0) a b W3 (by omega) (by omega) (HRL.out q 0 a)
          · rintro e w' ⟨⟨g, rfl, hg⟩, hb⟩
            exact ⟨⟨_, rfl, ownS_of hPGl.out hg fun j hj => HF2 j hj⟩, hb⟩
        have hq24 : q ≤ 24 := by omega
        clear HFIN hE h24 h41 hm4 HF2 HPL
        go_enter Tryd.func5, Tryd.ntmps5
        go_wp2_with (first
          | (rw [hW1])
          | (go_at_call 15; refine CS2.mono ?_; rintro e w2 ⟨sa, sc, rfl, HSl, hb2⟩; clear CS2; obtain ⟨y0, y1, y2⟩ := HCE.out w2 hb2; have CO := HCO.out w2)
          | (go_at_call 16; refine CO.mono ?_; rintro e w3 ⟨rfl, hb3⟩; clear CO; have b13 := Below.next hb2 hb3; have hz := GrW.zero w3)
          | (refine wpList_store_row rfl 47 _ _ rfl w3.heap.size (gRow (q : Int) fun _ => 0) rfl rfl 47 _ hz (inf45 _ _) rfl (gRow_one _ _) ?_))
        go_loopw [34] (fun av wr => ∃ (a : Nat), av = .int .i64 (a : Int) ∧ a ≤ q ∧ GrW wr w3.heap.size q (paR S sq a 0) ∧ Below w3.heap.size w3 wr) (fun av _ => (q - intOf av).toNat)
        case atStart => exact ⟨0, rfl, by omega, (hz.whole q fun _ => 0).congr fun x => (paR_zero S sq x).symm, bsetR (balloc w3 _) (Nat.le_refl _) _⟩
        case round =>
          obtain ⟨a, rfl, ha, hgr, hB⟩ := hrel
          by_cases hlt : a < q
          · have hda : decide ((a : Int) < (q : Int)) = true := by simp; omega
            go_wp2
            go_loopw [39] (fun iv wr => ∃ (i : Nat), iv = .int .i64 (i : Int) ∧ i ≤ sq.length ∧ GrW wr w3.heap.size q (paR S sq a i) ∧ Below w3.heap.size w3 wr) (fun iv _ => (sq.length - intOf iv).toNat)
            case atStart => exact ⟨0, rfl, by omega, hgr, hB⟩
            case round =>
              clear hgr hB
              obtain ⟨i, rfl, hi, hgr, hB⟩ := hrel
              by_cases hli : i < sq.length
              · have hdi : decide ((i : Int) < (sq.length : Int)) = true := by simp; omega
                have hii : (i : Int) < (sq.length : Int) := by omega
                obtain ⟨s, hs⟩ : ∃ s, sq[i]? = some s := ⟨_, List.getElem?_eq_getElem hli⟩
                have hsq := HSQ.out i s hs
                obtain ⟨b, off, cap, e1, hbl, hcl⟩ := HSl.out.form (n := sq.length) (by simp) (by omega)
                have hc2 := hcl i hli
                have hgd : (sq.map fun n : Nat => (n : Int)).getD i 0 = (s : Int) := by simp [hs]
                rw [hgd] at hc2
                obtain ⟨rfl, rfl⟩ : sa = some ⟨b, off, none⟩ ∧ sc = cap := by simpa using e1
                have b2w := Below.next hb3 hB
                have hcx := (b2w.cell (p := ⟨b, off + i, none⟩) hbl).trans hc2
                have b1w := Below.next hb2 b2w
                obtain ⟨z0, z1, z2⟩ := HCE.out wr b1w
                have CA := HAD.out wr a s b1w hlt hsq
                have hSl := HS.out a s
                obtain ⟨t, Ht⟩ : ∃ t, Hid (S a s = t) := ⟨_, rfl⟩
                rw [Ht.out] at CA hSl
                have HJ : Hid (∀ w5, Below wr.heap.size wr w5 → Calls Tryd.prog 18 #[.pointer (some ⟨w3.heap.size, 0, none⟩), .int .i64 (a : Int), .int .i64 (t : Int)] w5 fun e w' => (∃ v, e = .returned v) ∧ GrW w' w3.heap.size q (paR S sq a (i + 1)) ∧ Below w3.heap.size w3 w') := fun w5 h5 => (join_any w3.heap.size q (paR S sq a i) a t w5 (hgr.below h5 hgr.lt) (by omega) (by omega) (HRL.out a i a)).mono fun e w' ⟨h1, h2, h3, h4⟩ => ⟨h1, h2.congr fun x => by rw [paR_put S sq a i s x hs, Ht.out], (Below.next hB h5).trans h4⟩
                clear e1 hcl hgd hc2
                go_wp2_with (first
                  | (go_at_call 17; refine CA.mono ?_; rintro e w5 ⟨rfl, hb5⟩; clear CA; have CJ := HJ.out w5 hb5)
                  | (go_at_call 18; refine CJ.mono ?_; rintro e w6 ⟨⟨vv, rfl⟩, hg6, hB6⟩; clear CJ))
                go_roundw
                case rel => exact ⟨i + 1, by go_num, by omega, hg6, hB6⟩
                case measure => simp [intOf]; omega
              · have hdi : decide ((i : Int) < (sq.length : Int)) = false := by simp; omega
                obtain rfl : i = sq.length := by omega
                have hg2 : GrW wr w3.heap.size q (paR S sq (a + 1) 0) := hgr.congr fun x => (paR_next S sq a x).symm
                go_wp2
                go_roundw
                case rel => exact ⟨a + 1, by go_num, by omega, hg2, hB⟩
                case measure => simp [intOf]; omega
          · have hda : decide ((a : Int) < (q : Int)) = false := by simp; omega
            obtain rfl : a = q := by omega
            have pl := hgr.places
            have CN := HCD.out wr
            have b1w := Below.next hb2 (Below.next hb3 hB)
            go_wp2_with (first
              | (refine wpList_load_row rfl 47 _ rfl w3.heap.size rfl 47 _ (0, 0) _ hgr hu47 rfl (inf45 _ _) ?_)
              | (go_at_call 19; refine CN.mono ?_; rintro e w7 ⟨⟨y, rfl, hy⟩, hb7⟩; clear CN; obtain ⟨ya, yc, rfl⟩ := hy.len; have b17 := Below.next b1w hb7; have hrr := (b17.block _ HLS.out).trans HR1.out; obtain ⟨r0, r1, r2, r3⟩ := row2 hrr))
            refine post_sq2 2 3 rfl rfl (put2_row hrr _ _) rfl rfl ⟨⟨_, _, PG, 0, rfl, HR.out, ?_⟩, ((Below.next HB1.out b17).setCell (p := ⟨W.heap.size + 1, 0, none⟩) (by show _ ≤ W.heap.size + 1; omega) _).setCell (p := ⟨W.heap.size + 1, 1, none⟩) (by show _ ≤ W.heap.size + 1; omega) _⟩
            rcases hy with hy | ⟨g, cap, e, ho⟩
            · exact .inl hy
            · have hne := own_ne24 ho hrr
              exact .inr ⟨g, cap, e, (ho.other ⟨W.heap.size + 1, 0, none⟩ _ hne).other ⟨W.heap.size + 1, 1, none⟩ _ hne⟩
      · rw [if_neg h41] at hE
        have d2 : (Int.tmod (q : Int) 4 != 1) = true := by rw [hm4]; simp; omega
        have d3 : ((q : Int) % 4 != 1) = true := by simp; omega
        have HR : Hid (PaR P K l 0 [] 4) := by
          have := HPA.out 0 [] (.inl ⟨by omega, rfl, rfl⟩)
          rw [hE] at this
          exact this
        clear HFIN hE h24 h41 hm4
        go_enter Tryd.func5, Tryd.ntmps5
        go_wp2_with (first
          | (rw [hW1])
          | (go_at_call 15; refine CS2.mono ?_; rintro e w2 ⟨sa, sc, rfl, HSl, hb2⟩; clear CS2; obtain ⟨y0, y1, y2⟩ := HCE.out w2 hb2; have CO := HCO.out w2)
          | (go_at_call 16; refine CO.mono ?_; rintro e w3 ⟨rfl, hb3⟩; clear CO; have b13 := Below.next hb2 hb3; have hrr := (b13.block _ HLS.out).trans HR1.out; obtain ⟨r0, r1, r2, r3⟩ := row2 hrr))
        exact post_sq2 2 3 rfl rfl (put2_row hrr _ _) rfl rfl ⟨⟨0, _, [], 4, rfl, HR.out, OwnS.nil _⟩, HBW.out _ b13⟩
  · have HCS : Hid (∀ (e : Ending) (w2 : World), (∃ (u' : Value) (s : List Int) (z : Int), e = .returned (.tuple #[u', .int .i64 z]) ∧ Fd.Sl w2 u' s ∧ Fd.FaultIs p k l z ∧ Hid (z ≠ 0 → s = []) ∧ Hid (z = 0 → s = Fd.sqTo p.toNat k.toNat (Fd.monL l) (p.toNat ^ k.toNat)) ∧ Below W1.heap.size W1 w2) → ∃ (u' : Value) (z : Int), e = .returned (.tuple #[u', .int .i64 z]) ∧ (z != 0) = true ∧ Hid (PaR p k l 0 [] z) ∧ Below W1.heap.size W1 w2) := by
      rintro e w2 ⟨u', s, z, rfl, h1, h2, _, h4, h5⟩
      have hz : z ≠ 0 := fun h => hF (h ▸ h2)
      exact ⟨u', z, rfl, by simp [hz], .inl ⟨h2, hz, rfl, rfl⟩, h5⟩
    have CS2 := CS.mono HCS.out
    clear CS hF HTA
    go_enter Tryd.func5, Tryd.ntmps5
    go_wp2_with (first
      | (rw [hW1])
      | (go_at_call 15; refine CS2.mono ?_; rintro e w2 ⟨u', z, rfl, hz, HR, hb2⟩; clear CS2; have hrr := (hb2.block _ HLS.out).trans HR1.out; obtain ⟨r0, r1, r2, r3⟩ := row2 hrr))
    exact post_sq2 2 3 rfl rfl (put2_row hrr _ _) rfl rfl ⟨⟨0, _, [], z, rfl, HR.out, OwnS.nil _⟩, HBW.out _ hb2⟩

end Go.Proofs.YtlmjlffipinjiaaDoor

namespace Go.Proofs.YtlmjlffipinjiaaDoor
open Go.RowKit

theorem Known_any (p k : Int) (l : List Int) (u : Value) (n : Int) (s : Int) (L : List Int) (v : Value) (w : World) (hTab : Fd.Tab w) (hu : Sl w u l) (hlu : l.length ≤ maxLen) (hv : Sl w v L) (hlv : L.length ≤ maxLen) :
    Calls Tryd.prog 4 #[.agg #[.int .i64 p, .int .i64 k, u], .int .i64 n, .agg #[.int .i64 s, v]] w fun e w' => e = .returned (.bool true) ∧ Below w.heap.size w w' := Known_law ftri fnum fpal flat p k l u n s L v w hTab hu hlu hv hlv
theorem Makes_any (p k : Int) (l : List Int) (u : Value) (n : Int) (s : Int) (L : List Int) (v : Value) (w : World) (hTab : Fd.Tab w) (hu : Sl w u l) (hlu : l.length ≤ maxLen) (hv : Sl w v L) (hlv : L.length ≤ maxLen) :
    Calls Tryd.prog 3 #[.agg #[.int .i64 p, .int .i64 k, u], .int .i64 n, .agg #[.int .i64 s, v]] w fun e w' => e = .returned (.bool true) ∧ Below w.heap.size w w' := Makes_law ftri fpal flat flf p k l u n s L v w hTab hu hlu hv hlv
end Go.Proofs.YtlmjlffipinjiaaDoor
