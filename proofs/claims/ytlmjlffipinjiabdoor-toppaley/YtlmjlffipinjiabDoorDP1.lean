/- What Paley tells. -/
import Derived.Test.YtlmjlffipinjiabDoorSP11
import Derived.Test.YtlmjlffipinjiabDoorSrP
import Derived.Test.YtlmjlffipinjiabDoorW10
namespace Go.Proofs.YtlmjlffipinjiabDoor.Sg
open Go.RowKit Go.Shelf

/-- What is told of Paley's graph. -/
def PaR (p k : Int) (l : List Int) (n : Int) (M : List Int) (e : Int) : Prop := (Fd.FaultIs p k l e ∧ e ≠ 0 ∧ n = 0 ∧ M = []) ∨ ∃ P K : Nat, p = P ∧ k = K ∧ Fd.GoodF P K l ∧ e = paE (P ^ K) ∧ ((e ≠ 0 ∧ n = 0 ∧ M = []) ∨ (e = 0 ∧ n = ((P ^ K : Nat) : Int) ∧ M = pgC (P ^ K) (Fd.addQ P K) (Fd.mulQ P K (Fd.monL l))))
def FPal : Prop := ∀ (p k : Int) (l : List Int) (u : Value) (W : World), Fd.Tab W → Sl W u l → l.length ≤ maxLen → Calls Tryd.prog 10 #[.agg #[.int .i64 p, .int .i64 k, u]] W fun e w' => (∃ (n : Int) (y : Value) (M : List Int) (z : Int), e = .returned (.tuple #[.agg #[.int .i64 n, y], .int .i64 z]) ∧ PaR p k l n M z ∧ OwnS w' y M) ∧ Below W.heap.size W w'
/-! ### The rows of bits as squares are added -/
def paR (S : Nat → Nat → Nat) (sq : List Nat) (a i x : Nat) : Nat := if x < a then sb (sq.map (S x)) else if x = a then sb ((sq.take i).map (S x)) else 0
theorem paR_zero (S : Nat → Nat → Nat) (sq : List Nat) (x : Nat) : paR S sq 0 0 x = 0 := by
  unfold paR
  rw [if_neg (by omega)]
  split <;> rfl
theorem paR_put (S : Nat → Nat → Nat) (sq : List Nat) (a i s x : Nat) (h : sq[i]? = some s) : paR S sq a (i + 1) x = if x = a then paR S sq a i a ||| 2 ^ S a s else paR S sq a i x := by
  unfold paR
  by_cases h1 : x = a
  · subst h1
    rw [if_neg (by omega), if_pos rfl, if_pos rfl, if_neg (by omega), if_pos rfl, List.take_add_one, h, List.map_append]
    exact sb_snoc _ _
  · rw [if_neg h1, if_neg h1]
    by_cases h2 : x < a
    · rw [if_pos h2, if_pos h2]
    · rw [if_neg h2, if_neg h2, if_neg h1]
theorem paR_next (S : Nat → Nat → Nat) (sq : List Nat) (a x : Nat) : paR S sq (a + 1) 0 x = paR S sq a sq.length x := by
  unfold paR
  by_cases h1 : x < a
  · rw [if_pos (by omega), if_pos h1]
  · by_cases h2 : x = a
    · subst h2
      rw [if_pos (by omega), if_neg h1, if_pos rfl, List.take_length]
    · rw [if_neg (by omega), if_neg h1, if_neg h2]
      split <;> rfl
theorem paR_lt {S : Nat → Nat → Nat} {sq : List Nat} {q : Nat} (hq : q ≤ 24) (hS : ∀ x s, S x s < q) (a i x : Nat) : paR S sq a i x < 2 ^ 32 := by
  have key : ∀ l : List Nat, sb (l.map (S x)) < 2 ^ 32 := fun l => Nat.lt_of_lt_of_le (sb_lt (n := q) fun y hy => by obtain ⟨s, _, rfl⟩ := List.mem_map.1 hy; exact hS x s) (Nat.pow_le_pow_right (by decide) (by omega))
  unfold paR
  split
  · exact key _
  · split
    · exact key _
    · decide
theorem pa_bit {q : Nat} {S T : Nat → Nat → Nat} (hT : ∀ x, T x x < q) {a b : Nat} (ha : a < q) : (paR S ((List.range q).filter fun j => (List.range q).any fun x => decide (1 ≤ x) && T x x == j) q 0 a).testBit b = pgB q S T a q b := by
  unfold paR
  rw [if_pos ha, sb_bit, Bool.eq_iff_iff]
  unfold pgB
  simp only [List.contains_iff_mem, List.mem_map, List.mem_filter, List.mem_range, List.any_eq_true, Bool.and_eq_true, decide_eq_true_eq, beq_iff_eq]
  constructor
  · rintro ⟨s, ⟨_, x, h1, h2, h3⟩, h4⟩
    exact ⟨x, h1, h2, by rw [h3]; exact h4⟩
  · rintro ⟨x, h1, h2, h3⟩
    exact ⟨T x x, ⟨hT x, x, h1, h2, rfl⟩, h3⟩

theorem row3p {w : World} {g : Nat} {x0 x1 x2 : Value} {t : TypeId} (h : w.heap[g]? = some (.cells #[x0, x1, x2] t (0, 0))) : w.cell? ⟨g, 0, none⟩ = some x0 ∧ w.cell? ⟨g, 1, none⟩ = some x1 ∧ w.cell? ⟨g, 2, none⟩ = some x2 :=
  ⟨cell_of_row w g 0 _ _ _ h, cell_of_row w g 1 _ _ _ h, cell_of_row w g 2 _ _ _ h⟩
set_option maxRecDepth 100000 in
set_option maxHeartbeats 4000000 in
theorem order_any (P K : Nat) (u : Value) (w : World) (hP : 1 ≤ P) (_hP2 : P ≤ 61) (h64 : P ^ K ≤ 64) (hK : K ≤ 6) (hu : ∃ a n c, u = .slice a n c) :
    Calls Tryd.prog 30 #[.agg #[.int .i64 (P : Int), .int .i64 (K : Int), u]] w fun e w' => e = .returned (.int .i64 ((P ^ K : Nat) : Int)) ∧ Below w.heap.size w w' := by
  obtain ⟨ua, un, uc, rfl⟩ := hu
  have hbox := heap_alloc_new w (.cells #[.int .i64 (P : Int), .int .i64 (K : Int), .slice ua un uc] 24)
  have b0 := balloc w (.cells #[.int .i64 (P : Int), .int .i64 (K : Int), .slice ua un uc] 24)
  obtain ⟨x0, x1, x2⟩ := row3p hbox
  have HPW : Hid (∀ i, i ≤ K → P ^ i ≤ 64) := fun i hi => Nat.le_trans (Nat.pow_le_pow_right hP hi) h64
  have HC : Hid ((w.alloc (.cells #[.int .i64 (P : Int), .int .i64 (K : Int), .slice ua un uc] 24)).cell? ⟨w.heap.size, 0, none⟩ = some (.int .i64 (P : Int))) := x0
  go_enter Tryd.func30, Tryd.ntmps30
  go_wp2
  go_loopw [3, 6] (fun qv iv wr => ∃ (i y : Nat), iv = .int .i64 (i : Int) ∧ qv = .int .i64 (y : Int) ∧ Hid (y = P ^ i) ∧ i ≤ K ∧ wr = w.alloc (.cells #[.int .i64 (P : Int), .int .i64 (K : Int), .slice ua un uc] 24)) (fun _ iv _ => (K - intOf iv).toNat)
  case atStart => exact ⟨0, 1, rfl, rfl, (by simp : 1 = P ^ 0), by omega, rfl⟩
  case round =>
    obtain ⟨i, y, rfl, rfl, Hy, hi, rfl⟩ := hrel
    by_cases hlt : i < K
    · have hd : decide ((i : Int) < (K : Int)) = true := by simp; omega
      obtain ⟨m, Hm⟩ : ∃ m : Nat, Hid (m = P ^ (i + 1)) := ⟨_, rfl⟩
      have hm : m ≤ 64 := by rw [Hm.out]; exact HPW.out (i + 1) hlt
      have e1 : (y : Int) * (P : Int) = (m : Int) := by rw [Hm.out, Hy.out, Nat.pow_succ]; simp
      go_wp2
      go_roundw
      case rel => exact ⟨i + 1, m, by go_num, by first | rfl | go_num, Hm, by omega, by trivial⟩
      case measure => simp [intOf]; omega
    · have hd : decide ((i : Int) < (K : Int)) = false := by simp; omega
      obtain rfl : i = K := by omega
      have HE : Hid (y = P ^ i) := Hy
      go_wp2
      go_ret
      exact ⟨by rw [← HE.out]; rfl, b0⟩

set_option maxRecDepth 100000 in
set_option maxHeartbeats 16000000 in
theorem fpal : FPal := by
  intro p k l u W hT hu hl
  obtain ⟨fs, hu47⟩ := und45
  have hbox := heap_alloc_new W (.cells #[.int .i64 p, .int .i64 k, u] 24)
  have b0 := balloc W (.cells #[.int .i64 p, .int .i64 k, u] 24)
  have b1 := balloc (W.alloc (.cells #[.int .i64 p, .int .i64 k, u] 24)) (.cells #[.int .i64 0, .slice none 0 0] 27)
  have hr1 : ((W.alloc (.cells #[.int .i64 p, .int .i64 k, u] 24)).alloc (.cells #[.int .i64 0, .slice none 0 0] 27)).heap[W.heap.size + 1]? = some (.cells #[.int .i64 0, .slice none 0 0] 27 (0, 0)) := by
    have := heap_alloc_new (W.alloc (.cells #[.int .i64 p, .int .i64 k, u] 24)) (.cells #[.int .i64 0, .slice none 0 0] 27)
    rwa [World.size_alloc] at this
  have hbox1 := (b1.block W.heap.size (by simp)).trans hbox
  obtain ⟨x0, x1, x2⟩ := row3p hbox1
  have b01 := Below.next b0 b1
  have CS := Fd.Squares_any p k l u _ (hT.below b01) (hu.below b01) hl
  have hls : W.heap.size + 1 < ((W.alloc (.cells #[.int .i64 p, .int .i64 k, u] 24)).alloc (.cells #[.int .i64 0, .slice none 0 0] 27)).heap.size := by simp
  obtain ⟨ua, uc, rfl⟩ := sl_len hu
  generalize hW1 : ((W.alloc (.cells #[.int .i64 p, .int .i64 k, .slice ua l.length uc] 24)).alloc (.cells #[.int .i64 0, .slice none 0 0] 27)) = W1 at *
  have HLS : Hid (W.heap.size + 1 < W1.heap.size) := hls
  have HB1 : Hid (Below W.heap.size W W1) := b01
  have HR1 : Hid (W1.heap[W.heap.size + 1]? = some (.cells #[.int .i64 0, .slice none 0 0] 27 (0, 0))) := hr1
  have HBX : Hid (W1.heap[W.heap.size]? = some (.cells #[.int .i64 p, .int .i64 k, .slice ua l.length uc] 24 (0, 0))) := hbox1
  have HTA : Hid (∀ W2, Below W1.heap.size W1 W2 → Fd.Tab W2 ∧ Sl W2 (.slice ua l.length uc) l) := fun W2 h => ⟨(hT.below b01).below h, (hu.below b01).below h⟩
  have HBW : Hid (∀ W2, Below W1.heap.size W1 W2 → Below W.heap.size W ((W2.setCell ⟨W.heap.size + 1, 0, none⟩ (.int .i64 0)).setCell ⟨W.heap.size + 1, 1, none⟩ (.slice none 0 0))) := fun W2 h => ((Below.next b01 h).setCell (p := ⟨W.heap.size + 1, 0, none⟩) (by show _ ≤ W.heap.size + 1; omega) _).setCell (p := ⟨W.heap.size + 1, 1, none⟩) (by show _ ≤ W.heap.size + 1; omega) _
  clear b0 b1 hbox hls b01 hr1 hbox1
  by_cases hF : Fd.FaultIs p k l 0
  · obtain ⟨P, K, rfl, rfl, hG⟩ := Fd.good_of hF
    have hP2 := hG.field.two
    have hq64 := hG.le64
    have HCS : Hid (∀ (e : Ending) (w2 : World), (∃ (u' : Value) (s : List Int) (z : Int), e = .returned (.tuple #[u', .int .i64 z]) ∧ Fd.Sl w2 u' s ∧ Fd.FaultIs P K l z ∧ Hid (z ≠ 0 → s = []) ∧ Hid (z = 0 → s = Fd.sqTo (P : Int).toNat (K : Int).toNat (Fd.monL l) ((P : Int).toNat ^ (K : Int).toNat)) ∧ Below W1.heap.size W1 w2) → ∃ sa sc, e = .returned (.tuple #[.slice sa ((List.range (P ^ K)).filter (Fd.isSq P K (Fd.monL l))).length sc, .int .i64 0]) ∧ Hid (Sl w2 (.slice sa ((List.range (P ^ K)).filter (Fd.isSq P K (Fd.monL l))).length sc) (((List.range (P ^ K)).filter (Fd.isSq P K (Fd.monL l))).map fun n : Nat => (n : Int))) ∧ Below W1.heap.size W1 w2) := by
      rintro e w2 ⟨u', s, z, rfl, h1, h2, _, h4, h5⟩
      obtain rfl : z = 0 := h2.one hF
      have h4 := h4.out rfl
      rw [Int.toNat_natCast, Int.toNat_natCast] at h4
      have h4 : s = ((List.range (P ^ K)).filter (Fd.isSq P K (Fd.monL l))).map fun n : Nat => (n : Int) := h4
      obtain ⟨sa, sc, e1⟩ := sl_len (show Sl w2 u' s from h1)
      subst h4
      rw [List.length_map] at e1
      subst e1
      exact ⟨sa, sc, rfl, h1, h5⟩
    have CS2 := CS.mono HCS.out
    have HCO : Hid (∀ w2, Calls Tryd.prog 30 #[.agg #[.int .i64 (P : Int), .int .i64 (K : Int), .slice ua l.length uc]] w2 fun e w' => e = .returned (.int .i64 ((P ^ K : Nat) : Int)) ∧ Below w2.heap.size w2 w') := fun w2 => order_any P K _ w2 (by omega) hG.le61 hG.le64 hG.le6 ⟨_, _, _, rfl⟩
    have HPA : Hid (∀ (n : Int) (M : List Int), ((paE (P ^ K) ≠ 0 ∧ n = 0 ∧ M = []) ∨ (paE (P ^ K) = 0 ∧ n = ((P ^ K : Nat) : Int) ∧ M = pgC (P ^ K) (Fd.addQ P K) (Fd.mulQ P K (Fd.monL l)))) → PaR P K l n M (paE (P ^ K))) := fun n M h => .inr ⟨P, K, rfl, rfl, hG, rfl, by
      rcases h with ⟨h1, h2⟩ | ⟨h1, h2⟩
      · exact .inl ⟨by omega, h2⟩
      · exact .inr ⟨by omega, h2⟩⟩
    have HCE : Hid (∀ W2, Below W1.heap.size W1 W2 → W2.cell? ⟨W.heap.size, 0, none⟩ = some (.int .i64 (P : Int)) ∧ W2.cell? ⟨W.heap.size, 1, none⟩ = some (.int .i64 (K : Int)) ∧ W2.cell? ⟨W.heap.size, 2, none⟩ = some (.slice ua l.length uc)) := fun W2 h => row3p ((h.block W.heap.size (by have := HLS.out; omega)).trans HBX.out)
    have HAD : Hid (∀ W2 a b, Below W1.heap.size W1 W2 → a < P ^ K → b < P ^ K → Calls Tryd.prog 31 #[.agg #[.int .i64 (P : Int), .int .i64 (K : Int), .slice ua l.length uc], .int .i64 (a : Int), .int .i64 (b : Int)] W2 fun e w' => e = .returned (.tuple #[.int .i64 ((Fd.addQ P K a b : Nat) : Int), .int .i64 0]) ∧ Below W2.heap.size W2 w') := fun W2 a b h ha hb => Fd.AddG P K a b l _ W2 (HTA.out W2 h).1 (HTA.out W2 h).2 hl hG ha hb _ rfl
    have HS : Hid (∀ x s, Fd.addQ P K x s < P ^ K) := fun x s => Fd.addQ_lt hG.field.toRing1 x s
    have HFIN : Hid (paE (P ^ K) = 0 → ∀ j, j < P ^ K * P ^ K → drF (P ^ K) (fun a b => (paR (Fd.addQ P K) ((List.range (P ^ K)).filter (Fd.isSq P K (Fd.monL l))) (P ^ K) 0 a).testBit b) (prL (P ^ K)).length j = (pgC (P ^ K) (Fd.addQ P K) (Fd.mulQ P K (Fd.monL l))).getD j 0) := fun h0 j hj => by
      have hN := (paley_num hG h0).1
      have hle : P ^ K ≤ 24 := by unfold paE at h0; by_cases h : 24 < P ^ K; rw [if_pos h] at h0; cases h0; omega
      have e : ∀ a b, a < P ^ K → b < P ^ K → gx (P ^ K) (pgC (P ^ K) (Fd.addQ P K) (Fd.mulQ P K (Fd.monL l))) a b = pgF (P ^ K) (Fd.addQ P K) (Fd.mulQ P K (Fd.monL l)) a b := fun a b ha hb => gx_range _ ha hb
      rw [pgC, rng_get _ _ hj]
      refine drF_all (by omega) (fun a b hab hb => ?_) (fun a b ha hb => ?_) (fun a ha => ?_) hj
      · unfold pgF
        have := pa_bit (q := P ^ K) (S := Fd.addQ P K) (T := Fd.mulQ P K (Fd.monL l)) (fun x => Fd.mulQ_lt hG.field.toRing1 x x) (a := a) (b := b) (by omega)
        rw [← this]
        rfl
      · rw [← e a b ha hb, ← e b a hb ha]; exact hN.gr.sym a b ha hb
      · rw [← e a a ha ha]; exact hN.gr.diag a ha
    have HSQ : Hid (∀ i s, ((List.range (P ^ K)).filter (Fd.isSq P K (Fd.monL l)))[i]? = some s → s < P ^ K) := fun i s h => List.mem_range.1 (List.mem_filter.1 (List.mem_of_getElem? h)).1
    have HPE : Hid (paE (P ^ K) = if 24 < P ^ K then 3 else if P ^ K % 4 = 1 then 0 else 4) := rfl
    have HPL : (pgC (P ^ K) (Fd.addQ P K) (Fd.mulQ P K (Fd.monL l))).length = P ^ K * P ^ K := by simp [pgC]
    have hsl : ((List.range (P ^ K)).filter (Fd.isSq P K (Fd.monL l))).length ≤ P ^ K := by
      have := List.length_filter_le (Fd.isSq P K (Fd.monL l)) (List.range (P ^ K))
      simpa using this
    generalize hqq : P ^ K = q at *
    generalize (List.range q).filter (Fd.isSq P K (Fd.monL l)) = sq at *
    generalize pgC q (Fd.addQ P K) (Fd.mulQ P K (Fd.monL l)) = PG at *
    generalize Fd.addQ P K = S at *
    have hE := HPE.out
    by_cases h24 : 24 < q
    · have d1 : decide (24 < (q : Int)) = true := by simp; omega
      rw [if_pos h24] at hE
      have HR : Hid (PaR P K l 0 [] 3) := by
        have := HPA.out 0 [] (.inl ⟨by omega, rfl, rfl⟩)
        rw [hE] at this
        exact this
      clear HFIN hE h24
      go_enter Tryd.func10, Tryd.ntmps10
      go_wp2_with (first
        | (rw [hW1])
        | (go_at_call 20; refine CS2.mono ?_; rintro e w2 ⟨sa, sc, rfl, HSl, hb2⟩; clear CS2; obtain ⟨y0, y1, y2⟩ := HCE.out w2 hb2; have CO := HCO.out w2)
        | (go_at_call 30; refine CO.mono ?_; rintro e w3 ⟨rfl, hb3⟩; clear CO; have b13 := Below.next hb2 hb3; have hrr := (b13.block _ HLS.out).trans HR1.out; obtain ⟨r0, r1, r2, r3⟩ := row2 hrr))
      exact post_sq2 2 3 rfl rfl (put2_row hrr _ _) rfl rfl ⟨⟨0, _, [], 3, rfl, HR.out, OwnS.nil _⟩, HBW.out _ b13⟩
    · have d1 : decide (24 < (q : Int)) = false := by simp; omega
      rw [if_neg h24] at hE
      have hm4 : Int.tmod (q : Int) 4 = ((q % 4 : Nat) : Int) := by rw [Int.tmod_eq_emod_of_nonneg (by omega)]; simp
      by_cases h41 : q % 4 = 1
      · rw [if_pos h41] at hE
        have d2 : (Int.tmod (q : Int) 4 != 1) = false := by rw [hm4]; simp; omega
        have d3 : ((q : Int) % 4 != 1) = false := by simp; omega
        have HR : Hid (PaR P K l (q : Int) PG 0) := by
          have := HPA.out (q : Int) PG (.inr ⟨hE, rfl, rfl⟩)
          rw [hE] at this
          exact this
        have HF2 := HFIN.out hE
        have hPGl : Hid (PG.length = q * q) := HPL
        have HRL : Hid (∀ a i x, paR S sq a i x < 2 ^ 32) := paR_lt (by omega) HS.out
        have HCD : Hid (∀ (w5 : World), Calls Tryd.prog 33 #[.int .i64 (q : Int), .func (.func 34) #[.agg (gRow q (paR S sq q 0))] #[]] w5 fun e w' => (∃ y, e = .returned (.agg #[.int .i64 (q : Int), y]) ∧ OwnS w' y PG) ∧ Below w5.heap.size w5 w') := fun w5 => by
          refine (drawn_any q 34 #[.agg (gRow q (paR S sq q 0))] #[] (fun a b => (paR S sq q 0 a).testBit b) w5 (by omega) (enters_of Tryd.func34 (by kernel_rfl) rfl) ?_).mono ?_
          · intro a b W3 hab hb hB
            exact joined_any q (paR S sq q 0) a b W3 (by omega) (by omega) (HRL.out q 0 a)
          · rintro e w' ⟨⟨g, rfl, hg⟩, hb⟩
            exact ⟨⟨_, rfl, ownS_of hPGl.out hg fun j hj => HF2 j hj⟩, hb⟩
        have hq24 : q ≤ 24 := by omega
        clear HFIN hE h24 h41 hm4 HF2 HPL
        go_enter Tryd.func10, Tryd.ntmps10
        go_wp2_with (first
          | (rw [hW1])
          | (go_at_call 20; refine CS2.mono ?_; rintro e w2 ⟨sa, sc, rfl, HSl, hb2⟩; clear CS2; obtain ⟨y0, y1, y2⟩ := HCE.out w2 hb2; have CO := HCO.out w2)
          | (go_at_call 30; refine CO.mono ?_; rintro e w3 ⟨rfl, hb3⟩; clear CO; have b13 := Below.next hb2 hb3; have hz := GrW.zero w3)
          | (refine wpList_store_row rfl 79 _ _ rfl w3.heap.size (gRow (q : Int) fun _ => 0) rfl rfl 79 _ hz (inf45 _ _) rfl (gRow_one _ _) ?_))
        go_loopw [34] (fun av wr => ∃ (a : Nat), av = .int .i64 (a : Int) ∧ a ≤ q ∧ GrW wr w3.heap.size q (paR S sq a 0) ∧ Below w3.heap.size w3 wr) (fun av _ => (q - intOf av).toNat)
        case atStart => exact ⟨0, rfl, by omega, (hz.whole q fun _ => 0).congr fun x => (paR_zero S sq x).symm, bsetR (balloc w3 _) (Nat.le_refl _) _⟩
        case round =>
          obtain ⟨a, rfl, ha, hgr, hB⟩ := hrel
          by_cases hlt : a < q
          · have hda : decide ((a : Int) < (q : Int)) = true := by simp; omega
            go_wp2
            go_loopw [39] (fun iv wr => ∃ (i : Nat), iv = .int .i64 (i : Int) ∧ i ≤ sq.length ∧ GrW wr w3.heap.size q (paR S sq a i) ∧ Below w3.heap.size w3 wr) (fun iv _ => (sq.length - intOf iv).toNat)
            case atStart => exact ⟨0, rfl, by omega, hgr, hB⟩
            case round =>
              clear hgr hB
              obtain ⟨i, rfl, hi, hgr, hB⟩ := hrel
              by_cases hli : i < sq.length
              · have hdi : decide ((i : Int) < (sq.length : Int)) = true := by simp; omega
                have hii : (i : Int) < (sq.length : Int) := by omega
                obtain ⟨s, hs⟩ : ∃ s, sq[i]? = some s := ⟨_, List.getElem?_eq_getElem hli⟩
                have hsq := HSQ.out i s hs
                obtain ⟨b, off, cap, e1, hbl, hcl⟩ := HSl.out.form (n := sq.length) (by simp) (by omega)
                have hc2 := hcl i hli
                have hgd : (sq.map fun n : Nat => (n : Int)).getD i 0 = (s : Int) := by simp [hs]
                rw [hgd] at hc2
                obtain ⟨rfl, rfl⟩ : sa = some ⟨b, off, none⟩ ∧ sc = cap := by simpa using e1
                have b2w := Below.next hb3 hB
                have hcx := (b2w.cell (p := ⟨b, off + i, none⟩) hbl).trans hc2
                have b1w := Below.next hb2 b2w
                obtain ⟨z0, z1, z2⟩ := HCE.out wr b1w
                have CA := HAD.out wr a s b1w hlt hsq
                have hSl := HS.out a s
                obtain ⟨t, Ht⟩ : ∃ t, Hid (S a s = t) := ⟨_, rfl⟩
                rw [Ht.out] at CA hSl
                have HJ : Hid (∀ w5, Below wr.heap.size wr w5 → Calls Tryd.prog 32 #[.pointer (some ⟨w3.heap.size, 0, none⟩), .int .i64 (a : Int), .int .i64 (t : Int)] w5 fun e w' => (∃ v, e = .returned v) ∧ GrW w' w3.heap.size q (paR S sq a (i + 1)) ∧ Below w3.heap.size w3 w') := fun w5 h5 => (join_any w3.heap.size q (paR S sq a i) a t w5 (hgr.below h5 hgr.lt) (by omega) (by omega) (HRL.out a i a)).mono fun e w' ⟨h1, h2, h3, h4⟩ => ⟨h1, h2.congr fun x => by rw [paR_put S sq a i s x hs, Ht.out], (Below.next hB h5).trans h4⟩
                clear e1 hcl hgd hc2
                go_wp2_with (first
                  | (go_at_call 31; refine CA.mono ?_; rintro e w5 ⟨rfl, hb5⟩; clear CA; have CJ := HJ.out w5 hb5)
                  | (go_at_call 32; refine CJ.mono ?_; rintro e w6 ⟨⟨vv, rfl⟩, hg6, hB6⟩; clear CJ))
                go_roundw
                case rel => exact ⟨i + 1, by go_num, by omega, hg6, hB6⟩
                case measure => simp [intOf]; omega
              · have hdi : decide ((i : Int) < (sq.length : Int)) = false := by simp; omega
                obtain rfl : i = sq.length := by omega
                have hg2 : GrW wr w3.heap.size q (paR S sq (a + 1) 0) := hgr.congr fun x => (paR_next S sq a x).symm
                go_wp2
                go_roundw
                case rel => exact ⟨a + 1, by go_num, by omega, hg2, hB⟩
                case measure => simp [intOf]; omega
          · have hda : decide ((a : Int) < (q : Int)) = false := by simp; omega
            obtain rfl : a = q := by omega
            have pl := hgr.places
            have CN := HCD.out wr
            have b1w := Below.next hb2 (Below.next hb3 hB)
            go_wp2_with (first
              | (refine wpList_load_row rfl 79 _ rfl w3.heap.size rfl 79 _ (0, 0) _ hgr hu47 rfl (inf45 _ _) ?_)
              | (go_at_call 33; refine CN.mono ?_; rintro e w7 ⟨⟨y, rfl, hy⟩, hb7⟩; clear CN; obtain ⟨ya, yc, rfl⟩ := hy.len; have b17 := Below.next b1w hb7; have hrr := (b17.block _ HLS.out).trans HR1.out; obtain ⟨r0, r1, r2, r3⟩ := row2 hrr))
            refine post_sq2 2 3 rfl rfl (put2_row hrr _ _) rfl rfl ⟨⟨_, _, PG, 0, rfl, HR.out, ?_⟩, ((Below.next HB1.out b17).setCell (p := ⟨W.heap.size + 1, 0, none⟩) (by show _ ≤ W.heap.size + 1; omega) _).setCell (p := ⟨W.heap.size + 1, 1, none⟩) (by show _ ≤ W.heap.size + 1; omega) _⟩
            rcases hy with hy | ⟨g, cap, e, ho⟩
            · exact .inl hy
            · have hne := own_ne24 ho hrr
              exact .inr ⟨g, cap, e, (ho.other ⟨W.heap.size + 1, 0, none⟩ _ hne).other ⟨W.heap.size + 1, 1, none⟩ _ hne⟩
      · rw [if_neg h41] at hE
        have d2 : (Int.tmod (q : Int) 4 != 1) = true := by rw [hm4]; simp; omega
        have d3 : ((q : Int) % 4 != 1) = true := by simp; omega
        have HR : Hid (PaR P K l 0 [] 4) := by
          have := HPA.out 0 [] (.inl ⟨by omega, rfl, rfl⟩)
          rw [hE] at this
          exact this
        clear HFIN hE h24 h41 hm4
        go_enter Tryd.func10, Tryd.ntmps10
        go_wp2_with (first
          | (rw [hW1])
          | (go_at_call 20; refine CS2.mono ?_; rintro e w2 ⟨sa, sc, rfl, HSl, hb2⟩; clear CS2; obtain ⟨y0, y1, y2⟩ := HCE.out w2 hb2; have CO := HCO.out w2)
          | (go_at_call 30; refine CO.mono ?_; rintro e w3 ⟨rfl, hb3⟩; clear CO; have b13 := Below.next hb2 hb3; have hrr := (b13.block _ HLS.out).trans HR1.out; obtain ⟨r0, r1, r2, r3⟩ := row2 hrr))
        exact post_sq2 2 3 rfl rfl (put2_row hrr _ _) rfl rfl ⟨⟨0, _, [], 4, rfl, HR.out, OwnS.nil _⟩, HBW.out _ b13⟩
  · have HCS : Hid (∀ (e : Ending) (w2 : World), (∃ (u' : Value) (s : List Int) (z : Int), e = .returned (.tuple #[u', .int .i64 z]) ∧ Fd.Sl w2 u' s ∧ Fd.FaultIs p k l z ∧ Hid (z ≠ 0 → s = []) ∧ Hid (z = 0 → s = Fd.sqTo p.toNat k.toNat (Fd.monL l) (p.toNat ^ k.toNat)) ∧ Below W1.heap.size W1 w2) → ∃ (u' : Value) (z : Int), e = .returned (.tuple #[u', .int .i64 z]) ∧ (z != 0) = true ∧ Hid (PaR p k l 0 [] z) ∧ Below W1.heap.size W1 w2) := by
      rintro e w2 ⟨u', s, z, rfl, h1, h2, _, h4, h5⟩
      have hz : z ≠ 0 := fun h => hF (h ▸ h2)
      exact ⟨u', z, rfl, by simp [hz], .inl ⟨h2, hz, rfl, rfl⟩, h5⟩
    have CS2 := CS.mono HCS.out
    clear CS hF HTA
    go_enter Tryd.func10, Tryd.ntmps10
    go_wp2_with (first
      | (rw [hW1])
      | (go_at_call 20; refine CS2.mono ?_; rintro e w2 ⟨u', z, rfl, hz, HR, hb2⟩; clear CS2; have hrr := (hb2.block _ HLS.out).trans HR1.out; obtain ⟨r0, r1, r2, r3⟩ := row2 hrr))
    exact post_sq2 2 3 rfl rfl (put2_row hrr _ _) rfl rfl ⟨⟨0, _, [], z, rfl, HR.out, OwnS.nil _⟩, HBW.out _ hb2⟩

end Go.Proofs.YtlmjlffipinjiabDoor.Sg
