/- The walk of Level, and what it tells. -/
import Derived.Test.YtamdpcajfgbagaaE8
import Derived.Test.YtamdpcajfgbagaaDLx
namespace Go.Proofs.Ytamdpcajfgbagaa
open Go.RowKit

/-! ### The sets of choices are the rising lists -/
theorem chL_of_list : ∀ {t n : Nat} {s : List Nat}, s.length = t → s.Pairwise (· < ·) → (∀ x ∈ s, x < n) → sb s ∈ chL t n
  | 0, n, s, hl, _, _ => by
    obtain rfl := List.eq_nil_of_length_eq_zero hl
    simp [chL, sb]
  | t + 1, n, s, hl, hp, hb => by
    have hne : s ≠ [] := fun h => by subst h; simp at hl
    obtain ⟨l, q, rfl⟩ : ∃ l q, s = l ++ [q] := ⟨s.dropLast, s.getLast hne, (List.dropLast_concat_getLast hne).symm⟩
    have h1 := List.pairwise_append.1 hp
    have hlt : l.length = t := by simpa using hl
    have hq : ∀ x ∈ l, x < q := fun x hx => h1.2.2 x hx q (by simp)
    have hqn : q < n := hb q (by simp)
    have htq : t ≤ q := by rw [← hlt]; exact (rise_pts h1.1 hq).le
    rw [sb_snoc]
    refine List.mem_flatMap.2 ⟨q, List.mem_range'_1.2 ⟨htq, by omega⟩, List.mem_map.2 ⟨sb l, chL_of_list hlt h1.1 hq, rfl⟩⟩
theorem chL_is_list : ∀ {t n x : Nat}, x ∈ chL t n → ∃ s : List Nat, x = sb s ∧ s.length = t ∧ s.Pairwise (· < ·) ∧ ∀ y ∈ s, y < n
  | 0, n, x, h => ⟨[], by simpa [chL, sb] using h, rfl, List.Pairwise.nil, fun y h => by simp at h⟩
  | t + 1, n, x, h => by
    obtain ⟨q, h1, h2⟩ := List.mem_flatMap.1 h
    obtain ⟨z, h3, rfl⟩ := List.mem_map.1 h2
    have h4 := List.mem_range'_1.1 h1
    obtain ⟨l, rfl, h5, h6, h7⟩ := chL_is_list h3
    refine ⟨l ++ [q], (sb_snoc l q).symm, by simp [h5], List.pairwise_append.2 ⟨h6, List.pairwise_singleton _ _, fun a ha b hb => ?_⟩, fun y hy => ?_⟩
    · rw [List.mem_singleton.1 hb]; exact h7 a ha
    · rcases List.mem_append.1 hy with hy | hy
      · have := h7 y hy; omega
      · rw [List.mem_singleton.1 hy]; omega
theorem hN_nb {v : Nat} {B : List (List Nat)} (G : GoodD v B) {s : List Nat} (hs : ∀ x ∈ s, x < v) : hN (B.map sb) (sb s) = nb B s := by
  have h40 := G.le
  unfold hN nb
  rw [List.countP_map]
  refine List.countP_congr fun b hb => ?_
  have hb2 := (G.bls b hb).lt
  simp only [Function.comp]
  rw [decide_eq_true_iff, an_all (fun x hx => by have := hs x hx; omega) (fun x hx => by have := hb2 x hx; omega)]
theorem good_sb64 {v : Nat} {B : List (List Nat)} (G : GoodD v B) : ∀ x ∈ B.map sb, x < 2 ^ 64 := fun x hx => by
  obtain ⟨b, hb, rfl⟩ := List.mem_map.1 hx
  have h40 := G.le
  exact sb_lt fun y hy => by have := (G.bls b hb).lt y hy; omega
theorem good_pc {v : Nat} {B : List (List Nat)} (G : GoodD v B) {b : List Nat} (hb : b ∈ B) : pc (sb b) = b.length := by
  have hr := rs_iff.1 (G.rs b hb)
  have h40 := G.le
  exact pc_sb hr.1 fun x hx => by have := (hr.2 x hx).2; omega
theorem lev_iff {v t : Nat} {B : List (List Nat)} (G : GoodD v B) : (∀ s ∈ chL t v, hN (B.map sb) s = hN (B.map sb) (2 ^ t - 1)) ↔ Lev v B t (hN (B.map sb) (2 ^ t - 1)) := by
  constructor
  · intro h
    refine lev_of_rise fun s h1 h2 h3 => ?_
    rw [← hN_nb G h2]
    exact h _ (chL_of_list h3 h1 h2)
  · intro h x hx
    obtain ⟨s, rfl, h1, h2, h3⟩ := chL_is_list hx
    rw [hN_nb G h3]
    exact h s (rise_pts h2 h3) h1

theorem lv_box (p : Int) (u : Value) (w : World) : (w.alloc (.cells #[.int .i64 p, u] 33)).cell? ⟨w.heap.size, 0, none⟩ = some (.int .i64 p) ∧ (w.alloc (.cells #[.int .i64 p, u] 33)).cell? ⟨w.heap.size, 1, none⟩ = some u := des_box p u w _ (Below.refl _ _)

set_option maxRecDepth 100000 in
set_option maxHeartbeats 4000000 in
theorem Level_bad (p t : Int) (ls : List (List Int)) (v : Value) (w : World) (hv : Rw w v ls) (hl : ls.length ≤ maxLen) (hll : ∀ l ∈ ls, l.length ≤ maxLen) (hz : dF p ls ≠ 0) :
    Calls Try.prog 17 #[.agg #[.int .i64 p, v], .int .i64 t] w fun e w' => e = .returned (.tuple #[.int .i64 0, .int .i64 0, .int .i64 (dF p ls : Int)]) ∧ Below w.heap.size w w' := by
  obtain ⟨x0, x1⟩ := lv_box p v w
  have b0 := balloc w (.cells #[.int .i64 p, v] 33)
  have C1 := open_any p ls v _ (hv.below b0) hl hll
  generalize dF p ls = z at *
  have hd : ((z : Int) != 0) = true := by simp; omega
  clear hv hl hll
  go_enter Try.func17, Try.ntmps17
  go_wp2_with (go_at_call 26; refine C1.mono ?_; rintro e w3 ⟨⟨x, rfl, _, _⟩, hb3⟩; clear C1)
  exact bodyPost_ret (v := .tuple #[.int .i64 0, .int .i64 0, .int .i64 (z : Int)]) (by simp [results, Try.results17, go_sem]) rfl ⟨rfl, Below.next b0 hb3⟩

set_option maxRecDepth 100000 in
set_option maxHeartbeats 4000000 in
theorem Level_far (v : Nat) (t : Int) (B : List (List Nat)) (u : Value) (w : World) (G : GoodD v B) (hu : Rw w u (toZ B)) (h : t < 0 ∨ 4 < t ∨ (v : Int) < t) :
    Calls Try.prog 17 #[.agg #[.int .i64 (v : Int), u], .int .i64 t] w fun e w' => e = .returned (.tuple #[.int .i64 0, .int .i64 0, .int .i64 1]) ∧ Below w.heap.size w w' := by
  obtain ⟨x0, x1⟩ := lv_box v u w
  have b0 := balloc w (.cells #[.int .i64 (v : Int), u] 33)
  have C1 := open_good v B u _ G (hu.below b0)
  obtain ⟨w0, Hw0⟩ : ∃ w0, Hid (w0 = w.alloc (.cells #[.int .i64 (v : Int), u] 33)) := ⟨_, rfl⟩
  have y0 : ∀ W, Below w0.heap.size w0 W → W.cell? ⟨w.heap.size, 0, none⟩ = some (.int .i64 (v : Int)) := fun W hW => by
    rw [Hw0.out] at hW; exact (des_box v u w W hW).1
  have hv40 := G.le
  by_cases h1 : t < 0
  · have hd : decide (t < 0) = true := decide_eq_true h1
    go_enter Try.func17, Try.ntmps17
    go_wp2_with (go_at_call 26; refine C1.mono ?_; rintro e w3 ⟨⟨x, rfl, _⟩, hb3⟩; clear C1)
    exact bodyPost_ret (v := .tuple #[.int .i64 0, .int .i64 0, .int .i64 1]) (by simp [results, Try.results17, go_sem]) rfl ⟨rfl, Below.next b0 hb3⟩
  · have hd : decide (t < 0) = false := decide_eq_false h1
    by_cases h2 : 4 < t
    · have hd2 : decide (4 < t) = true := decide_eq_true h2
      go_enter Try.func17, Try.ntmps17
      go_wp2_with (go_at_call 26; refine C1.mono ?_; rintro e w3 ⟨⟨x, rfl, _⟩, hb3⟩; clear C1)
      exact bodyPost_ret (v := .tuple #[.int .i64 0, .int .i64 0, .int .i64 1]) (by simp [results, Try.results17, go_sem]) rfl ⟨rfl, Below.next b0 hb3⟩
    · have hd2 : decide (4 < t) = false := decide_eq_false h2
      have hd3 : decide ((v : Int) < t) = true := decide_eq_true (by omega)
      have ht4 : t ≤ 4 := by omega
      go_enter Try.func17, Try.ntmps17
      go_wp2_with (go_at_call 26; refine C1.mono ?_; rintro e w3 ⟨⟨x, rfl, _⟩, hb3⟩; clear C1; have y1 := y0 w3 (by rw [Hw0.out]; exact hb3))
      exact bodyPost_ret (v := .tuple #[.int .i64 0, .int .i64 0, .int .i64 1]) (by simp [results, Try.results17, go_sem]) rfl ⟨rfl, Below.next b0 hb3⟩

set_option maxRecDepth 100000 in
set_option maxHeartbeats 8000000 in
theorem Level_main (v t : Nat) (B : List (List Nat)) (u : Value) (w : World) (G : GoodD v B) (hu : Rw w u (toZ B)) (h4 : t ≤ 4) (htv : t ≤ v) :
    Calls Try.prog 17 #[.agg #[.int .i64 (v : Int), u], .int .i64 (t : Int)] w fun e w' => LvT v B t e ∧ Below w.heap.size w w' := by
  obtain ⟨x0, x1⟩ := lv_box v u w
  have b0 := balloc w (.cells #[.int .i64 (v : Int), u] 33)
  have C1 := open_good v B u _ G (hu.below b0)
  obtain ⟨w0, Hw0⟩ : ∃ w0, Hid (w0 = w.alloc (.cells #[.int .i64 (v : Int), u] 33)) := ⟨_, rfl⟩
  have HY0 : Hid (∀ W, Below w0.heap.size w0 W → W.cell? ⟨w.heap.size, 0, none⟩ = some (.int .i64 (v : Int))) := fun W hW => by
    rw [Hw0.out] at hW; exact (des_box v u w W hW).1
  have hv40 := G.le
  have HG : Hid (GoodD v B) := G
  have hd : decide ((t : Int) < 0) = false := decide_eq_false (by omega)
  have hd2 : decide (4 < (t : Int)) = false := decide_eq_false (by omega)
  have hd3 : decide ((v : Int) < (t : Int)) = false := decide_eq_false (by omega)
  have ha : LvOk v B t = fun k l => B ≠ [] ∧ (∀ b ∈ B, b.length = k) ∧ Lev v B t l := rfl
  have fin4 : (¬ ∃ k l, LvOk v B t k l) → LvT v B (t : Int) (.returned (.tuple #[.int .i64 0, .int .i64 0, .int .i64 4])) := fun h => .inr ⟨t, rfl, h4, htv, .inr ⟨h, rfl⟩⟩
  have HF4 : Hid ((¬ ∃ k l, LvOk v B t k l) → LvT v B (t : Int) (.returned (.tuple #[.int .i64 0, .int .i64 0, .int .i64 4]))) := fin4
  have HF0 : Hid (∀ k l : Nat, LvOk v B t k l → LvT v B (t : Int) (.returned (.tuple #[.int .i64 (k : Int), .int .i64 (l : Int), .int .i64 0]))) := fun k l h => .inr ⟨t, rfl, h4, htv, .inl ⟨k, l, h, rfl⟩⟩
  have hB0 : Hid (Below w.heap.size w (w.alloc (.cells #[.int .i64 (v : Int), u] 33))) := b0
  clear G hu ha fin4 b0
  go_enter Try.func17, Try.ntmps17
  by_cases hne : B = []
  · subst hne
    go_wp2_with (first
      | (go_at_call 26; refine C1.mono ?_; rintro e w3 ⟨⟨x, rfl, hrow⟩, hb3⟩; clear C1; obtain ⟨xa, xc, rfl⟩ := own_formE hrow; have y1 := HY0.out w3 (by rw [Hw0.out]; exact hb3))
      | (go_at_call 27; refine (sizes_none w3 xa xc).mono ?_; rintro e w4 ⟨rfl, hw4⟩; subst hw4))
    exact bodyPost_ret (v := .tuple #[.int .i64 0, .int .i64 0, .int .i64 4]) (by simp [results, Try.results17, go_sem]) rfl ⟨HF4.out (fun ⟨k, l, h, _⟩ => h rfl), Below.next hB0.out hb3⟩
  · have hpos : 0 < (B.map sb).length := by rw [List.length_map]; exact List.length_pos_iff.2 hne
    have HNE : Hid (B ≠ []) := hne
    clear hne
    have hbl : (B.map sb).length ≤ 200 := by rw [List.length_map]; exact HG.out.few
    go_wp2_with (first
      | (go_at_call 26; refine C1.mono ?_; rintro e w3 ⟨⟨x, rfl, hrow⟩, hb3⟩; clear C1; have y1 := HY0.out w3 (by rw [Hw0.out]; exact hb3))
      | (go_at_call 27; refine (sizes_main (B.map sb) x w3 hrow.ss hbl (good_sb64 HG.out) hpos).mono ?_))
    rintro e w4 ⟨⟨rfl, hall⟩ | ⟨rfl, hno⟩, hw4⟩
    · subst hw4
      have T := together_any v t (B.map sb) x w4 hv40 h4 hrow.ss hbl (good_sb64 HG.out)
      have HK : Hid (∀ b ∈ B, b.length = pc ((B.map sb).getD 0 0)) := fun b hb => by
        rw [← good_pc HG.out hb]; exact hall _ (List.mem_map.2 ⟨b, hb, rfl⟩)
      have hk64 := pc_le ((B.map sb).getD 0 0)
      obtain ⟨k, Hk⟩ : ∃ k, Hid (pc ((B.map sb).getD 0 0) = k) := ⟨_, rfl⟩
      rw [Hk.out] at HK hk64 ⊢
      obtain ⟨xa, xc, ex⟩ := own_formE hrow
      obtain ⟨lam, Hlam⟩ : ∃ lam, Hid (hN (B.map sb) (2 ^ t - 1) = lam) := ⟨_, rfl⟩
      rw [Hlam.out] at T
      have hb4 : Below w.heap.size w w4 := Below.next hB0.out hb3
      have HT : Hid (Calls Try.prog 28 #[.int .i64 (v : Int), .int .i64 (t : Int), x] w4 fun e w' => ((e = .returned (.tuple #[.int .i64 (lam : Int), .bool true]) ∧ ∀ s ∈ chL t v, hN (B.map sb) s = lam) ∨ (e = .returned (.tuple #[.int .i64 0, .bool false]) ∧ ∃ s ∈ chL t v, hN (B.map sb) s ≠ lam)) ∧ Below w4.heap.size w4 w') := T
      clear hall hrow T
      subst ex
      generalize (B.map sb).length = bl at *
      go_wp2_with (go_at_call 28; refine HT.out.mono ?_; rintro e w5 ⟨⟨rfl, hy⟩ | ⟨rfl, hno⟩, hb5⟩)
      · have hL : LvOk v B t k lam := ⟨HNE.out, HK.out, by have := (lev_iff HG.out).1 (by rw [Hlam.out]; exact hy); rwa [Hlam.out] at this⟩
        have HL := HF0.out k lam hL
        have HL2 : Hid (LvT v B (t : Int) (.returned (.tuple #[.int .i64 (k : Int), .int .i64 (lam : Int), .int .i64 0]))) := HL
        clear hy hL HL
        exact bodyPost_ret (v := .tuple #[.int .i64 (k : Int), .int .i64 (lam : Int), .int .i64 0]) (by simp [results, Try.results17, go_sem]) rfl ⟨HL2.out, Below.next hb4 hb5⟩
      · have HNO : Hid (∃ s ∈ chL t v, hN (B.map sb) s ≠ lam) := hno
        clear hno
        refine bodyPost_ret (v := .tuple #[.int .i64 0, .int .i64 0, .int .i64 4]) (by simp [results, Try.results17, go_sem]) rfl ⟨HF4.out (fun ⟨k', l, _, _, hl⟩ => ?_), Below.next hb4 hb5⟩
        obtain ⟨s, hs, hn⟩ := HNO.out
        refine hn ?_
        obtain ⟨q, rfl, h1, h2, h3⟩ := chL_is_list hs
        rw [hN_nb HG.out h3, hl q (rise_pts h2 h3) h1, ← Hlam.out, low_sb, hN_nb HG.out (fun x hx => by have := List.mem_range.1 hx; omega)]
        exact (hl _ (range_pts htv) (by simp)).symm
    · subst hw4
      go_wp2
      refine bodyPost_ret (v := .tuple #[.int .i64 0, .int .i64 0, .int .i64 4]) (by simp [results, Try.results17, go_sem]) rfl ⟨HF4.out (fun ⟨k, l, _, h, _⟩ => hno ⟨k, fun x hx => ?_⟩), Below.next hB0.out hb3⟩
      obtain ⟨b, hb, rfl⟩ := List.mem_map.1 hx
      rw [good_pc HG.out hb]; exact h b hb

theorem Level_any (v : Nat) (t : Int) (B : List (List Nat)) (u : Value) (w : World) (G : GoodD v B) (hu : Rw w u (toZ B)) :
    Calls Try.prog 17 #[.agg #[.int .i64 (v : Int), u], .int .i64 t] w fun e w' => LvT v B t e ∧ Below w.heap.size w w' := by
  by_cases h : t < 0 ∨ 4 < t ∨ (v : Int) < t
  · refine (Level_far v t B u w G hu h).mono ?_
    rintro e w' ⟨rfl, hb⟩
    exact ⟨.inl ⟨h, rfl⟩, hb⟩
  · obtain ⟨m, rfl⟩ : ∃ m : Nat, t = m := ⟨t.toNat, by omega⟩
    exact Level_main v m B u w G hu (by omega) (by omega)

end Go.Proofs.Ytamdpcajfgbagaa
