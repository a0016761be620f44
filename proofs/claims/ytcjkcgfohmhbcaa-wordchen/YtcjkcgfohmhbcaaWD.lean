/- The law WordNext over the contracts. -/
import Derived.Test.YtcjkcgfohmhbcaaWC
namespace Go.Proofs.Ytcjkcgfohmhbcaa
open Go.RowKit

theorem nx_none {k : Int} {M : List Nat} (h : nxE k M ≠ 0) : nxZ k M = [] := by
  unfold nxE at h
  unfold nxZ
  cases e : nxI k M M.length with
  | none => rfl
  | some i => rw [e] at h; exact absurd rfl h
theorem ne_bad {k : Int} {l : List Int} {z : Nat} (h : neF k l = z) (hz : z ≠ 0) : neE k l = z ∧ neZ k l = [] := by
  have e : neE k l = z := by unfold neE; rw [h, if_pos hz]
  exact ⟨e, by unfold neZ; rw [e, if_neg hz]⟩
theorem ne_shape {k : Int} {l : List Int} (h : neF k l = 0) (hy : lyB (wdN l) = false) : neE k l = 2 ∧ neZ k l = [] := by
  have e : neE k l = 2 := by unfold neE; rw [h, if_neg (fun h => h rfl), hy, if_neg (fun h => by cases h)]
  exact ⟨e, by unfold neZ; rw [e, if_neg (by decide)]⟩
theorem ne_ok {k : Int} {l : List Int} (h : neF k l = 0) (hy : lyB (wdN l) = true) : neE k l = nxE k (wdN l) ∧ neZ k l = nxZ k (wdN l) := by
  have e : neE k l = nxE k (wdN l) := by unfold neE; rw [h, if_neg (fun h => h rfl), hy, if_pos rfl]
  refine ⟨e, ?_⟩
  unfold neZ
  rw [e]
  by_cases h0 : nxE k (wdN l) = 0
  · rw [if_pos h0]
  · rw [if_neg h0, nx_none h0]
theorem neF_k {k : Int} {l : List Int} (h : k < 1 ∨ 10 < k) : neF k l = 1 := by unfold neF; rw [if_pos h]
theorem neF_w {k : Int} {l : List Int} (h : ¬ (k < 1 ∨ 10 < k)) {z : Nat} (h2 : wF l = z) (hz : z ≠ 0) : neF k l = z := by unfold neF; rw [if_neg h, h2, if_pos hz]
theorem neF_any {k : Int} {l : List Int} (h : ¬ (k < 1 ∨ 10 < k)) (h2 : wF l = 0) : (∀ j, j < l.length → k ≤ l.getD j 0 → neF k l = 1) ∧ ((∀ j, j < l.length → ¬ k ≤ l.getD j 0) → neF k l = 0) := by
  have e : neF k l = if l.any (fun x => decide (k ≤ x)) = true then 1 else 0 := by unfold neF; rw [if_neg h, h2, if_neg (fun h => h rfl)]
  rw [e]
  refine ⟨fun j hj hk => ?_, fun hk => ?_⟩
  · rw [if_pos]
    refine List.any_eq_true.2 ⟨l.getD j 0, ?_, decide_eq_true hk⟩
    rw [List.getD_eq_getElem?_getD, List.getElem?_eq_getElem hj]
    exact List.getElem_mem _
  · rw [if_neg]
    intro h
    obtain ⟨x, hx, hxk⟩ := List.any_eq_true.1 h
    obtain ⟨j, hj, rfl⟩ := List.mem_iff_getElem.1 hx
    refine hk j hj ?_
    rw [List.getD_eq_getElem?_getD, List.getElem?_eq_getElem hj]
    exact of_decide_eq_true hxk
theorem nxZ_len (k : Int) (M : List Nat) : (nxZ k M).length ≤ M.length := by
  unfold nxZ
  cases e : nxI k M M.length with
  | none => exact Nat.zero_le _
  | some i =>
    have := (nxI_is e).1
    simp
    omega
set_option maxRecDepth 100000 in
set_option maxHeartbeats 16000000 in
theorem Next_law (FN : FNext) (k : Int) (l : List Int) (v : Value) (w : World) (h : Sw w v l) :
    Calls Try.prog 6 #[.int .i64 k, v] w fun e w' => e = .returned (.bool true) ∧ Below w.heap.size w w' := by
  have HS : Hid (∀ W, Below w.heap.size w W → Sw W v l) := fun W b => h.below b
  have D13 := WordFault_any l v w h.1 h.2.2
  have H24 : Hid (∀ W, Below w.heap.size w W → Calls Try.prog 24 #[.int .i64 k, v] W fun e w' => (∃ y, e = .returned (.tuple #[y, .int .i64 (neE k l : Int)]) ∧ Wd w' y (neZ k l)) ∧ Below W.heap.size W w') := fun W b => FN k l v W (HS.out W b)
  have hnm := h.2.2
  unfold maxLen at hnm
  have HW0 : Hid (wF l = 0 → l.length ≤ 4096) := fun h0 => (wF_ok h0).1
  have H17 : Hid (wF l = 0 → ∀ W, Below w.heap.size w W → Calls Try.prog 17 #[v] W fun e w' => e = .returned (.bool (lyB (wdN l))) ∧ Below W.heap.size W w') := fun h0 W b => LyndonOf_any (wdN l) v W ((HS.out W b).wd h0).1 (h.wd h0).2.1
  have H25 : Hid (wF l = 0 → lyB (wdN l) = true → ∀ W, Below w.heap.size w W → Calls Try.prog 25 #[.int .i64 k, v] W fun e w' => (∃ y, e = .returned (.tuple #[y, .int .i64 (nxE k (wdN l) : Int)]) ∧ Wd w' y (nxZ k (wdN l))) ∧ Below W.heap.size W w') := fun h0 hy W b => (NextOf_any k (wdN l) v W ((HS.out W b).wd h0).1 (h.wd h0).2.1 (h.wd h0).2.2.1 hy).mono fun e w' ⟨⟨y, h1, h2⟩, h3⟩ => ⟨⟨y, h1, h2.own⟩, h3⟩
  have H11 : Hid (wF l = 0 → ∀ W x y, Wd W x (nxZ k (wdN l)) → Wd W y (nxZ k (wdN l)) → Calls Try.prog 11 #[x, y] W fun e w' => e = .returned (.bool true) ∧ Below W.heap.size W w') := fun h0 W x y hx hy => same_any (Nat.le_trans (nxZ_len _ _) (h.wd h0).2.1) hx hy
  have HC : Hid (∀ W, Below w.heap.size w W → Sl W v l) := fun W b => (HS.out W b).1
  obtain ⟨a, n, c, rfl, hn⟩ : ∃ a n c, v = .slice a n c ∧ l.length = n := by obtain ⟨⟨a, c, e, _⟩, _⟩ := h; exact ⟨a, _, c, e, rfl⟩
  rw [hn] at hnm
  have HN : Hid (l.length = n) := hn
  have hB : Below w.heap.size w w := Below.refl _ _
  clear h hn
  by_cases hk : k < 1 ∨ 10 < k
  · have hF := neF_k (l := l) hk
    obtain ⟨hE, hZ⟩ := ne_bad hF (by decide)
    rw [hE, hZ] at H24
    clear hF hE hZ
    by_cases hk1 : k < 1
    · have hd1 : decide (k < 1) = true := by simpa using hk1
      clear hk
      go_enter Try.func6, Try.ntmps6
      go_wp2_with (first
        | (go_at_call 13; refine D13.mono ?_; rintro e wa ⟨rfl, bb⟩; clear D13; replace hB := hB.trans (bb.mono hB.size))
        | go_in)
      go_loopw [5, 6] (fun ev iv wr => ∃ i : Nat, ev = .int .i64 1 ∧ iv = .int .i64 (i : Int) ∧ wr = w) (fun _ _ _ => 0)
      case atStart => exact ⟨0, rfl, rfl, rfl⟩
      case round =>
        obtain ⟨i, rfl, rfl, e1⟩ := hrel
        subst e1
        have D24 := H24.out wr hB
        rcases Nat.lt_or_ge i n with hlt | hge
        · have hdi : decide ((i : Int) < (n : Int)) = true := by simp; omega
          have hii : (i : Int) < (n : Int) := by omega
          go_wp2_with (first
            | (go_at_call 24; refine D24.mono ?_; rintro e wb ⟨⟨y1, rfl, hy1⟩, bb⟩; clear D24; replace hB := hB.trans (bb.mono hB.size); obtain ⟨ya, yc, rfl⟩ := hy1.len (m := 0) rfl)
            | go_in)
          go_ret
          exact ⟨rfl, hB⟩
        · have hdi : decide ((i : Int) < (n : Int)) = false := by simp; omega
          go_wp2_with (first
            | (go_at_call 24; refine D24.mono ?_; rintro e wb ⟨⟨y1, rfl, hy1⟩, bb⟩; clear D24; replace hB := hB.trans (bb.mono hB.size); obtain ⟨ya, yc, rfl⟩ := hy1.len (m := 0) rfl)
            | go_in)
          go_ret
          exact ⟨rfl, hB⟩
    · have hd1 : decide (k < 1) = false := by simpa using hk1
      have hd2 : decide (10 < k) = true := by simp; omega
      clear hk
      go_enter Try.func6, Try.ntmps6
      go_wp2_with (first
        | (go_at_call 13; refine D13.mono ?_; rintro e wa ⟨rfl, bb⟩; clear D13; replace hB := hB.trans (bb.mono hB.size))
        | go_in)
      go_loopw [5, 6] (fun ev iv wr => ∃ i : Nat, ev = .int .i64 1 ∧ iv = .int .i64 (i : Int) ∧ wr = w) (fun _ _ _ => 0)
      case atStart => exact ⟨0, rfl, rfl, rfl⟩
      case round =>
        obtain ⟨i, rfl, rfl, e1⟩ := hrel
        subst e1
        have D24 := H24.out wr hB
        rcases Nat.lt_or_ge i n with hlt | hge
        · have hdi : decide ((i : Int) < (n : Int)) = true := by simp; omega
          have hii : (i : Int) < (n : Int) := by omega
          go_wp2_with (first
            | (go_at_call 24; refine D24.mono ?_; rintro e wb ⟨⟨y1, rfl, hy1⟩, bb⟩; clear D24; replace hB := hB.trans (bb.mono hB.size); obtain ⟨ya, yc, rfl⟩ := hy1.len (m := 0) rfl)
            | go_in)
          go_ret
          exact ⟨rfl, hB⟩
        · have hdi : decide ((i : Int) < (n : Int)) = false := by simp; omega
          go_wp2_with (first
            | (go_at_call 24; refine D24.mono ?_; rintro e wb ⟨⟨y1, rfl, hy1⟩, bb⟩; clear D24; replace hB := hB.trans (bb.mono hB.size); obtain ⟨ya, yc, rfl⟩ := hy1.len (m := 0) rfl)
            | go_in)
          go_ret
          exact ⟨rfl, hB⟩
  have hk1 : decide (k < 1) = false := by simp; omega
  have hk2 : decide (10 < k) = false := by simp; omega
  by_cases h0 : wF l = 0
  · obtain ⟨HA1, HA0⟩ := neF_any hk h0
    rw [HN.out] at HA1 HA0
    have HAY : Hid (∀ j, j < n → k ≤ l.getD j 0 → neF k l = 1) := HA1
    have HAN : Hid ((∀ j, j < n → ¬ k ≤ l.getD j 0) → neF k l = 0) := HA0
    have HQ17 := H17.out h0
    have H17' : Hid (∀ W, Below w.heap.size w W → Calls Try.prog 17 #[.slice a n c] W fun e w' => e = .returned (.bool (lyB (wdN l))) ∧ Below W.heap.size W w') := HQ17
    have H25' : Hid (lyB (wdN l) = true → ∀ W, Below w.heap.size w W → Calls Try.prog 25 #[.int .i64 k, .slice a n c] W fun e w' => (∃ y, e = .returned (.tuple #[y, .int .i64 (nxE k (wdN l) : Int)]) ∧ Wd w' y (nxZ k (wdN l))) ∧ Below W.heap.size W w') := H25.out h0
    have H11' : Hid (∀ W x y, Wd W x (nxZ k (wdN l)) → Wd W y (nxZ k (wdN l)) → Calls Try.prog 11 #[x, y] W fun e w' => e = .returned (.bool true) ∧ Below W.heap.size W w') := H11.out h0
    rw [h0] at D13
    clear HQ17 HA1 HA0 h0 hk
    go_enter Try.func6, Try.ntmps6
    go_wp2_with (first
      | (go_at_call 13; refine D13.mono ?_; rintro e wa ⟨rfl, bb⟩; clear D13; replace hB := hB.trans (bb.mono hB.size))
      | go_in)
    go_loopw [5, 6] (fun ev iv wr => ∃ i E : Nat, iv = .int .i64 (i : Int) ∧ ev = .int .i64 (E : Int) ∧ i ≤ n ∧ Hid ((E = 0 ∧ ∀ j, j < i → ¬ k ≤ l.getD j 0) ∨ (E = 1 ∧ neF k l = 1)) ∧ wr = wa) (fun _ iv _ => (n - intOf iv).toNat)
    case atStart => exact ⟨0, 0, rfl, rfl, by omega, .inl ⟨rfl, fun j hj => absurd hj (Nat.not_lt_zero j)⟩, rfl⟩
    case round =>
      obtain ⟨i, E, rfl, rfl, hi, HI, e1⟩ := hrel
      subst e1
      rcases HI.out with ⟨rfl, hall⟩ | ⟨rfl, hne⟩
      · by_cases hlt : i < n
        · have hdi : decide ((i : Int) < (n : Int)) = true := by simp; omega
          have hii : (i : Int) < (n : Int) := by omega
          have hi0 : (0 : Int) ≤ (i : Int) := by omega
          have hiw : IntKind.i64.wrap ((i : Int) + 1) = (i : Int) + 1 := IntWalk.i64_in _ (by omega)
          obtain ⟨a', c', e, hcell⟩ := HC.out wr hB
          simp only [Value.slice.injEq] at e
          obtain ⟨rfl, -, rfl⟩ := e
          obtain ⟨b, o, rfl, hci⟩ := hcell i (by rw [HN.out]; exact hlt)
          have HALL : Hid (∀ j, j < i → ¬ k ≤ l.getD j 0) := hall
          have hay := HAY.out i hlt
          obtain ⟨x, Hx⟩ : ∃ x, Hid (l.getD i 0 = x) := ⟨_, rfl⟩
          rw [Hx.out] at hci hay
          clear hcell hall
          by_cases hkx : k ≤ x
          · have hdk : decide (k ≤ x) = true := by simpa using hkx
            have HI2 : Hid ((1 = 0 ∧ ∀ j, j < i + 1 → ¬ k ≤ l.getD j 0) ∨ (1 = 1 ∧ neF k l = 1)) := .inr ⟨rfl, hay hkx⟩
            clear hay
            go_wp2
            go_roundw
            case rel => exact ⟨i + 1, 1, by go_num, rfl, by omega, HI2, trivial⟩
            case measure => simp [intOf]; omega
          · have hdk : decide (k ≤ x) = false := by simpa using hkx
            have HI2 : Hid ((0 = 0 ∧ ∀ j, j < i + 1 → ¬ k ≤ l.getD j 0) ∨ (0 = 1 ∧ neF k l = 1)) := .inl ⟨rfl, fun j hj => by
              by_cases e : j = i
              · rw [e, Hx.out]; exact hkx
              · exact HALL.out j (by omega)⟩
            clear hay
            go_wp2
            go_roundw
            case rel => exact ⟨i + 1, 0, by go_num, rfl, by omega, HI2, trivial⟩
            case measure => simp [intOf]; omega
        · have hdi : decide ((i : Int) < (n : Int)) = false := by simp; omega
          obtain rfl : i = n := by omega
          have hF := HAN.out (fun j hj => by have := hall j hj; omega)
          clear hall
          by_cases h60 : 60 < i
          · have d60 : decide ((60 : Int) < (i : Int)) = true := by simp; omega
            have D24 := H24.out wr hB
            rcases Bool.eq_false_or_eq_true (lyB (wdN l)) with hy | hy
            all_goals
              clear hF hy
              go_wp2_with (first
                | (go_at_call 24; refine D24.mono ?_; rintro e wb ⟨⟨y1, rfl, hy1⟩, bb⟩; clear D24; replace hB := hB.trans (bb.mono hB.size); clear hy1)
                | go_in)
              go_ret
              exact ⟨rfl, hB⟩
          · have d60 : decide ((60 : Int) < (i : Int)) = false := by simp; omega
            by_cases hy : lyB (wdN l) = true
            · obtain ⟨hE, hZ⟩ := ne_ok hF hy
              rw [hE, hZ] at H24
              have HQ25 : Hid (∀ W, Below w.heap.size w W → Calls Try.prog 25 #[.int .i64 k, .slice a i c] W fun e w' => (∃ y, e = .returned (.tuple #[y, .int .i64 (nxE k (wdN l) : Int)]) ∧ Wd w' y (nxZ k (wdN l))) ∧ Below W.heap.size W w') := H25'.out hy
              rw [hy] at H17'
              obtain ⟨z, Hz⟩ : ∃ z, Hid (nxE k (wdN l) = z) := ⟨_, rfl⟩
              obtain ⟨L, HL⟩ : ∃ L, Hid (nxZ k (wdN l) = L) := ⟨_, rfl⟩
              rw [Hz.out, HL.out] at H24 HQ25
              rw [HL.out] at H11'
              have hzz : ((z : Int) == (z : Int)) = true := by simp
              have D24 := H24.out wr hB
              clear hE hZ hF hy
              by_cases h8 : 8 < i
              · have d8 : decide ((8 : Int) < (i : Int)) = true := by simp; omega
                go_wp2_with (first
                  | (go_at_call 24; refine D24.mono ?_; rintro e wb ⟨⟨y1, rfl, hy1⟩, bb⟩; clear D24; replace hB := hB.trans (bb.mono hB.size); have D17 := H17'.out wb hB)
                  | (go_at_call 17; refine D17.mono ?_; rintro e wc ⟨rfl, bb⟩; clear D17; replace hB := hB.trans (bb.mono hB.size); clear hy1)
                  | go_in)
                go_ret
                exact ⟨rfl, hB⟩
              · have d8 : decide ((8 : Int) < (i : Int)) = false := by simp; omega
                go_wp2_with (first
                  | (go_at_call 24; refine D24.mono ?_; rintro e wb ⟨⟨y1, rfl, hy1⟩, bb⟩; clear D24; replace hB := hB.trans (bb.mono hB.size); have D17 := H17'.out wb hB)
                  | (go_at_call 17; refine D17.mono ?_; rintro e wc ⟨rfl, bb⟩; clear D17; replace hB := hB.trans (bb.mono hB.size); replace hy1 := hy1.below bb; have D25 := HQ25.out wc hB)
                  | (go_at_call 25; refine D25.mono ?_; rintro e wd ⟨⟨y2, rfl, hy2⟩, bb⟩; clear D25; replace hB := hB.trans (bb.mono hB.size); replace hy1 := hy1.below bb; have D11 := H11'.out wd _ _ hy1 hy2)
                  | (go_at_call 11; refine D11.mono ?_; rintro e we ⟨rfl, bb⟩; clear D11; replace hB := hB.trans (bb.mono hB.size); clear hy1 hy2)
                  | go_in)
                go_ret
                exact ⟨rfl, hB⟩
            · have hy2 : lyB (wdN l) = false := by simpa using hy
              obtain ⟨hE, hZ⟩ := ne_shape hF hy2
              rw [hE, hZ] at H24
              rw [hy2] at H17'
              have D24 := H24.out wr hB
              clear hE hZ hF hy hy2
              go_wp2_with (first
                | (go_at_call 24; refine D24.mono ?_; rintro e wb ⟨⟨y1, rfl, hy1⟩, bb⟩; clear D24; replace hB := hB.trans (bb.mono hB.size); obtain ⟨ya, yc, rfl⟩ := hy1.len (m := 0) rfl; have D17 := H17'.out wb hB)
                | (go_at_call 17; refine D17.mono ?_; rintro e wc ⟨rfl, bb⟩; clear D17; replace hB := hB.trans (bb.mono hB.size); clear hy1)
                | go_in)
              go_ret
              exact ⟨rfl, hB⟩
      · obtain ⟨hE, hZ⟩ := ne_bad hne (by decide)
        rw [hE, hZ] at H24
        have D24 := H24.out wr hB
        clear hE hZ hne
        rcases Nat.lt_or_ge i n with hlt | hge
        · have hdi : decide ((i : Int) < (n : Int)) = true := by simp; omega
          have hii : (i : Int) < (n : Int) := by omega
          go_wp2_with (first
            | (go_at_call 24; refine D24.mono ?_; rintro e wb ⟨⟨y1, rfl, hy1⟩, bb⟩; clear D24; replace hB := hB.trans (bb.mono hB.size); obtain ⟨ya, yc, rfl⟩ := hy1.len (m := 0) rfl)
            | go_in)
          go_ret
          exact ⟨rfl, hB⟩
        · have hdi : decide ((i : Int) < (n : Int)) = false := by simp; omega
          go_wp2_with (first
            | (go_at_call 24; refine D24.mono ?_; rintro e wb ⟨⟨y1, rfl, hy1⟩, bb⟩; clear D24; replace hB := hB.trans (bb.mono hB.size); obtain ⟨ya, yc, rfl⟩ := hy1.len (m := 0) rfl)
            | go_in)
          go_ret
          exact ⟨rfl, hB⟩
  · obtain ⟨z, Hz⟩ : ∃ z, Hid (wF l = z) := ⟨_, rfl⟩
    have hz : z ≠ 0 := by rw [← Hz.out]; exact h0
    have hF := neF_w hk Hz.out hz
    obtain ⟨hE, hZ⟩ := ne_bad hF hz
    rw [hE, hZ] at H24
    rw [Hz.out] at D13
    have hzb : ((z : Int) != 0) = true := by simp [hz]
    have hzq : ((z : Int) == 0) = false := by simp [hz]
    have hzz : ((z : Int) == (z : Int)) = true := by simp
    clear hF hE hZ h0 hk
    go_enter Try.func6, Try.ntmps6
    go_wp2_with (first
      | (go_at_call 13; refine D13.mono ?_; rintro e wa ⟨rfl, bb⟩; clear D13; replace hB := hB.trans (bb.mono hB.size))
      | go_in)
    go_loopw [5, 6] (fun ev iv wr => ∃ i : Nat, ev = .int .i64 (z : Int) ∧ iv = .int .i64 (i : Int) ∧ wr = wa) (fun _ _ _ => 0)
    case atStart => exact ⟨0, rfl, rfl, rfl⟩
    case round =>
      obtain ⟨i, rfl, rfl, e1⟩ := hrel
      subst e1
      have D24 := H24.out wr hB
      rcases Nat.lt_or_ge i n with hlt | hge
      · have hdi : decide ((i : Int) < (n : Int)) = true := by simp; omega
        have hii : (i : Int) < (n : Int) := by omega
        go_wp2_with (first
          | (go_at_call 24; refine D24.mono ?_; rintro e wb ⟨⟨y1, rfl, hy1⟩, bb⟩; clear D24; replace hB := hB.trans (bb.mono hB.size); obtain ⟨ya, yc, rfl⟩ := hy1.len (m := 0) rfl)
          | go_in)
        go_ret
        exact ⟨rfl, hB⟩
      · have hdi : decide ((i : Int) < (n : Int)) = false := by simp; omega
        go_wp2_with (first
          | (go_at_call 24; refine D24.mono ?_; rintro e wb ⟨⟨y1, rfl, hy1⟩, bb⟩; clear D24; replace hB := hB.trans (bb.mono hB.size); obtain ⟨ya, yc, rfl⟩ := hy1.len (m := 0) rfl)
          | go_in)
        go_ret
        exact ⟨rfl, hB⟩
end Go.Proofs.Ytcjkcgfohmhbcaa
