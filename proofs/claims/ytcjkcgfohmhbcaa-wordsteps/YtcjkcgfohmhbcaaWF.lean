/- The law WordChen over the contracts. -/
import Derived.Test.YtcjkcgfohmhbcaaWE
import Derived.Deep.RegionHeld3
namespace Go.Proofs.Ytcjkcgfohmhbcaa
open Go.RowKit

/-- Where the i-th piece begins. -/
def posF (fs : List (List Nat)) (i : Nat) : Nat := (fs.take i).flatten.length
theorem posF_cons (f : List Nat) (r : List (List Nat)) (i : Nat) : posF (f :: r) (i + 1) = f.length + posF r i := by
  unfold posF
  rw [List.take_succ_cons, List.flatten_cons, List.length_append]
theorem posF_at : ∀ (fs : List (List Nat)) (i : Nat), i < fs.length → posF fs (i + 1) = posF fs i + (fs.getD i []).length ∧ posF fs (i + 1) ≤ fs.flatten.length ∧ (fs.flatten.drop (posF fs i)).take (fs.getD i []).length = fs.getD i []
  | [], i, h => absurd h (Nat.not_lt_zero i)
  | f :: r, 0, _ => by
    refine ⟨?_, ?_, ?_⟩
    · rw [posF_cons]; show f.length + 0 = 0 + f.length; omega
    · rw [posF_cons, List.flatten_cons, List.length_append]; show f.length + 0 ≤ _; omega
    · show ((f ++ r.flatten).drop 0).take f.length = f
      rw [List.drop_zero, List.take_left]
  | f :: r, i + 1, h => by
    have hr : i < r.length := by simpa using h
    obtain ⟨h1, h2, h3⟩ := posF_at r i hr
    have e : (f :: r).getD (i + 1) [] = r.getD i [] := rfl
    rw [posF_cons, posF_cons, e, h1, List.flatten_cons, List.length_append]
    refine ⟨by omega, by omega, ?_⟩
    rw [← List.drop_drop, List.drop_left]
    exact h3
theorem posF_end (fs : List (List Nat)) : posF fs fs.length = fs.flatten.length := by unfold posF; rw [List.take_length]
theorem fal_at : ∀ (fs : List (List Nat)), Fal fs → ∀ i, i < fs.length → Lyn (fs.getD i []) ∧ (i + 1 < fs.length → ¬ Ah (fs.getD i []) (fs.getD (i + 1) []))
  | [], _, i, h => absurd h (Nat.not_lt_zero i)
  | f :: r, hF, 0, _ => by
    refine ⟨hF.lyn, fun h => ?_⟩
    cases r with
    | nil => exact absurd h (by simp)
    | cons m r => exact hF.2.1
  | f :: r, hF, i + 1, h => by
    have hr : i < r.length := by simpa using h
    obtain ⟨h1, h2⟩ := fal_at r hF.tail i hr
    exact ⟨h1, fun h3 => h2 (by simpa using h3)⟩
theorem chen_facts (M : List Nat) : ∃ pos : Nat → Nat, pos 0 = 0 ∧ pos (facL M).length = M.length ∧ ∀ i, i < (facL M).length → pos (i + 1) = pos i + (facL M).getD i 0 ∧ 1 ≤ (facL M).getD i 0 ∧ pos (i + 1) ≤ M.length ∧ lyB ((M.drop (pos i)).take ((facL M).getD i 0)) = true ∧ (0 < i → pos (i - 1) ≤ pos i ∧ ahB ((M.drop (pos (i - 1))).take (pos i - pos (i - 1))) ((M.drop (pos i)).take ((facL M).getD i 0)) = false) := by
  have hfl := fcP_flat M.length M (Nat.le_refl _)
  have hfa := fcP_fal M.length M (Nat.le_refl _)
  have hL : facL M = (fcP M.length M).map List.length := rfl
  obtain ⟨fs, e⟩ : ∃ fs, fcP M.length M = fs := ⟨_, rfl⟩
  rw [e] at hfl hfa hL
  have hg : ∀ i, i < fs.length → (facL M).getD i 0 = (fs.getD i []).length := fun i hi => by
    rw [hL, List.getD_eq_getElem?_getD, List.getD_eq_getElem?_getD, List.getElem?_map, List.getElem?_eq_getElem hi]
    rfl
  have hlen : (facL M).length = fs.length := by rw [hL, List.length_map]
  refine ⟨posF fs, rfl, by rw [hlen, posF_end, hfl], fun i hi => ?_⟩
  rw [hlen] at hi
  obtain ⟨h1, h2, h3⟩ := posF_at fs i hi
  obtain ⟨h4, -⟩ := fal_at fs hfa i hi
  rw [hfl] at h2 h3
  rw [hg i hi, h3]
  refine ⟨h1, List.length_pos_iff.2 h4.ne, h2, (lyB_is _).2 h4, fun h0 => ?_⟩
  obtain ⟨j, rfl⟩ : ∃ j, i = j + 1 := ⟨i - 1, by omega⟩
  obtain ⟨h5, h6, h7⟩ := posF_at fs j (by omega)
  obtain ⟨-, h8⟩ := fal_at fs hfa j (by omega)
  rw [hfl] at h7
  rw [Nat.add_sub_cancel, h5, Nat.add_sub_cancel_left, h7]
  refine ⟨by omega, ?_⟩
  rw [Bool.eq_false_iff]
  exact fun h => h8 hi ((ahB_is _ _).1 h)
theorem wF_of {M : List Nat} (h1 : M.length ≤ 4096) (h2 : ∀ x ∈ M, x ≤ 9) : wF (M.map Int.ofNat) = 0 := by
  unfold wF
  rw [List.length_map, if_neg (by omega), if_neg]
  intro h
  obtain ⟨i, hi, hx⟩ := List.any_eq_true.1 h
  have hi := List.mem_range.1 hi
  rw [nat_at, Bool.or_eq_true, decide_eq_true_iff, decide_eq_true_iff] at hx
  have hm := h2 (M.getD i 0) (by rw [List.getD_eq_getElem?_getD, List.getElem?_eq_getElem hi]; exact List.getElem_mem _)
  omega
theorem lynd_word (FL : FLyndon) {M : List Nat} (h1 : M.length ≤ 4096) (h2 : ∀ x ∈ M, x ≤ 9) {v : Value} {W : World} (hv : Wd W v M) : Calls Try.prog 15 #[v] W fun e w' => e = .returned (.tuple #[.bool (lyB M), .int .i64 0]) ∧ Below W.heap.size W w' := by
  have h0 := wF_of h1 h2
  have hs : Sw W v (M.map Int.ofNat) := by
    refine ⟨hv.sl, fun a n c e => ?_, by rw [List.length_map]; unfold maxLen; omega⟩
    obtain ⟨a', c', e2, hc, -⟩ := hv
    rw [e2] at e
    simp only [Value.slice.injEq] at e
    omega
  have C := FL _ v W hs
  have e : lyZ (M.map Int.ofNat) = lyB M := by unfold lyZ; rw [decide_eq_true h0, Bool.true_and, wd_back]
  rw [e, h0] at C
  exact C
theorem Wd.sub {w : World} {b o n c : Nat} {M : List Nat} (h : Wd w (.slice (Option.some ⟨b, o, none⟩) n c) M) {i m : Nat} (hi : i + m ≤ n) : Wd w (.slice (Option.some ⟨b, o + i, none⟩) m (c - i)) ((M.drop i).take m) := (h.drop (i := i) (by omega)).take (by omega)
set_option maxRecDepth 100000 in
set_option maxHeartbeats 16000000 in
theorem Chen_law (FB : FBruijn) (FP : FPrimes) (FF : FFactors) (FL : FLyndon) (l : List Int) (v : Value) (w : World) (h : Sw w v l) :
    Calls Try.prog 8 #[v] w fun e w' => e = .returned (.bool true) ∧ Below w.heap.size w w' := by
  have HS : Hid (∀ W, Below w.heap.size w W → Sw W v l) := fun W b => h.below b
  have D26 := wordFact_any FB FP w
  have H14 : Hid (∀ W, Below w.heap.size w W → Calls Try.prog 14 #[v] W fun e w' => (∃ y, e = .returned (.tuple #[y, .int .i64 (wF l : Int)]) ∧ Wd w' y (faZ l)) ∧ Below W.heap.size W w') := fun W b => FF l v W (HS.out W b)
  have hB : Below w.heap.size w w := Below.refl _ _
  by_cases h0 : wF l = 0
  · obtain ⟨hwd, hl4, h9, -⟩ := h.wd h0
    obtain ⟨a, n, c, hv, hn⟩ : ∃ a n c, v = .slice a n c ∧ (wdN l).length = n := by
      obtain ⟨a, c, e, _⟩ := hwd
      exact ⟨a, _, c, e, rfl⟩
    have e1 : faZ l = facL (wdN l) := by unfold faZ; rw [if_pos h0]
    have HLL : (facL (wdN l)).length ≤ 4096 := Nat.le_trans (facL_len _) hl4
    have HWD : Hid (∀ W, Below w.heap.size w W → Wd W v (wdN l)) := fun W b => ((HS.out W b).wd h0).1
    obtain ⟨pos, hp0, hpN, hpi⟩ := chen_facts (wdN l)
    rw [e1, h0] at H14
    have H9 : Hid (∀ p m, ∀ x ∈ ((wdN l).drop p).take m, x ≤ 9) := fun p m x hx => h9 x (List.mem_of_mem_drop (List.mem_of_mem_take hx))
    obtain ⟨M, HM⟩ : ∃ M, Hid (wdN l = M) := ⟨_, rfl⟩
    rw [HM.out] at H9 hpi hpN HWD hn hl4 H14 HLL
    obtain ⟨L, HL⟩ : ∃ L, Hid (facL M = L) := ⟨_, rfl⟩
    rw [HL.out] at hpi hpN H14 HLL
    have HPI : Hid (∀ i, i < L.length → pos (i + 1) = pos i + L.getD i 0 ∧ 1 ≤ L.getD i 0 ∧ pos (i + 1) ≤ M.length ∧ lyB ((M.drop (pos i)).take (L.getD i 0)) = true ∧ (0 < i → pos (i - 1) ≤ pos i ∧ ahB ((M.drop (pos (i - 1))).take (pos i - pos (i - 1))) ((M.drop (pos i)).take (L.getD i 0)) = false)) := hpi
    have HP0 : Hid (pos 0 = 0) := hp0
    have HPN : Hid (pos L.length = n) := by show _ = _; rw [hpN, hn]
    have HN : Hid (M.length = n) := hn
    rw [hn] at hl4
    obtain ⟨N, Hn⟩ : ∃ N, Hid (L.length = N) := ⟨_, rfl⟩
    rw [Hn.out] at HLL HPI HPN
    have HC : Hid (∀ W p m, Wd W v M → p + m ≤ n → ∀ b o c, v = .slice (some ⟨b, o, none⟩) n c → Calls Try.prog 15 #[.slice (some ⟨b, o + p, none⟩) m (c - p)] W fun e w' => e = .returned (.tuple #[.bool (lyB ((M.drop p).take m)), .int .i64 0]) ∧ Below W.heap.size W w') := fun W p m hW hpm b o c hv => by
      rw [hv] at hW
      refine lynd_word FL ?_ (H9.out p m) (hW.sub hpm)
      rw [List.length_take]; omega
    have HA : Hid (∀ W p m p' m', Wd W v M → p + m ≤ n → p' + m' ≤ n → ∀ b o c, v = .slice (some ⟨b, o, none⟩) n c → Calls Try.prog 27 #[.slice (some ⟨b, o + p, none⟩) m (c - p), .slice (some ⟨b, o + p', none⟩) m' (c - p')] W fun e w' => e = .returned (.bool (ahB ((M.drop p).take m) ((M.drop p').take m'))) ∧ Below W.heap.size W w') := fun W p m p' m' hW h1 h2 b o c hv => by
      rw [hv] at hW
      refine Ahead_any _ _ _ _ W (hW.sub h1).sl (hW.sub h2).sl ?_ ?_ <;> (rw [List.length_take]; omega)
    have hnc : n ≤ c := by rw [← hn, ← HM.out]; obtain ⟨a', c', e, hc, -⟩ := hwd; rw [hv] at e; simp only [Value.slice.injEq] at e; omega
    clear h h0 hwd h9 e1 hp0 hpN hpi hn
    subst hv
    go_enter Try.func8, Try.ntmps8
    go_wp2_with (first
      | (go_at_call 26; refine D26.mono ?_; rintro e wa ⟨rfl, bb⟩; clear D26; replace hB := hB.trans (bb.mono hB.size); have D14 := H14.out wa hB)
      | (go_at_call 14; refine D14.mono ?_; rintro e wb ⟨⟨y1, rfl, hy1⟩, bb⟩; clear D14; replace hB := hB.trans (bb.mono hB.size); obtain ⟨ya, yc, rfl⟩ := hy1.len Hn.out)
      | go_in)
    go_loopw [6, 7, 8] (fun pv qv iv wr => ∃ i p q : Nat, iv = .int .i64 (i : Int) ∧ pv = .int .i64 (p : Int) ∧ qv = .int .i64 (q : Int) ∧ i ≤ N ∧ Hid (p = pos i) ∧ Hid (q = pos (i - 1)) ∧ Below wb.heap.size wb wr) (fun _ _ iv _ => (N - intOf iv).toNat)
    case atStart => exact ⟨0, 0, 0, rfl, rfl, rfl, by omega, HP0.out.symm, HP0.out.symm, Below.refl _ _⟩
    case round =>
      obtain ⟨i, p, q, rfl, rfl, rfl, hi, HP, HQ, hB2⟩ := hrel
      have hB3 := hB.trans (hB2.mono hB.size)
      by_cases hlt : i < N
      · have hdi : decide ((i : Int) < (N : Int)) = true := by simp; omega
        have hii : (i : Int) < (N : Int) := by omega
        have hi0 : (0 : Int) ≤ (i : Int) := by omega
        have hiw : IntKind.i64.wrap ((i : Int) + 1) = (i : Int) + 1 := IntWalk.i64_in _ (by omega)
        have hy2 := hy1.below hB2
        obtain ⟨b1, o1, c1, e, -⟩ := hy2.some (by rw [Hn.out]; omega)
        simp only [Value.slice.injEq] at e
        obtain ⟨rfl, -, rfl⟩ := e
        have hcx := hy2.cellAt hlt
        obtain ⟨h1, h2, h3, h4, h5⟩ := HPI.out i hlt
        rw [HN.out] at h3
        rw [← HP.out] at h1 h4 h5
        rw [← HQ.out] at h5
        obtain ⟨x, Hx⟩ : ∃ x, Hid (L.getD i 0 = x) := ⟨_, rfl⟩
        rw [Hx.out] at h1 h2 h4 h5 hcx
        have hWM := HWD.out wr hB3
        obtain ⟨b, o, c2, e, -⟩ := hWM.some (by rw [HN.out]; omega)
        simp only [Value.slice.injEq] at e
        obtain ⟨rfl, -, rfl⟩ := e
        have C := HC.out wr p x hWM (by omega) b o c rfl
        rw [h4] at C
        have HP2 : Hid (p + x = pos (i + 1)) := h1.symm
        have HQ2 : Hid (p = pos (i + 1 - 1)) := HP.out
        have dx1 : decide ((x : Int) < 1) = false := by simp; omega
        obtain ⟨s, Hs⟩ : ∃ s, Hid (p + x = s) := ⟨_, rfl⟩
        have es : (p : Int) + (x : Int) = (s : Int) := by rw [← Hs.out]; simp
        have hsn : s ≤ n := by rw [← Hs.out]; omega
        have hsw : IntKind.i64.wrap (s : Int) = (s : Int) := IntWalk.i64_in _ (by omega)
        have dx2 : decide ((n : Int) < (s : Int)) = false := by simp; omega
        have hps : p ≤ s := by rw [← Hs.out]; omega
        have sl1 : (0 : Int) ≤ (p : Int) := by omega
        have sl2 : (p : Int) ≤ (s : Int) := by omega
        have sl3 : (s : Int) ≤ (c : Int) := by omega
        have sl4 : ¬ c = p := by omega
        have sl5 : s - p = x := by rw [← Hs.out]; omega
        clear h1 h4 hy1
        have HCX : Hid (∀ W, Below wr.heap.size wr W → W.cell? ⟨b1, o1 + i, none⟩ = some (.int .i64 (x : Int))) := fun W bW => by
          have := (hy2.below bW).cellAt hlt
          rw [Hx.out] at this
          exact this
        by_cases hi1 : 0 < i
        · have hd1 : decide ((0 : Int) < (i : Int)) = true := by simp; omega
          obtain ⟨h6, h7⟩ := h5 hi1
          have HA2 : Hid (∀ W, Below wr.heap.size wr W → Calls Try.prog 27 #[.slice (some ⟨b, o + q, none⟩) (p - q) (c - q), .slice (some ⟨b, o + p, none⟩) x (c - p)] W fun e w' => e = .returned (.bool false) ∧ Below W.heap.size W w') := fun W bW => by
            have := HA.out W q (p - q) p x (HWD.out W (hB3.trans (bW.mono hB3.size))) (by omega) (by omega) b o c rfl
            rw [h7] at this
            exact this
          have sq1 : (0 : Int) ≤ (q : Int) := by omega
          have sq2 : (q : Int) ≤ (p : Int) := by omega
          have sq3 : (p : Int) ≤ (c : Int) := by omega
          have sq4 : ¬ c = q := by omega
          clear h5 h7 hy2 hWM
          go_wp2_with (first
            | (go_at_call 15; refine C.mono ?_; rintro e w4 ⟨rfl, b4⟩; clear C; have hcx4 := HCX.out w4 b4; have A := HA2.out w4.drew b4.drew)
            | go_in)
          go_region_held3 (fun W : World => W.cell? ⟨b1, o1 + i, none⟩ = some (.int .i64 (x : Int))) (first | assumption | exact hS5) (first | (go_at_call 27; refine A.mono ?_; rintro e w5 ⟨rfl, b5⟩; have hb5 := Below.next b4.drew b5; have hS5 := HCX.out w5 hb5; clear A))
          all_goals
            go_wp2
            go_roundw
            case rel => exact ⟨i + 1, s, p, by go_num, rfl, rfl, by omega, by rw [← Hs.out]; exact HP2.out, HQ2, Below.next hB2 hb5⟩
            case measure => simp [intOf]; omega
        · have hd1 : decide ((0 : Int) < (i : Int)) = false := by simp; omega
          clear h5 hy2 hWM
          go_wp2_with (first
            | (go_at_call 15; refine C.mono ?_; rintro e w4 ⟨rfl, b4⟩; clear C; have hcx4 := HCX.out w4 b4)
            | go_in)
          go_roundw
          case rel => exact ⟨i + 1, s, p, by go_num, rfl, rfl, by omega, by rw [← Hs.out]; exact HP2.out, HQ2, Below.next hB2 b4⟩
          case measure => simp [intOf]; omega
      · have hdi : decide ((i : Int) < (N : Int)) = false := by simp; omega
        obtain rfl : i = N := by omega
        have hpn : p = n := by rw [HP.out]; exact HPN.out
        have hpe : ((p : Int) == (n : Int)) = true := by simp [hpn]
        clear hpn
        go_wp2
        go_ret
        exact ⟨rfl, hB3⟩
  · obtain ⟨z, Hz⟩ : ∃ z, Hid (wF l = z) := ⟨_, rfl⟩
    rw [Hz.out] at H14 h0
    have hzb : ((z : Int) != 0) = true := by simp [h0]
    clear h
    go_enter Try.func8, Try.ntmps8
    go_wp2_with (first
      | (go_at_call 26; refine D26.mono ?_; rintro e wa ⟨rfl, bb⟩; clear D26; replace hB := hB.trans (bb.mono hB.size); have D14 := H14.out wa hB)
      | (go_at_call 14; refine D14.mono ?_; rintro e wb ⟨⟨y1, rfl, hy1⟩, bb⟩; clear D14; replace hB := hB.trans (bb.mono hB.size); clear hy1)
      | go_in)
    go_ret
    exact ⟨rfl, hB⟩
end Go.Proofs.Ytcjkcgfohmhbcaa
