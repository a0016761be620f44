/- The program's falling numbers, walked. -/
import Derived.Test.YtmogmkdcplgfjabY4
import Derived.RangeFuncBox
import Derived.Deep.RegionHeld3
namespace Go.Proofs.Ytmogmkdcplgfjab
open Go.RowKit

theorem fall_fit {k n m j : Nat} (hk : k ≤ 30) (hb : (m ≤ 1000000000 ∧ k + n + 1 ≤ 1000000030) ∨ k + n + 1 ≤ 61) (hj : j < k) (h : chs (n + 2 + j - 1) j ≤ m) : chs (n + 2 + j - 1) j * (n + 2 + j) < 9223372036854775808 := by
  rcases hb with ⟨h1, h2⟩ | h1
  · have h3 : chs (n + 2 + j - 1) j * (n + 2 + j) ≤ 1000000000 * 1000000060 := Nat.mul_le_mul (by omega) (by omega)
    omega
  · refine Nat.lt_of_le_of_lt (wy_prod (n + 2) hj) (chs60 hk (by omega))
theorem box_new (w : World) (x y : Value) (s t : TypeId) : Boxed ((w.alloc (.cells #[x] s)).alloc (.cells #[y] t)) w.heap.size s x ∧ Boxed ((w.alloc (.cells #[x] s)).alloc (.cells #[y] t)) (w.heap.size + 1) t y := by
  refine ⟨(Boxed.new w s x).alloc _, ?_⟩
  have := Boxed.new (w.alloc (.cells #[x] s)) t y
  rwa [World.size_alloc] at this
theorem boxBelow {w w' : World} {g : Nat} {t : TypeId} {v : Value} (h : Boxed w g t v) (hb : Below w.heap.size w w') : Boxed w' g t v := (hb.block g h.lt).trans h
theorem boxLow {w w' : World} {B g : Nat} {t : TypeId} {v : Value} (h : Boxed w g t v) (hb : Below B w w') (hg : g < B) : Boxed w' g t v := (hb.block g hg).trans h
theorem boxAway {w : World} {g : Nat} {t : TypeId} {v : Value} (h : Boxed w g t v) (a : Addr) (u : Value) (hne : a.block ≠ g) : Boxed (w.setCell a u) g t v := by
  exact (heap_setCell_other w a g u (Ne.symm hne)).trans h
set_option maxRecDepth 100000 in
set_option maxHeartbeats 16000000 in
theorem falling_any (m k top : Nat) (w : World) (hk30 : k ≤ 30) (hlt0 : m < chs top k) (hbd : (m ≤ 1000000000 ∧ top ≤ 1000000030) ∨ top ≤ 61) :
    Calls Try.prog 17 #[.int .i64 (m : Int), .int .i64 (k : Int), .int .i64 (top : Int)] w fun e w' => ∃ y, e = .returned y ∧ ORow w' w.heap.size y (casL k m) ∧ Below w.heap.size w w' := by
  obtain ⟨i3, ki3, kz0, kz1, kz2⟩ := info3
  obtain ⟨Z, HZ⟩ : ∃ Z, Hid (casL k m = Z) := ⟨_, rfl⟩
  have H0 : Hid (Z = [] ++ casL k m) := HZ.out.symm
  have hZl : Z.length ≤ 30 := by rw [← HZ.out]; exact Nat.le_trans (cas_len k m) hk30
  obtain ⟨hx1, hx2⟩ := box_new w (.int .i64 (m : Int)) (.int .i64 (k : Int)) 3 3
  have hB0 : Below w.heap.size w ((w.alloc (.cells #[.int .i64 (m : Int)] 3)).alloc (.cells #[.int .i64 (k : Int)] 3)) := (balloc w _).alloc (by simp) _
  obtain ⟨B, HBE⟩ : ∃ B, Hid (w.heap.size = B) := ⟨_, rfl⟩
  rw [HZ.out]
  rw [HBE.out] at hx1 hx2 hB0
  have HL0 : Hid (m < chs top k) := hlt0
  obtain ⟨w0, Hw0⟩ : ∃ w0, Hid ((w.alloc (.cells #[.int .i64 (m : Int)] 3)).alloc (.cells #[.int .i64 (k : Int)] 3) = w0) := ⟨_, rfl⟩
  rw [Hw0.out] at hx1 hx2 hB0
  clear hlt0
  go_enter Try.func17, Try.ntmps17
  go_wp2
  rw [Hw0.out]
  simp only [HBE.out]
  clear Hw0
  go_loopw [2, 7] (fun tv ov wr => ∃ (n j T : Nat) (P : List Nat) (oa : Option Addr) (oc : Nat), tv = .int .i64 (T : Int) ∧ ov = .slice oa P.length oc ∧ n < 9223372036854775808 ∧ j ≤ 30 ∧ ((n ≤ 1000000000 ∧ T ≤ 1000000030) ∨ T ≤ 61) ∧ Hid (n < chs T j) ∧ Hid (Z = P ++ casL j n) ∧ wr.ownsRow (B + 2) 3 1 (.slice oa P.length oc) P.length (nz P) ∧ Boxed wr B 3 (.int .i64 (n : Int)) ∧ Boxed wr (B + 1) 3 (.int .i64 (j : Int)) ∧ Below B w wr) (fun tv _ _ => (intOf tv).toNat)
  case atStart => exact ⟨m, k, top, [], none, 0, rfl, rfl, by
    have h1 := HL0.out
    rcases hbd with h | h
    · omega
    · have h2 := chs_two top k
      have h3 : 2 ^ top ≤ 2 ^ 61 := Nat.pow_le_pow_right (by decide) h
      have h4 : (2 : Nat) ^ 61 = 2305843009213693952 := by decide
      omega, hk30, hbd, HL0.out, H0.out, World.ownsRow_nil _ _ _ _, hx1, hx2, hB0⟩
  case round =>
    clear hx1 hx2 hB0 hbd hk30 HL0 H0
    obtain ⟨n, j, T, P, oa, oc, rfl, rfl, hn, hj, hbd, HL, HP, hown, hm, hk, hB⟩ := hrel
    have hmc := hm.cell
    rcases Nat.eq_zero_or_pos n with hn0 | hn0
    · subst hn0
      have HE : Hid (Z = P) := by show _ = _; rw [HP.out, cas_zero, List.append_nil]
      have hO : ORow wr (B + 2) (.slice oa P.length oc) P := hown
      go_wp2
      go_ret
      exact ⟨_, rfl, by rw [HE.out, HBE.out]; exact own_up hO (by omega), by rw [HBE.out]; exact hB⟩
    · have hdn : decide (0 < n) = true := by simpa using hn0
      have hdn2 : decide (0 < (n : Int)) = true := by simp; omega
      have hj0 : 1 ≤ j := by
        rcases Nat.eq_zero_or_pos j with e | e
        · have := HL.out
          rw [e, chs_zero] at this
          omega
        · exact e
      obtain ⟨i, rfl⟩ : ∃ i, j = i + 1 := ⟨j - 1, by omega⟩
      obtain ⟨a, Ha⟩ : ∃ a, Hid (topN (i + 1) n = a) := ⟨_, rfl⟩
      have hge := top_ge hj0 hn0
      have haT := top_low hj0 HL.out
      have hca := top_ways (m := n) hj0
      have hrest := top_rest (k := i) (m := n)
      have hon := cas_on (k := i) (show n ≠ 0 by omega)
      have HASK : Hid (∀ t, decide (n < chs (i + 1 + t + 1) (i + 1)) = decide (topN (i + 1) n - (i + 1) ≤ t)) := top_ask hj0 hn0
      rw [Ha.out] at hge haT hca hrest hon HASK
      obtain ⟨c, Hc⟩ : ∃ c, Hid (chs a (i + 1) = c) := ⟨_, rfl⟩
      rw [Hc.out] at hca hrest hon
      have HON : Hid (casL (i + 1) n = a :: casL i (n - c)) := hon
      have HRS : Hid (n - c < chs a i) := hrest
      obtain ⟨x, hx⟩ : ∃ x, x = T - (i + 1) - 1 := ⟨_, rfl⟩
      obtain ⟨j, hji⟩ : ∃ j, j = i + 1 := ⟨_, rfl⟩
      have HPR : Hid (∀ t, t < x → ∀ u, u < i + 1 → chs (t + 2 + u - 1) u ≤ n → chs (t + 2 + u - 1) u * (t + 2 + u) < 9223372036854775808) := fun t ht u hu h => fall_fit hj (by omega) hu h
      have HS : Hid (∀ W, Below wr.heap.size wr W → W.cell? ⟨B, 0, none⟩ = some (.int .i64 (n : Int)) ∧ W.cell? ⟨B + 1, 0, none⟩ = some (.int .i64 ((i + 1 : Nat) : Int))) := fun W b => ⟨(boxBelow hm b).cell, (boxBelow hk b).cell⟩
      have CS : Hid (∀ W, Below wr.heap.size wr W → Calls Try.prog 23 #[.int .i64 (x : Int), .func (.func 24) #[] #[.pointer (some ⟨B + 1, 0, none⟩), .pointer (some ⟨B, 0, none⟩)]] W fun e w' => e = .returned (.int .i64 ((a - (i + 1) : Nat) : Int)) ∧ w' = W) := fun W b =>
        Search_any x (a - (i + 1)) (B + 1) B W (by omega) (by omega) fun t ht => by
          have h := more_any (i + 1) n t (B + 1) B W (HS.out W b).2 (HS.out W b).1 hj0 hj (by omega) (HPR.out t ht)
          rw [HASK.out t] at h
          exact h
      have CW : Hid (∀ W, Calls Try.prog 26 #[.int .i64 (a : Int), .int .i64 ((i + 1 : Nat) : Int)] W fun e w' => e = .returned (.int .i64 (c : Int)) ∧ w' = W) := fun W => by
        have h := pways_any a (i + 1) W (by omega) (by omega) (by omega) (by
          rw [Hc.out]
          rcases hbd with h | h
          · have h3 : (i + 1) * c ≤ 30 * 1000000000 := Nat.mul_le_mul hj (by omega)
            omega
          · rw [← Hc.out]; exact chs60 hj (by omega))
        rw [Hc.out] at h
        exact h
      have hbs := hB.size
      have hBw := hk.lt
      rw [← hji] at HS CS CW hk hj HON
      have hj0' : 1 ≤ j := by omega
      have e1 : IntKind.i64.wrap ((T : Int) - (j : Int)) = (T : Int) - (j : Int) := IntWalk.i64_in _ (by omega)
      have e2 : (T : Int) - (j : Int) - 1 = (x : Int) := by omega
      have e3 : IntKind.i64.wrap (x : Int) = (x : Int) := IntWalk.i64_in _ (by omega)
      have e4 : (j : Int) + ((a - j : Nat) : Int) = (a : Int) := by omega
      have e5 : IntKind.i64.wrap (a : Int) = (a : Int) := IntWalk.i64_in _ (by omega)
      obtain ⟨b, hb⟩ : ∃ b, b = a - j := ⟨_, rfl⟩
      rw [← hb] at CS e4
      obtain ⟨q, hq⟩ : ∃ q, q = n - c := ⟨_, rfl⟩
      have e6 : (n : Int) - (c : Int) = (q : Int) := by omega
      have e7 : IntKind.i64.wrap (q : Int) = (q : Int) := IntWalk.i64_in _ (by omega)
      have e8 : (j : Int) - 1 = (i : Int) := by omega
      have e9 : IntKind.i64.wrap (i : Int) = (i : Int) := IntWalk.i64_in _ (by omega)
      have hPl : P.length ≤ 30 := by
        have := congrArg List.length HP.out
        rw [List.length_append] at this
        omega
      obtain ⟨s, hs⟩ : ∃ s, Hid (P.length = s) := ⟨_, rfl⟩
      have HP2 : Hid (Z = (P ++ [a]) ++ casL i q) := by show _ = _; rw [HP.out, ← hji, HON.out, hq]; simp
      rw [← hq] at HRS
      rw [hs.out] at hown hPl ⊢
      clear HASK HPR hge hca hx hb hji hrest hon HP HON
      go_wp2_with fail
      refine wp_region_noPanic ?_
      refine wp_region_held_drew (S := fun W : World => W.cell? ⟨B, 0, none⟩ = some (.int .i64 (n : Int)) ∧ W.cell? ⟨B + 1, 0, none⟩ = some (.int .i64 (j : Int))) (by kernel_rfl) (HS.out _ (Below.refl _ wr).drew) (fun hSx => ?_)
      have d0 : Below wr.heap.size wr wr.drew := (Below.refl _ wr).drew
      refine wpAnyH_take (i := 0) (v := .int .i64 (j : Int)) rfl (by kernel_rfl) (by kernel_rfl) (by kernel_rfl) (fun _ _ _ h => h) (Or.inl ⟨by rfl, fun w' hSw => by (try dsimp only at hSw); obtain ⟨hs0, hs1⟩ := hSw; go_simp⟩) hSx ?_
      try simp only [Act.put, List.setIfInBounds_toArray]
      refine wpAnyH_take (i := 1) (v := .int .i64 (T : Int)) rfl (by kernel_rfl) (by kernel_rfl) (by kernel_rfl) (fun _ _ _ h => h) (Or.inl ⟨by rfl, fun w' hSw => by (try dsimp only at hSw); obtain ⟨hs0, hs1⟩ := hSw; go_simp⟩) hSx ?_
      try simp only [Act.put]
      refine wpAnyH_take (i := 2) (v := .int .i64 (j : Int)) rfl (by kernel_rfl) (by kernel_rfl) (by kernel_rfl) (fun _ _ _ h => h) (Or.inl ⟨by rfl, fun w' hSw => by (try dsimp only at hSw); obtain ⟨hs0, hs1⟩ := hSw; go_simp⟩) hSx ?_
      try simp only [Act.put]
      refine wpAnyH_take (i := 3) (v := .int .i64 ((T : Int) - (j : Int) : Int)) rfl (by kernel_rfl) (by kernel_rfl) (by kernel_rfl) (fun _ _ _ h => h) (Or.inl ⟨by rfl, fun w' hSw => by (try dsimp only at hSw); obtain ⟨hs0, hs1⟩ := hSw; go_simp⟩) hSx ?_
      try simp only [Act.put]
      refine wpAnyH_take (i := 4) (v := .int .i64 (x : Int)) rfl (by kernel_rfl) (by kernel_rfl) (by kernel_rfl) (fun _ _ _ h => h) (Or.inl ⟨by rfl, fun w' hSw => by (try dsimp only at hSw); obtain ⟨hs0, hs1⟩ := hSw; go_simp⟩) hSx ?_
      try simp only [Act.put]
      refine wpAnyH_take (i := 5) (v := .func (.func 24) #[] #[.pointer (some ⟨B + 1, 0, none⟩), .pointer (some ⟨B, 0, none⟩)]) rfl (by kernel_rfl) (by kernel_rfl) (by kernel_rfl) (fun _ _ _ h => h) (Or.inl ⟨by rfl, fun w' hSw => by (try dsimp only at hSw); obtain ⟨hs0, hs1⟩ := hSw; go_simp⟩) hSx ?_
      try simp only [Act.put]
      refine wpAnyH_ready (rs := [6]) (by kernel_rfl) (by simp) ?_
      refine AllReadyH.cons rfl (fun J hJ => ?_) AllReadyH.nil
      go_simp
      refine (CS.out _ d0).mono ?_
      rintro e w1 ⟨rfl, rfl⟩
      go_wp2_with fail
      refine hJ.out _ _ (HS.out _ d0) (fun hSx => ?_)
      clear hJ J
      try simp only [Act.put, List.setIfInBounds_toArray, List.set_cons_zero, List.set_cons_succ]
      refine wpAnyH_take (i := 7) (v := .int .i64 (a : Int)) rfl (by kernel_rfl) (by kernel_rfl) (by kernel_rfl) (fun _ _ _ h => h) (Or.inl ⟨by rfl, fun w' hSw => by (try dsimp only at hSw); obtain ⟨hs0, hs1⟩ := hSw; go_simp⟩) hSx ?_
      try simp only [Act.put, List.setIfInBounds_toArray]
      refine wpAnyH_take (i := 8) (v := .int .i64 (a : Int)) rfl (by kernel_rfl) (by kernel_rfl) (by kernel_rfl) (fun _ _ _ h => h) (Or.inl ⟨by rfl, fun w' hSw => by (try dsimp only at hSw); obtain ⟨hs0, hs1⟩ := hSw; go_simp⟩) hSx ?_
      try simp only [Act.put]
      refine wpAnyH_done (by kernel_rfl) ?_ _
      refine NoPanic.normal ?_
      go_simp
      go_wp2_with (first
        | (at_builtin; refine wpList_append_own _ rfl _ _ 22 rfl (B + 2) 3 i3 (.int .i64 0) 1 8 und22 ki3 kz0 kz1 kz2 rfl (by decide) _ _ _ rfl (hown.alloc _) ⟨wr.heap.size, 0, none⟩ 1 1 [.int .i64 (a : Int)] rfl rfl ?c1 ?c2 ?c3 ?c4 ?c5 ?_)
        | fail)
      case c1 =>
        intro j u hj
        match j, hj with
        | 0, hj => simp at hj; subst hj; simp [Addr.add]
      case c2 => intro u hu; simp at hu; subst hu; rfl
      case c3 => unfold maxLen; omega
      case c4 => omega
      case c5 => simp; omega
      intro v' w6 hown' hgrow _
      have hb6 : Below (B + 2) wr w6 := ((Below.refl (B + 2) wr).drew.alloc (by simp; omega) _).grown hgrow (by simp; omega) (fun k hk => (hown.lt k hk).1)
      rw [show nz P ++ [Value.int .i64 (a : Int)] = nz (P ++ [a]) from (nz_more P a).symm] at hown'
      obtain ⟨xa, xc, rfl⟩ := own_form hown'
      have hpl : (P ++ [a]).length = s + 1 := by rw [List.length_append, hs.out]; rfl
      have HBX : Hid (∀ W, Below w6.heap.size w6 W → Boxed W B 3 (.int .i64 (n : Int)) ∧ Boxed W (B + 1) 3 (.int .i64 (j : Int))) := fun W b => ⟨boxBelow (boxLow hm hb6 (by omega)) b, boxBelow (boxLow hk hb6 (by omega)) b⟩
      have HREL : Hid (∀ W, Below w6.heap.size w6 W → ∃ (n j T : Nat) (P : List Nat) (oa : Option Addr) (oc : Nat), Value.int .i64 (a : Int) = .int .i64 (T : Int) ∧ Value.slice xa (s + 1) xc = .slice oa P.length oc ∧ n < 9223372036854775808 ∧ j ≤ 30 ∧ ((n ≤ 1000000000 ∧ T ≤ 1000000030) ∨ T ≤ 61) ∧ Hid (n < chs T j) ∧ Hid (Z = P ++ casL j n) ∧ ((W.setCell ⟨B, 0, none⟩ (.int .i64 (q : Int))).setCell ⟨B + 1, 0, none⟩ (.int .i64 (i : Int))).ownsRow (B + 2) 3 1 (.slice oa P.length oc) P.length (nz P) ∧ Boxed ((W.setCell ⟨B, 0, none⟩ (.int .i64 (q : Int))).setCell ⟨B + 1, 0, none⟩ (.int .i64 (i : Int))) B 3 (.int .i64 (n : Int)) ∧ Boxed ((W.setCell ⟨B, 0, none⟩ (.int .i64 (q : Int))).setCell ⟨B + 1, 0, none⟩ (.int .i64 (i : Int))) (B + 1) 3 (.int .i64 (j : Int)) ∧ Below B w ((W.setCell ⟨B, 0, none⟩ (.int .i64 (q : Int))).setCell ⟨B + 1, 0, none⟩ (.int .i64 (i : Int)))) := fun W b => by
        obtain ⟨hmW, hkW⟩ := HBX.out W b
        have hbW : Below B w W := (hB.trans (hb6.mono (by omega))).trans (b.mono (by have := hb6.size; omega))
        refine ⟨q, i, a, P ++ [a], xa, xc, rfl, by rw [hpl], by omega, by omega, by omega, HRS, HP2, ?_, ?_, ?_, (hbW.setCell (p := ⟨B, 0, none⟩) (Nat.le_refl _) _).setCell (p := ⟨B + 1, 0, none⟩) (Nat.le_succ _) _⟩
        · rw [hpl]
          refine own_keep (w := W) (own_keep hown' fun k h1 h2 => b.block k h2) fun k h1 h2 => ?_
          rw [heap_setCell_other _ _ _ _ (by show k ≠ B + 1; omega), heap_setCell_other _ _ _ _ (by show k ≠ B; omega)]
        · exact boxAway (hmW.set _) _ _ (by simp)
        · exact (boxAway hkW _ _ (by simp)).set _
      clear HS CS hown hown' hgrow hm hk hmc hq
      go_wp2_with fail
      refine wp_region_noPanic ?_
      refine wp_region_held_drew (S := fun W : World => W.cell? ⟨B + 1, 0, none⟩ = some (.int .i64 (j : Int))) (by kernel_rfl) ((HBX.out _ (Below.refl _ w6).drew).2.cell) (fun hSx => ?_)
      have d0 : Below w6.heap.size w6 w6.drew := (Below.refl _ w6).drew
      refine wpAnyH_take (i := 1) (v := .int .i64 (a : Int)) rfl (by kernel_rfl) (by kernel_rfl) (by kernel_rfl) (fun _ _ _ h => h) (Or.inl ⟨by rfl, fun w' hSw => by (try dsimp only at hSw); have hs0 := hSw; go_simp⟩) hSx ?_
      try simp only [Act.put, List.setIfInBounds_toArray]
      refine wpAnyH_take (i := 2) (v := .int .i64 (j : Int)) rfl (by kernel_rfl) (by kernel_rfl) (by kernel_rfl) (fun _ _ _ h => h) (Or.inl ⟨by rfl, fun w' hSw => by (try dsimp only at hSw); have hs0 := hSw; go_simp⟩) hSx ?_
      try simp only [Act.put]
      refine wpAnyH_ready (rs := [0, 3]) (by kernel_rfl) (by simp) ?_
      refine AllReadyH.cons rfl (fun J hJ => ?_) (AllReadyH.cons rfl (fun J hJ => ?_) AllReadyH.nil)
      · have hc5 := (HBX.out _ d0).1.cell
        go_simp
        refine hJ.out _ _ ((HBX.out _ d0).2.cell) (fun hSx => ?_)
        clear hJ J
        try simp only [Act.put, List.setIfInBounds_toArray, List.set_cons_zero, List.set_cons_succ]
        refine wpAnyH_ready (rs := [3]) (by kernel_rfl) (by simp) ?_
        refine AllReadyH.cons rfl (fun J hJ => ?_) AllReadyH.nil
        go_simp
        refine (CW.out _).mono ?_
        rintro e w1 ⟨rfl, rfl⟩
        go_wp2_with fail
        refine hJ.out _ _ ((HBX.out _ d0).2.cell) (fun hSx => ?_)
        clear hJ J
        try simp only [Act.put, List.setIfInBounds_toArray, List.set_cons_zero, List.set_cons_succ]
        refine wpAnyH_take (i := 4) (v := .int .i64 (q : Int)) rfl (by kernel_rfl) (by kernel_rfl) (by kernel_rfl) (fun _ _ _ h => h) (Or.inl ⟨by rfl, fun w' hSw => by (try dsimp only at hSw); have hs0 := hSw; go_simp⟩) hSx ?_
        try simp only [Act.put, List.setIfInBounds_toArray]
        refine wpAnyH_ready (rs := [5]) (by kernel_rfl) (by simp) ?_
        refine AllReadyH.cons rfl (fun J hJ => ?_) AllReadyH.nil
        obtain ⟨hm6, hk6⟩ := HBX.out _ d0
        have hc6 := hm6.cell
        have hf6 := hm6.frozen
        have hc7 : (World.setCell w6.drew ⟨B, 0, none⟩ (.int .i64 (q : Int))).cell? ⟨B + 1, 0, none⟩ = some (.int .i64 (j : Int)) := (World.cell?_setCell_other _ _ _ _ (by simp)).trans hk6.cell
        have hf7 : (World.setCell w6.drew ⟨B, 0, none⟩ (.int .i64 (q : Int))).frozen? ⟨B + 1, 0, none⟩ = false := (World.frozen?_setCell _ _ _ _).trans hk6.frozen
        have hc8 : (World.setCell w6 ⟨B, 0, none⟩ (.int .i64 (q : Int))).drew.cell? ⟨B + 1, 0, none⟩ = some (.int .i64 (j : Int)) := hc7
        have hf8 : (World.setCell w6 ⟨B, 0, none⟩ (.int .i64 (q : Int))).drew.frozen? ⟨B + 1, 0, none⟩ = false := hf7
        go_simp
        refine hJ.out _ _ hc7 (fun hSx => ?_)
        clear hJ J
        try simp only [Act.put, List.setIfInBounds_toArray, List.set_cons_zero, List.set_cons_succ]
        refine wpAnyH_done (by kernel_rfl) ?_ _
        refine NoPanic.normal ?_
        clear hSx hc5 hc6 hf6 hm6 hk6
        go_simp
        go_wp2
        go_roundw
        case rel => exact HREL.out _ d0
        case measure => simp [intOf]; omega
      · go_simp
        refine (CW.out _).mono ?_
        rintro e w1 ⟨rfl, rfl⟩
        go_wp2_with fail
        refine hJ.out _ _ ((HBX.out _ d0).2.cell) (fun hSx => ?_)
        clear hJ J
        try simp only [Act.put, List.setIfInBounds_toArray, List.set_cons_zero, List.set_cons_succ]
        refine wpAnyH_ready (rs := [0]) (by kernel_rfl) (by simp) ?_
        refine AllReadyH.cons rfl (fun J hJ => ?_) AllReadyH.nil
        have hc5 := (HBX.out _ d0).1.cell
        go_simp
        refine hJ.out _ _ ((HBX.out _ d0).2.cell) (fun hSx => ?_)
        clear hJ J
        try simp only [Act.put, List.setIfInBounds_toArray, List.set_cons_zero, List.set_cons_succ]
        refine wpAnyH_take (i := 4) (v := .int .i64 (q : Int)) rfl (by kernel_rfl) (by kernel_rfl) (by kernel_rfl) (fun _ _ _ h => h) (Or.inl ⟨by rfl, fun w' hSw => by (try dsimp only at hSw); have hs0 := hSw; go_simp⟩) hSx ?_
        try simp only [Act.put, List.setIfInBounds_toArray]
        refine wpAnyH_ready (rs := [5]) (by kernel_rfl) (by simp) ?_
        refine AllReadyH.cons rfl (fun J hJ => ?_) AllReadyH.nil
        obtain ⟨hm6, hk6⟩ := HBX.out _ d0
        have hc6 := hm6.cell
        have hf6 := hm6.frozen
        have hc7 : (World.setCell w6.drew ⟨B, 0, none⟩ (.int .i64 (q : Int))).cell? ⟨B + 1, 0, none⟩ = some (.int .i64 (j : Int)) := (World.cell?_setCell_other _ _ _ _ (by simp)).trans hk6.cell
        have hf7 : (World.setCell w6.drew ⟨B, 0, none⟩ (.int .i64 (q : Int))).frozen? ⟨B + 1, 0, none⟩ = false := (World.frozen?_setCell _ _ _ _).trans hk6.frozen
        have hc8 : (World.setCell w6 ⟨B, 0, none⟩ (.int .i64 (q : Int))).drew.cell? ⟨B + 1, 0, none⟩ = some (.int .i64 (j : Int)) := hc7
        have hf8 : (World.setCell w6 ⟨B, 0, none⟩ (.int .i64 (q : Int))).drew.frozen? ⟨B + 1, 0, none⟩ = false := hf7
        go_simp
        refine hJ.out _ _ hc7 (fun hSx => ?_)
        clear hJ J
        try simp only [Act.put, List.setIfInBounds_toArray, List.set_cons_zero, List.set_cons_succ]
        refine wpAnyH_done (by kernel_rfl) ?_ _
        refine NoPanic.normal ?_
        clear hSx hc5 hc6 hf6 hm6 hk6
        go_simp
        go_wp2
        go_roundw
        case rel => exact HREL.out _ d0
        case measure => simp [intOf]; omega
end Go.Proofs.Ytmogmkdcplgfjab
