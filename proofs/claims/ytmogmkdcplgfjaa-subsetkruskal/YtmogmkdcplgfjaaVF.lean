/- The law SubsetKruskal over the contracts. -/
import Derived.Test.YtmogmkdcplgfjaaVE
namespace Go.Proofs.Ytmogmkdcplgfjaa
open Go.RowKit

theorem toN_back (M : List Nat) : toN (M.map Int.ofNat) = M := by
  unfold toN
  rw [List.map_map]
  exact List.map_id'' (fun x => Int.toNat_natCast x) M
theorem fm_list {m : Nat} {M : List Nat} (hm : m ≤ 12) (hl : M.length ≤ 4096) (hr : M.Pairwise (· < ·)) (hb : ∀ x ∈ M, x < 2 ^ m) : fmF m (M.map Int.ofNat) = 0 := by
  unfold fmF
  rw [if_neg (by omega), Int.toNat_natCast]
  refine riF_good (by rw [List.length_map]; omega) (fun i hi => ?_) fun i h1 hi => ?_
  · rw [List.length_map] at hi
    have := hb _ (mem_getD hi)
    rw [nat_at]
    omega
  · rw [List.length_map] at hi
    have := Rises.of_pair hr i h1 hi
    rw [nat_at, nat_at]
    omega
theorem filt_take {p : Nat → Bool} {M : List Nat} {i : Nat} (hi : i < M.length) : (M.take (i + 1)).filter p = (M.take i).filter p ++ if p (M.getD i 0) = true then [M.getD i 0] else [] := by
  rw [List.take_add_one, List.getElem?_eq_getElem hi, List.filter_append, List.getD_eq_getElem?_getD, List.getElem?_eq_getElem hi]
  congr 1
  show List.filter p [M[i]] = if p M[i] = true then [M[i]] else []
  cases e : p M[i] with
  | true => rw [List.filter_cons_of_pos e]; rfl
  | false => rw [List.filter_cons_of_neg (by rw [e]; decide)]; rfl
set_option maxRecDepth 100000 in
set_option maxHeartbeats 16000000 in
theorem Kruskal_law (FC : FCascade) (FR : FRank) (FK : FCheck) (FS : FShadow) (FL : FLeast) (n : Int) (l : List Int) (v : Value) (k : Int) (w : World) (h : Sw w v l) :
    Calls Try.prog 7 #[.int .i64 n, v, .int .i64 k] w fun e w' => e = .returned (.bool true) ∧ Below w.heap.size w w' := by
  obtain ⟨i3, ki3, kz0, kz1, kz2⟩ := info3
  have HS : Hid (∀ W, Below w.heap.size w W → Sw W v l) := fun W b => h.below b
  have H30 : Hid (∀ W, Calls Try.prog 30 #[] W fun e w' => e = .returned (.bool true) ∧ Below W.heap.size W w') := fun W => subsetFact_any FC FR W
  have H16 : Hid (∀ W, Below w.heap.size w W → Calls Try.prog 16 #[.int .i64 n, v] W fun e w' => e = .returned (.int .i64 (fmF n l : Int)) ∧ Below W.heap.size W w') := fun W b => FK n l v W (HS.out W b)
  have hB : Below w.heap.size w w := Below.refl _ _
  by_cases h0 : fmF n l = 0
  · obtain ⟨m, rfl, hm, h1, h2, h3, h4⟩ := fm_ok h0
    rw [h0] at H16
    by_cases hk1 : k < 1
    · have hd1 : decide (k < 1) = true := by simpa using hk1
      clear h h0 hk1 h1 h2 h3 h4
      go_enter Try.func7, Try.ntmps7
      go_wp2_with (first
        | (go_at_call 30; refine (H30.out _).mono ?_; rintro e wa ⟨rfl, bb⟩; replace hB := hB.trans (bb.mono hB.size))
        | (go_at_call 16; refine (H16.out _ hB).mono ?_; rintro e wa ⟨rfl, bb⟩; replace hB := hB.trans (bb.mono hB.size))
        | go_in)
      go_ret
      exact ⟨rfl, hB⟩
    · have hd1 : decide (k < 1) = false := by simpa using hk1
      by_cases hk2 : 12 < k
      · have hd2 : decide (12 < k) = true := by simpa using hk2
        clear h h0 hk1 hk2 h1 h2 h3 h4
        go_enter Try.func7, Try.ntmps7
        go_wp2_with (first
          | (go_at_call 30; refine (H30.out _).mono ?_; rintro e wa ⟨rfl, bb⟩; replace hB := hB.trans (bb.mono hB.size))
          | (go_at_call 16; refine (H16.out _ hB).mono ?_; rintro e wa ⟨rfl, bb⟩; replace hB := hB.trans (bb.mono hB.size))
          | go_in)
        go_ret
        exact ⟨rfl, hB⟩
      · have hd2 : decide (12 < k) = false := by simpa using hk2
        obtain ⟨K, rfl⟩ : ∃ K : Nat, k = K := ⟨k.toNat, by omega⟩
        obtain ⟨M, HM⟩ : ∃ M, Hid (toN l = M) := ⟨_, rfl⟩
        rw [HM.out] at h1 h2 h3
        have hpw := h3.pair
        have hbd : ∀ x ∈ M, x < 2 ^ m := fun x hx => by
          obtain ⟨i, hi, e⟩ := List.getElem_of_mem hx
          have := h2 i hi
          rw [List.getD_eq_getElem?_getD, List.getElem?_eq_getElem hi] at this
          rw [← e]; exact this
        have h12 : 2 ^ m ≤ 2 ^ 12 := Nat.pow_le_pow_right (by decide) hm
        have HW : Hid (∀ W, Below w.heap.size w W → Wd W v M) := fun W b => by rw [← HM.out]; exact (HS.out W b).toN h4
        have H31 : Hid (∀ i, i < M.length → ∀ W, Calls Try.prog 31 #[.int .i64 ((M.getD i 0 : Nat) : Int)] W fun e w' => e = .returned (.int .i64 ((wgt m (M.getD i 0) : Nat) : Int)) ∧ w' = W) := fun i hi W => by
          have := h2 i hi
          have h5 := Things_any (M.getD i 0) W (by omega)
          rw [th_is hm this] at h5
          exact h5
        obtain ⟨F, HF⟩ : ∃ F : Nat → Bool, Hid ((fun x => wgt m x == K) = F) := ⟨_, rfl⟩
        have HFA : Hid (∀ x, F x = (wgt m x == K)) := fun x => by rw [← HF.out]
        have HFT : Hid (∀ i, i < M.length → (M.take (i + 1)).filter F = (M.take i).filter F ++ if F (M.getD i 0) = true then [M.getD i 0] else []) := fun i hi => filt_take hi
        have hPs : ((M.take M.length).filter F) = M.filter F := by rw [List.take_of_length_le (Nat.le_refl _)]
        have hsub : (M.filter F).Sublist M := List.filter_sublist
        have hpl := hsub.length_le
        have hPp : (M.filter F).Pairwise (· < ·) := hpw.sublist hsub
        have hPb : ∀ x ∈ M.filter F, x < 2 ^ m := fun x hx => hbd x (hsub.subset hx)
        have hPw : ∀ x ∈ M.filter F, wgt m x = K := fun x hx => by
          have := (List.mem_filter.1 hx).2
          rw [HFA.out] at this
          exact eq_of_beq this
        have hkk := kruskal hm (by omega) (by omega) hPp hPb hPw
        have hfm := fm_list hm (by omega) hPp hPb
        have H17 : Hid (∀ W u, Wd W u (M.filter F) → Calls Try.prog 17 #[.int .i64 (m : Int), u] W fun e w' => (∃ y, e = .returned (.tuple #[y, .int .i64 0]) ∧ Wd w' y (shL m (M.filter F))) ∧ Below W.heap.size W w') := fun W u hu => by
          have := FS (m : Int) ((M.filter F).map Int.ofNat) u W (hu.sw (by omega))
          have e1 : shZ (m : Int) ((M.filter F).map Int.ofNat) = shL m (M.filter F) := by unfold shZ; rw [if_pos hfm, Int.toNat_natCast, toN_back]
          rw [hfm, e1] at this
          exact this
        have hce : caE ((M.filter F).length : Int) (K : Int) = 0 := by unfold caE; rw [if_neg (by omega), if_neg (by omega)]
        have H24 : Hid (∀ W, Calls Try.prog 24 #[.int .i64 ((M.filter F).length : Int), .int .i64 (K : Int)] W fun e w' => e = .returned (.tuple #[.int .i64 (leN K (casL K (M.filter F).length) : Int), .int .i64 0]) ∧ Below W.heap.size W w') := fun W => by
          have := FL ((M.filter F).length : Int) (K : Int) W
          have e1 : lsZ ((M.filter F).length : Int) (K : Int) = leN K (casL K (M.filter F).length) := by unfold lsZ; rw [if_pos hce, Int.toNat_natCast, Int.toNat_natCast]
          rw [hce, e1] at this
          exact this
        obtain ⟨Q, HQ⟩ : ∃ Q, Hid (M.filter F = Q) := ⟨_, rfl⟩
        rw [HQ.out] at hpl hkk H17 H24 hPs
        obtain ⟨S, HSh⟩ : ∃ S, Hid (shL m Q = S) := ⟨_, rfl⟩
        obtain ⟨z, Hz⟩ : ∃ z, Hid (leN K (casL K Q.length) = z) := ⟨_, rfl⟩
        obtain ⟨c, Hc⟩ : ∃ c, Hid (S.length = c) := ⟨_, rfl⟩
        rw [Hz.out, HSh.out, Hc.out] at hkk
        rw [HSh.out] at H17
        rw [Hz.out] at H24
        have hdz : decide (z ≤ c) = true := by simpa using hkk
        obtain ⟨s, Hs⟩ : ∃ s, Hid (M.length = s) := ⟨_, rfl⟩
        have HPS : Hid ((M.take s).filter F = Q) := by show _ = _; rw [← Hs.out]; exact hPs
        rw [Hs.out] at h1 H31 HFT hpl
        obtain ⟨a, c0, hv⟩ : ∃ a c0, v = .slice a s c0 := by obtain ⟨a, c, e, -⟩ := HW.out w hB; exact ⟨a, c, by rw [e, Hs.out]⟩
        subst hv
        have HCE : Hid (∀ W, Below w.heap.size w W → ∀ i, i < s → ∃ b off, a = some ⟨b, off, none⟩ ∧ W.cell? ⟨b, off + i, none⟩ = some (.int .i64 ((M.getD i 0 : Nat) : Int))) := fun W bW i hi => by
          obtain ⟨a', c', e, -, hc⟩ := HW.out W bW
          cases e
          exact hc i (by rw [Hs.out]; exact hi)
        clear h h0 hk1 hk2 h2 h3 h4 hpw hbd hPs hsub hPp hPb hPw hfm hce hkk
        go_enter Try.func7, Try.ntmps7
        go_wp2_with (first
          | (go_at_call 30; refine (H30.out _).mono ?_; rintro e wa ⟨rfl, bb⟩; replace hB := hB.trans (bb.mono hB.size))
          | (go_at_call 16; refine (H16.out _ hB).mono ?_; rintro e wa ⟨rfl, bb⟩; replace hB := hB.trans (bb.mono hB.size))
          | go_in)
        go_loopw [9, 10] (fun ov iv wr => ∃ (i : Nat) (P : List Nat) (oa : Option Addr) (oc : Nat), iv = .int .i64 (i : Int) ∧ ov = .slice oa P.length oc ∧ i ≤ s ∧ Hid ((M.take i).filter F = P) ∧ P.length ≤ i ∧ wr.ownsRow w.heap.size 3 1 (.slice oa P.length oc) P.length (nz P) ∧ Below w.heap.size w wr) (fun _ iv _ => (s - intOf iv).toNat)
        case atStart => exact ⟨0, [], none, 0, rfl, rfl, by omega, rfl, Nat.le_refl _, World.ownsRow_nil _ _ _ _, hB⟩
        case round =>
          clear hB
          obtain ⟨i, P, oa, oc, rfl, rfl, hi, HP, hpi, hown, hB⟩ := hrel
          by_cases hlt : i < s
          · have hdi : decide ((i : Int) < (s : Int)) = true := by simp; omega
            have hii : (i : Int) < (s : Int) := by omega
            obtain ⟨b1, o1, rfl, c1⟩ := HCE.out wr hB i hlt
            have C := H31.out i hlt
            have hft := HFT.out i hlt
            rw [HP.out, HFA.out] at hft
            obtain ⟨x, hx⟩ : ∃ x, Hid (M.getD i 0 = x) := ⟨_, rfl⟩
            rw [hx.out] at c1 C hft
            obtain ⟨t, ht⟩ : ∃ t, Hid (wgt m x = t) := ⟨_, rfl⟩
            rw [ht.out] at C hft
            have hbs := hB.size
            obtain ⟨k, hk⟩ : ∃ k, Hid (P.length = k) := ⟨_, rfl⟩
            by_cases htk : t = K
            · have hte : ((t : Int) == (K : Int)) = true := by simp; omega
              rw [if_pos (by simp [htk])] at hft
              have HP2 : Hid ((M.take (i + 1)).filter F = P ++ [x]) := hft
              have hpl2 : (P ++ [x]).length = k + 1 := by rw [List.length_append, hk.out]; rfl
              rw [hk.out] at hown hpi ⊢
              clear hft htk
              go_wp2_with (first
                | (go_at_call 31; refine (C _).mono ?_; rintro e w2 ⟨rfl, hw⟩; subst w2)
                | (at_builtin; refine wpList_append_own _ rfl _ _ 22 rfl w.heap.size 3 i3 (.int .i64 0) 1 8 und22 ki3 kz0 kz1 kz2 rfl (by decide) _ _ _ rfl (hown.alloc _) ⟨wr.heap.size, 0, none⟩ 1 1 [.int .i64 (x : Int)] rfl rfl ?c1 ?c2 ?c3 ?c4 ?c5 ?_)
                | go_in)
              case c1 =>
                intro j u hj
                match j, hj with
                | 0, hj => simp at hj; subst hj; simp [Addr.add]
              case c2 => intro u hu; simp at hu; subst hu; rfl
              case c3 => unfold maxLen; omega
              case c4 => omega
              case c5 => simp; omega
              intro v' w6 hown' hgrow _
              have hb6 : Below w.heap.size w w6 := (hB.alloc hbs _).grown hgrow (by simp; omega) (fun k hk => (hown.lt k hk).1)
              rw [show nz P ++ [Value.int .i64 (x : Int)] = nz (P ++ [x]) from (nz_more P x).symm] at hown'
              obtain ⟨xa, xc, rfl⟩ := own_form hown'
              go_wp2
              go_roundw
              case rel => exact ⟨i + 1, P ++ [x], xa, xc, by go_num, by rw [hpl2], by omega, HP2, by omega, by rw [hpl2]; exact hown', hb6⟩
              case measure => simp [intOf]; omega
            · have hte : ((t : Int) == (K : Int)) = false := by simp; omega
              rw [if_neg (by simp [htk]), List.append_nil] at hft
              have HP2 : Hid ((M.take (i + 1)).filter F = P) := hft
              clear hft htk
              go_wp2_with (go_at_call 31; refine (C _).mono ?_; rintro e w2 ⟨rfl, hw⟩; subst w2)
              go_roundw
              case rel => exact ⟨i + 1, P, oa, oc, by go_num, rfl, by omega, HP2, by omega, hown, hB⟩
              case measure => simp [intOf]; omega
          · have hdi : decide ((i : Int) < (s : Int)) = false := by simp; omega
            obtain rfl : i = s := by omega
            have hPQ : P = Q := by rw [← HP.out]; exact HPS.out
            subst hPQ
            have hWQ : Wd wr (.slice oa P.length oc) P := (show ORow wr w.heap.size (.slice oa P.length oc) P from hown).own
            obtain ⟨k, hk⟩ : ∃ k, Hid (P.length = k) := ⟨_, rfl⟩
            rw [hk.out] at H24 hWQ ⊢
            clear hown
            go_wp2_with (first
              | (go_at_call 17; refine (H17.out _ _ hWQ).mono ?_; rintro e wa ⟨⟨y1, rfl, hy1⟩, bb⟩; replace hB := hB.trans (bb.mono hB.size); obtain ⟨ya, yc, rfl⟩ := hy1.len Hc.out; clear hy1 hWQ)
              | (go_at_call 24; refine (H24.out _).mono ?_; rintro e wa ⟨rfl, bb⟩; replace hB := hB.trans (bb.mono hB.size))
              | go_in)
            go_ret
            exact ⟨rfl, hB⟩
  · obtain ⟨f, Hf⟩ : ∃ f, Hid (fmF n l = f) := ⟨_, rfl⟩
    rw [Hf.out] at H16 h0
    have hf0 : ((f : Int) != 0) = true := by simp; omega
    clear h h0
    go_enter Try.func7, Try.ntmps7
    go_wp2_with (first
      | (go_at_call 30; refine (H30.out _).mono ?_; rintro e wa ⟨rfl, bb⟩; replace hB := hB.trans (bb.mono hB.size))
      | (go_at_call 16; refine (H16.out _ hB).mono ?_; rintro e wa ⟨rfl, bb⟩; replace hB := hB.trans (bb.mono hB.size))
      | go_in)
    go_ret
    exact ⟨rfl, hB⟩
end Go.Proofs.Ytmogmkdcplgfjaa
