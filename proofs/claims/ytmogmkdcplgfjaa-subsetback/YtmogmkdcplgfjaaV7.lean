/- The document's CascadeOf and LeastOf, walked. -/
import Derived.Test.YtmogmkdcplgfjaaV6
namespace Go.Proofs.Ytmogmkdcplgfjaa
open Go.RowKit

def caE (m k : Int) : Nat := if m < 0 ∨ k < 1 ∨ 30 < k then 1 else if 1000000000 < m then 3 else 0
def caZ (m k : Int) : List Nat := if caE m k = 0 then casL k.toNat m.toNat else []
theorem cas_step {k m : Nat} (hk : 0 < k) (hm : 0 < m) : casL k m = topN k m :: casL (k - 1) (m - chs (topN k m) k) := by
  obtain ⟨j, rfl⟩ : ∃ j, k = j + 1 := ⟨k - 1, by omega⟩
  conv => lhs; unfold casL
  rw [if_neg (by omega)]
  rfl
theorem cas_stop {k m : Nat} (h : k = 0 ∨ m = 0) : casL k m = [] := by
  cases k with
  | zero => rfl
  | succ k =>
    unfold casL
    rw [if_pos (by omega)]
set_option maxRecDepth 100000 in
set_option maxHeartbeats 16000000 in
theorem cascade_in (m k : Nat) (w : World) (hm : m ≤ 1000000000) (hk : 1 ≤ k) (hk30 : k ≤ 30) :
    Calls Try.prog 25 #[.int .i64 (m : Int), .int .i64 (k : Int)] w fun e w' => (∃ y, e = .returned (.tuple #[y, .int .i64 0]) ∧ Wd w' y (casL k m)) ∧ Below w.heap.size w w' := by
  obtain ⟨i3, ki3, kz0, kz1, kz2⟩ := info3
  have hd0 : decide ((m : Int) < 0) = false := by simp
  have hd1 : decide ((k : Int) < 1) = false := by simp; omega
  have hd2 : decide ((30 : Int) < (k : Int)) = false := by simp; omega
  have hd3 : decide ((1000000000 : Int) < (m : Int)) = false := by simp; omega
  obtain ⟨Z, HZ⟩ : ∃ Z, Hid (casL k m = Z) := ⟨_, rfl⟩
  have H0 : Hid (Z = [] ++ casL k m) := HZ.out.symm
  have hZl : Z.length ≤ 30 := by rw [← HZ.out]; exact Nat.le_trans (cas_len k m) hk30
  have HBI : Hid (∀ (a b : Nat) (W : World), a ≤ 2000000000 → b ≤ 30 → Calls Try.prog 45 #[.int .i64 (a : Int), .int .i64 (b : Int)] W fun e w' => e = .returned (.int .i64 (bnN a b : Int)) ∧ w' = W) := fun a b W h1 h2 => binomial_any a b W h1 h2
  rw [HZ.out]
  go_enter Try.func25, Try.ntmps25
  go_wp2
  go_loopw [0, 1, 6] (fun mv kv ov wr => ∃ (n j : Nat) (P : List Nat) (oa : Option Addr) (oc : Nat), mv = .int .i64 (n : Int) ∧ kv = .int .i64 (j : Int) ∧ ov = .slice oa P.length oc ∧ n ≤ 1000000000 ∧ j ≤ 30 ∧ Hid (Z = P ++ casL j n) ∧ wr.ownsRow w.heap.size 3 1 (.slice oa P.length oc) P.length (nz P) ∧ Below w.heap.size w wr) (fun _ kv _ _ => (intOf kv).toNat)
  case atStart => exact ⟨m, k, [], none, 0, rfl, rfl, rfl, hm, hk30, H0.out, World.ownsRow_nil _ _ _ _, Below.refl _ _⟩
  case round =>
    obtain ⟨n, j, P, oa, oc, rfl, rfl, rfl, hn, hj, HP, hown, hB⟩ := hrel
    have hPl : P.length ≤ 30 := by
      have := congrArg List.length HP.out
      rw [List.length_append] at this
      omega
    obtain ⟨s, hs⟩ : ∃ s, Hid (P.length = s) := ⟨_, rfl⟩
    rcases Nat.lt_or_ge 0 n with hn0 | hn0
    · have hdn : decide (0 < n) = true := by simpa using hn0
      rcases Nat.lt_or_ge 0 j with hj0 | hj0
      · have hdj : decide (0 < j) = true := by simpa using hj0
        have hst := cas_step hj0 hn0
        have hge := top_ge (k := j) (m := n) hj0 hn0
        have hle := top_le (k := j) (m := n) hj0
        have HIF : Hid (∀ x, chs x j ≤ n ↔ x ≤ topN j n) := top_iff hj0
        obtain ⟨a, Ha⟩ : ∃ a, Hid (topN j n = a) := ⟨_, rfl⟩
        rw [Ha.out] at hst hge hle HIF
        have hca := (HIF.out a).2 (Nat.le_refl _)
        obtain ⟨c, Hc⟩ : ∃ c, Hid (chs a j = c) := ⟨_, rfl⟩
        rw [Hc.out] at hst hca
        have HST : Hid (casL j n = a :: casL (j - 1) (n - c)) := hst
        have hsum : IntKind.i64.wrap ((j : Int) + (n : Int)) = (j : Int) + (n : Int) := IntWalk.i64_in _ (by omega)
        rw [hs.out] at hown hPl ⊢
        clear hst
        go_wp2
        go_loopw [7, 8] (fun lv hv wr' => ∃ (lo hi : Nat), lv = .int .i64 (lo : Int) ∧ hv = .int .i64 (hi : Int) ∧ j ≤ lo ∧ lo ≤ a ∧ a ≤ hi ∧ hi ≤ j + n ∧ wr' = wr) (fun lv hv _ => (intOf hv - intOf lv).toNat)
        case atStart => exact ⟨j, j + n, rfl, by go_num, by omega, by omega, by omega, by omega, rfl⟩
        case round =>
          obtain ⟨lo, hi, rfl, rfl, hjl, hla, hah, hhi, e1⟩ := hrel
          subst e1
          by_cases hlt : lo < hi
          · have hdl : decide (lo < hi) = true := by simpa using hlt
            obtain ⟨d, Hd⟩ : ∃ d, Hid ((lo + hi + 1) / 2 = d) := ⟨_, rfl⟩
            have ed : ((lo : Int) + (hi : Int) + 1).tdiv 2 = (d : Int) := by rw [← Hd.out]; rfl
            have hd1 : lo < d := by have := Hd.out; omega
            have hd2 : d ≤ hi := by have := Hd.out; omega
            have C := HBI.out d j wr (by omega) hj
            have hif := HIF.out d
            have hsw : IntKind.i64.wrap ((lo : Int) + (hi : Int)) = (lo : Int) + (hi : Int) := IntWalk.i64_in _ (by omega)
            have hsw2 : IntKind.i64.wrap ((lo : Int) + (hi : Int) + 1) = (lo : Int) + (hi : Int) + 1 := IntWalk.i64_in _ (by omega)
            have hdw : IntKind.i64.wrap (d : Int) = (d : Int) := IntWalk.i64_in _ (by omega)
            have hdw2 : IntKind.i64.wrap ((d : Int) - 1) = (d : Int) - 1 := IntWalk.i64_in _ (by omega)
            have hmin : bnN d j ≤ n ↔ chs d j ≤ n := by unfold bnN; omega
            obtain ⟨q, Hq⟩ : ∃ q, Hid (bnN d j = q) := ⟨_, rfl⟩
            rw [Hq.out] at C hmin
            by_cases hle2 : q ≤ n
            · have hdq : decide (q ≤ n) = true := by simpa using hle2
              have hda := hif.1 (hmin.1 hle2)
              clear hif hmin
              go_wp2_with (go_at_call 45; refine C.mono ?_; rintro e w2 ⟨rfl, hw⟩; subst w2; clear C)
              go_roundw
              case rel => exact ⟨d, hi, rfl, rfl, by omega, hda, hah, hhi, trivial⟩
              case measure => simp [intOf]; omega
            · have hdq : decide (q ≤ n) = false := by simpa using hle2
              have hda : a < d := by
                rcases Nat.lt_or_ge a d with h | h
                · exact h
                · exact absurd (hmin.2 (hif.2 h)) hle2
              clear hif hmin
              go_wp2_with (go_at_call 45; refine C.mono ?_; rintro e w2 ⟨rfl, hw⟩; subst w2; clear C)
              go_roundw
              case rel => exact ⟨lo, d - 1, rfl, by go_num, hjl, hla, by omega, by omega, trivial⟩
              case measure => simp [intOf]; omega
          · have hdl : decide (lo < hi) = false := by simpa using hlt
            obtain rfl : lo = a := by omega
            have hbn : bnN lo j = c := by unfold bnN; rw [Hc.out]; omega
            have C := fun W => HBI.out lo j W (by omega) hj
            rw [hbn] at C
            have hbs := hB.size
            have hcw : IntKind.i64.wrap ((n : Int) - (c : Int)) = (n : Int) - (c : Int) := IntWalk.i64_in _ (by omega)
            have hjw : IntKind.i64.wrap ((j : Int) - 1) = (j : Int) - 1 := IntWalk.i64_in _ (by omega)
            clear hbn
            go_wp2_with (first
              | (at_builtin; refine wpList_append_own _ rfl _ _ 22 rfl w.heap.size 3 i3 (.int .i64 0) 1 8 und22 ki3 kz0 kz1 kz2 rfl (by decide) _ _ _ rfl (hown.alloc _) ⟨wr.heap.size, 0, none⟩ 1 1 [.int .i64 (lo : Int)] rfl rfl ?c1 ?c2 ?c3 ?c4 ?c5 ?_)
              | go_in)
            case c1 =>
              intro j u hj
              match j, hj with
              | 0, hj => simp at hj; subst hj; simp [Addr.add]
            case c2 => intro u hu; simp at hu; subst hu; rfl
            case c3 => unfold maxLen; omega
            case c4 => omega
            case c5 => simp; omega
            intro v' w6 hown' hgrow _
            have hb6 : Below w.heap.size w w6 := (hB.alloc hbs _).grown hgrow (by simp; omega) (fun k hk => (hown.lt k hk).1)
            rw [show nz P ++ [Value.int .i64 (lo : Int)] = nz (P ++ [lo]) from (nz_more P lo).symm] at hown'
            obtain ⟨xa, xc, rfl⟩ := own_form hown'
            have hpl : (P ++ [lo]).length = s + 1 := by rw [List.length_append, hs.out]; rfl
            have HP2 : Hid (Z = (P ++ [lo]) ++ casL (j - 1) (n - c)) := by show _ = _; rw [HP.out, HST.out]; simp
            go_wp2_with (go_at_call 45; refine (C _).mono ?_; rintro e w2 ⟨rfl, hw⟩; subst w2; clear C)
            go_roundw
            case rel => exact ⟨n - c, j - 1, P ++ [lo], xa, xc, by rw [Int.ofNat_sub hca], by rw [Int.ofNat_sub hj0]; rfl, by rw [hpl], by omega, by omega, HP2, by rw [hpl]; exact hown', hb6⟩
            case measure => simp [intOf]; omega
      · obtain rfl : j = 0 := by omega
        have HE : Hid (Z = P) := by show _ = _; rw [HP.out, cas_stop (.inl rfl), List.append_nil]
        have hO : ORow wr w.heap.size (.slice oa P.length oc) P := hown
        go_wp2
        go_ret2
        exact ⟨⟨_, rfl, by rw [HE.out]; exact hO.own⟩, hB⟩
    · obtain rfl : n = 0 := by omega
      have HE : Hid (Z = P) := by show _ = _; rw [HP.out, cas_stop (.inr rfl), List.append_nil]
      have hO : ORow wr w.heap.size (.slice oa P.length oc) P := hown
      go_wp2
      go_ret2
      exact ⟨⟨_, rfl, by rw [HE.out]; exact hO.own⟩, hB⟩
set_option maxRecDepth 100000 in
set_option maxHeartbeats 4000000 in
theorem CascadeOf_any (mm kk : Int) (w : World) :
    Calls Try.prog 25 #[.int .i64 mm, .int .i64 kk] w fun e w' => (∃ y, e = .returned (.tuple #[y, .int .i64 (caE mm kk : Int)]) ∧ Wd w' y (caZ mm kk)) ∧ Below w.heap.size w w' := by
  by_cases hb : mm < 0 ∨ kk < 1 ∨ 30 < kk
  · have e1 : caE mm kk = 1 := by unfold caE; rw [if_pos hb]
    have e2 : caZ mm kk = [] := by unfold caZ; rw [e1]; rfl
    rw [e1, e2]
    by_cases h1 : mm < 0
    · have hd1 : decide (mm < 0) = true := by simpa using h1
      clear hb h1
      go_enter Try.func25, Try.ntmps25
      go_wp2
      go_ret2
      exact ⟨⟨_, rfl, Wd.nil _⟩, Below.refl _ _⟩
    · have hd1 : decide (mm < 0) = false := by simpa using h1
      by_cases h2 : kk < 1
      · have hd2 : decide (kk < 1) = true := by simpa using h2
        clear hb h1 h2
        go_enter Try.func25, Try.ntmps25
        go_wp2
        go_ret2
        exact ⟨⟨_, rfl, Wd.nil _⟩, Below.refl _ _⟩
      · have hd2 : decide (kk < 1) = false := by simpa using h2
        have hd3 : decide (30 < kk) = true := by simp; omega
        clear hb h1 h2
        go_enter Try.func25, Try.ntmps25
        go_wp2
        go_ret2
        exact ⟨⟨_, rfl, Wd.nil _⟩, Below.refl _ _⟩
  · obtain ⟨m, rfl⟩ : ∃ m : Nat, mm = m := ⟨mm.toNat, by omega⟩
    obtain ⟨k, rfl⟩ : ∃ k : Nat, kk = k := ⟨kk.toNat, by omega⟩
    by_cases h3 : 1000000000 < m
    · have e1 : caE m k = 3 := by unfold caE; rw [if_neg hb, if_pos (by omega)]
      have e2 : caZ m k = [] := by unfold caZ; rw [e1]; rfl
      have hd0 : decide ((m : Int) < 0) = false := by simp
      have hd1 : decide ((k : Int) < 1) = false := by simp; omega
      have hd2 : decide ((30 : Int) < (k : Int)) = false := by simp; omega
      have hd3 : decide ((1000000000 : Int) < (m : Int)) = true := by simp; omega
      rw [e1, e2]
      clear hb h3
      go_enter Try.func25, Try.ntmps25
      go_wp2
      go_ret2
      exact ⟨⟨_, rfl, Wd.nil _⟩, Below.refl _ _⟩
    · have e1 : caE m k = 0 := by unfold caE; rw [if_neg hb, if_neg (by omega)]
      have e2 : caZ m k = casL k m := by unfold caZ; rw [if_pos e1, Int.toNat_natCast, Int.toNat_natCast]
      rw [e1, e2]
      exact cascade_in m k w (by omega) (by omega) (by omega)
end Go.Proofs.Ytmogmkdcplgfjaa
