/- The document's RankOf and UnrankOf, walked. -/
import Derived.Test.YtmogmkdcplgfjaaV2
import Derived.Test.YtmogmkdcplgfjaaSuU
namespace Go.Proofs.Ytmogmkdcplgfjaa
open Go.RowKit

theorem wyN_chs {n k : Nat} : wyN n k = chs n k := by
  unfold wyN
  by_cases h : k ≤ n
  · rw [if_pos (by omega), Int.toNat_natCast, Int.toNat_natCast]
  · rw [if_neg (by omega), chs_gt (by omega)]
set_option maxRecDepth 100000 in
set_option maxHeartbeats 4000000 in
theorem RankOf_any (M : List Nat) (v : Value) (w : World) (hv : Wd w v M) (hr : Rises M) (hl : M.length ≤ 30) (h60 : ∀ i, i < M.length → M.getD i 0 ≤ 60) :
    Calls Try.prog 11 #[v] w fun e w' => e = .returned (.int .i64 (rkS M M.length : Int)) ∧ Below w.heap.size w w' := by
  obtain ⟨a, c, rfl, -, hA⟩ := hv
  have HA : Hid (∀ W, Below w.heap.size w W → ∀ i, i < M.length → ∃ b off, a = some ⟨b, off, none⟩ ∧ W.cell? ⟨b, off + i, none⟩ = some (.int .i64 ((M.getD i 0 : Nat) : Int))) := fun W bW i hi => by
    obtain ⟨b, o, e, hc⟩ := hA i hi
    exact ⟨b, o, e, (bW.cell (World.block_lt_of_cell? _ _ hc)).trans hc⟩
  have HSM : Hid (∀ i, i ≤ M.length → rkS M i ≤ 2305843009213693952) := fun i hi => rkS_small hr h60 i hi
  have HC : Hid (∀ i, i < M.length → ∀ W, Calls Try.prog 33 #[.int .i64 ((M.getD i 0 : Nat) : Int), .int .i64 ((i : Int) + 1)] W fun e w' => e = .returned (.int .i64 (chs (M.getD i 0) (i + 1) : Int)) ∧ Below W.heap.size W w') := fun i hi W => by
    have h := Ways_any (M.getD i 0) ((i : Int) + 1) W (by have := h60 i hi; omega)
    rw [show (i : Int) + 1 = ((i + 1 : Nat) : Int) by omega, wyN_chs] at h
    exact h
  have HST : Hid (∀ i, rkS M (i + 1) = rkS M i + chs (M.getD i 0) (i + 1)) := fun i => rfl
  obtain ⟨z, Hz⟩ : ∃ z, Hid (rkS M M.length = z) := ⟨_, rfl⟩
  rw [Hz.out]
  obtain ⟨n, Hn⟩ : ∃ n, Hid (M.length = n) := ⟨_, rfl⟩
  rw [Hn.out] at HA HSM HC hl Hz ⊢
  clear hA h60
  go_enter Try.func11, Try.ntmps11
  go_wp2
  go_loopw [3, 4] (fun sv iv wr => ∃ (i s : Nat), iv = .int .i64 (i : Int) ∧ sv = .int .i64 (s : Int) ∧ i ≤ n ∧ Hid (rkS M i = s) ∧ Below w.heap.size w wr) (fun _ iv _ => (n - intOf iv).toNat)
  case atStart => exact ⟨0, 0, rfl, rfl, by omega, rfl, Below.refl _ _⟩
  case round =>
    obtain ⟨i, s, rfl, rfl, hi, HS, hB⟩ := hrel
    by_cases hlt : i < n
    · have hdi : decide ((i : Int) < (n : Int)) = true := by simp; omega
      have hii : (i : Int) < (n : Int) := by omega
      obtain ⟨b1, o1, rfl, c1⟩ := HA.out wr hB i hlt
      have C := HC.out i hlt wr
      have hst := HST.out i
      have hsm := HSM.out (i + 1) (by omega)
      rw [hst, HS.out] at hsm
      rw [HS.out] at hst
      obtain ⟨x, hx⟩ : ∃ x, Hid (chs (M.getD i 0) (i + 1) = x) := ⟨_, rfl⟩
      obtain ⟨y, hy⟩ : ∃ y, Hid (M.getD i 0 = y) := ⟨_, rfl⟩
      rw [hx.out] at C hst hsm
      rw [hy.out] at C c1
      have HS2 : Hid (rkS M (i + 1) = s + x) := hst
      have hsw : IntKind.i64.wrap ((s : Int) + (x : Int)) = (s : Int) + (x : Int) := IntWalk.i64_in _ (by omega)
      clear hst
      go_wp2_with (go_at_call 33; refine C.mono ?_; rintro e w2 ⟨rfl, hb2⟩; clear C)
      go_roundw
      case rel => exact ⟨i + 1, s + x, by go_num, by go_num, by omega, HS2, Below.next hB hb2⟩
      case measure => simp [intOf]; omega
    · have hdi : decide ((i : Int) < (n : Int)) = false := by simp; omega
      obtain rfl : i = n := by omega
      have HE : Hid (s = z) := by show _ = _; rw [← HS.out]; exact Hz.out
      go_wp2
      go_ret
      exact ⟨by rw [HE.out]; rfl, hB⟩
/-- What is laid so far: from that place on. -/
def unR (Z : List Nat) (i : Nat) : Nat → Nat := fun j => if j < i then 0 else Z.getD j 0
theorem unR_set (Z : List Nat) (i : Nat) : updV (unR Z (i + 1)) i (Z.getD i 0) = unR Z i := by
  funext t
  unfold updV unR
  by_cases e : t = i
  · rw [if_pos e, e, if_neg (Nat.lt_irrefl i)]
  · rw [if_neg e]
    by_cases h : t < i
    · rw [if_pos h, if_pos (by omega)]
    · rw [if_neg h, if_neg (by omega)]
def unE (k r : Int) : Nat := if k < 0 ∨ 30 < k ∨ r < 0 then 1 else if (chs 61 k.toNat : Int) ≤ r then 1 else 0
def unZ (k r : Int) : List Nat := if unE k r = 0 then unS k.toNat r.toNat 61 else []
set_option maxRecDepth 100000 in
set_option maxHeartbeats 16000000 in
theorem unrank_in (k r : Nat) (w : World) (hk : k ≤ 30) (hr61 : r ≤ 2305843009213693952) (all : Nat) (hall : r < all) (Hall : Hid (chs 61 k = all)) :
    Calls Try.prog 13 #[.int .i64 (k : Int), .int .i64 (r : Int)] w fun e w' => (∃ y, e = .returned (.tuple #[y, .int .i64 0]) ∧ Wd w' y (unS k r 61)) ∧ Below w.heap.size w w' := by
  have hdk : decide ((k : Int) < 0) = false := by simp
  have hdk2 : decide ((30 : Int) < (k : Int)) = false := by simp; omega
  have hdr : decide ((r : Int) < 0) = false := by simp
  have hdall : decide (all ≤ r) = false := by simpa using hall
  have C0 : Calls Try.prog 33 #[.int .i64 61, .int .i64 (k : Int)] w fun e w' => e = .returned (.int .i64 (all : Int)) ∧ Below w.heap.size w w' := by
    have h := Ways_any 61 (k : Int) w (Nat.le_refl _)
    rw [wyN_chs, Hall.out] at h
    exact h
  have hmk : ∀ w : World, (Instr.makeSlice 22 (.int .i64 (k : Int)) (.int .i64 (k : Int))).run Try.prog w = .ok (.slice (some ⟨w.heap.size, 0, none⟩) k k) (w.alloc (.cells (madeCells #[.int .i64 0] k) 3)) := fun w => run_makeN k (by omega) w
  have HCW : Hid (∀ (t i : Nat) W, t ≤ 60 → Calls Try.prog 33 #[.int .i64 (t : Int), .int .i64 (i : Int)] W fun e w' => e = .returned (.int .i64 (chs t i : Int)) ∧ Below W.heap.size W w') := fun t i W ht => by
    have h := Ways_any t (i : Int) W (by omega)
    rw [wyN_chs] at h
    exact h
  obtain ⟨Z, HZ⟩ : ∃ Z, Hid (unS k r 61 = Z) := ⟨_, rfl⟩
  have HZL : Hid (Z.length = k) := by show _ = _; rw [← HZ.out, unS_len]
  have HZ0 : Hid (Z.take k = unS k r 61) := by show _ = _; rw [HZ.out, List.take_of_length_le (by rw [HZL.out]; exact Nat.le_refl _)]
  have HST : Hid (∀ i r t, Z.take (i + 1) = unS (i + 1) r t → i < k → Z.take i = unS i (r - chs (fdT (i + 1) r (t - 1)) (i + 1)) (fdT (i + 1) r (t - 1)) ∧ Z.getD i 0 = fdT (i + 1) r (t - 1)) := fun i r t h hi => by
    have hlt : i < Z.length := by rw [HZL.out]; exact hi
    unfold unS at h
    rw [List.take_add_one, List.getElem?_eq_getElem hlt] at h
    have h2 := List.append_inj' h rfl
    refine ⟨h2.1, ?_⟩
    rw [List.getD_eq_getElem?_getD, List.getElem?_eq_getElem hlt]
    exact (List.cons.inj h2.2).1
  rw [HZ.out]
  have HWD : Hid (∀ W g (f : Nat → Nat), OwV 3 nV W g k f → (∀ j, j < k → Z.getD j 0 = f j) → Wd W (.slice (some ⟨g, 0, none⟩) k k) Z) := fun W g f h e => h.wd HZL.out (Nat.le_refl _) (Nat.le_refl _) e
  have HUP : Hid (∀ i, updV (unR Z (i + 1)) i (Z.getD i 0) = unR Z i) := unR_set Z
  have HMD : Hid (∀ (W : World) g, OwV 3 nV W g k (fun _ => 0) → OwV 3 nV W g k (unR Z k)) := fun W g h => h.congr fun j hj => by unfold unR; rw [if_pos hj]
  clear hall Hall HZ
  go_enter Try.func13, Try.ntmps13
  go_wp2_with (go_at_call 33; refine C0.mono ?_; rintro e w1 ⟨rfl, hb1⟩; clear C0; have hO0 : OwV 3 nV (w1.alloc (.cells (madeCells #[.int .i64 0] k) 3)) w1.heap.size k (unR Z k) := HMD.out _ _ (OwV.made (en := nV) k w1 (fun _ => 0) _ (by intro j; rfl)); have hB1 := Below.next hb1 (balloc w1 (.cells (madeCells #[.int .i64 0] k) 3)))
  obtain ⟨g, Hg⟩ : ∃ g, Hid (w1.heap.size = g) := ⟨_, rfl⟩
  have hgw : w.heap.size ≤ g := by rw [← Hg.out]; exact hb1.size
  rw [Hg.out] at hO0 ⊢
  go_loopw [1, 8, 9] (fun rv tv iv wr => ∃ (i s t : Nat), iv = .int .i64 (i : Int) ∧ rv = .int .i64 (s : Int) ∧ tv = .int .i64 ((t : Int) - 1) ∧ i ≤ k ∧ i ≤ t ∧ t ≤ 61 ∧ s ≤ 2305843009213693952 ∧ Hid (Z.take i = unS i s t) ∧ OwV 3 nV wr g k (unR Z i) ∧ Below w.heap.size w wr) (fun _ _ iv _ => (intOf iv).toNat)
  case atStart => exact ⟨k, r, 61, rfl, rfl, rfl, by omega, by omega, by omega, hr61, HZ0.out, hO0, hB1⟩
  case round =>
    clear hO0 hB1 hmk hb1
    obtain ⟨i, s, t, rfl, rfl, rfl, hi, hit, ht, hs, HI, hO, hB⟩ := hrel
    rcases Nat.lt_or_ge 0 i with hi0 | hi0
    · have hdi : decide (0 < i) = true := by simpa using hi0
      obtain ⟨p, Hp⟩ : ∃ p, Hid (i = p + 1) := ⟨i - 1, by show _ = _; omega⟩
      have hpi : p < i := by have := Hp.out; omega
      obtain ⟨u, rfl⟩ : ∃ u, t = u + 1 := ⟨t - 1, by omega⟩
      have hst := HST.out p s (u + 1) (by rw [← Hp.out]; exact HI.out) (by omega)
      rw [← Hp.out] at hst
      rw [Nat.add_sub_cancel] at hst
      have hge := fdT_ge (i := i) (r := s) (by omega) u (by omega)
      have hok := fdT_ok (i := i) (r := s) (by omega) u
      have hle := fdT_le i s u
      obtain ⟨a, Ha⟩ : ∃ a, Hid (fdT i s u = a) := ⟨_, rfl⟩
      rw [Ha.out] at hst hge hok hle
      obtain ⟨c, Hc⟩ : ∃ c, Hid (chs a i = c) := ⟨_, rfl⟩
      rw [Hc.out] at hst hok
      have HI2 : Hid (Z.take p = unS p (s - c) a) := hst.1
      have hup := HUP.out p
      rw [← Hp.out] at hup
      rw [hst.2] at hup
      have HUP2 : Hid (updV (unR Z i) p a = unR Z p) := hup
      have eu : ((u + 1 : Nat) : Int) - 1 = (u : Int) := by omega
      rw [eu]
      clear hst hup HI
      go_wp2
      go_loopw [1, 8] (fun rv tv wr => ∃ (b : Nat), rv = .int .i64 (s : Int) ∧ tv = .int .i64 (b : Int) ∧ b ≤ u ∧ Hid (fdT i s b = a) ∧ OwV 3 nV wr g k (unR Z i) ∧ Below w.heap.size w wr) (fun _ tv _ => (intOf tv).toNat)
      case atStart => exact ⟨u, rfl, rfl, by omega, Ha.out, hO, hB⟩
      case round =>
        clear hO hB
        obtain ⟨b, rfl, rfl, hb, HF, hO, hB⟩ := hrel
        have C := HCW.out b i wr (by omega)
        by_cases hc : chs b i ≤ s
        · have eb : b = a := by rw [← HF.out]; exact (fdT_yes hc).symm
          subst eb
          rw [Hc.out] at C hc
          have hdc : decide (c ≤ s) = true := by simpa using hc
          have hf := hO.frozen p
          have hsw : IntKind.i64.wrap ((s : Int) - (c : Int)) = (s : Int) - (c : Int) := IntWalk.i64_in _ (by omega)
          have hpk : (p : Int) < (k : Int) := by omega
          have hip : (i : Int) - 1 = (p : Int) := by have := Hp.out; omega
          have hpw : IntKind.i64.wrap (p : Int) = (p : Int) := IntWalk.i64_in _ (by omega)
          have hbw : IntKind.i64.wrap ((b : Int) - 1) = (b : Int) - 1 := IntWalk.i64_in _ (by omega)
          clear hf
          go_wp2_with (go_at_call 33; refine C.mono ?_; rintro e w2 ⟨rfl, hb2⟩; clear C; have hO2 := hO.below hb2; have hf2 := hO2.frozen p; have hc2 := hO2.cell p (by omega); have hB2 := Below.next hB hb2)
          have hO3 := hO2.set p b
          rw [HUP2.out] at hO3
          have hB3 : Below w.heap.size w (w2.setCell ⟨g, p, none⟩ (nV b)) := hB2.setCell hgw _
          go_roundw
          case rel => exact ⟨p, s - c, b, rfl, by rw [Int.ofNat_sub hc], rfl, by omega, by omega, by omega, by omega, HI2, hO3, hB3⟩
          case measure => simp [intOf]; omega
        · have hdc : decide (chs b i ≤ s) = false := by simpa using hc
          obtain ⟨d, rfl⟩ : ∃ d, b = d + 1 := by
            cases b with
            | zero => rw [chs_gt hi0] at hc; exact absurd (Nat.zero_le _) hc
            | succ d => exact ⟨d, rfl⟩
          have HF2 : Hid (fdT i s d = a) := by show _ = _; rw [← fdT_no hc]; exact HF.out
          obtain ⟨q, Hq⟩ : ∃ q, Hid (chs (d + 1) i = q) := ⟨_, rfl⟩
          rw [Hq.out] at C hc hdc
          have hdw : IntKind.i64.wrap (d : Int) = (d : Int) := IntWalk.i64_in _ (by omega)
          go_wp2_with (go_at_call 33; refine C.mono ?_; rintro e w2 ⟨rfl, hb2⟩; clear C; have hO2 := hO.below hb2; have hB2 := Below.next hB hb2)
          go_roundw
          case rel => exact ⟨d, rfl, by go_num, by omega, HF2, hO2, hB2⟩
          case measure => simp [intOf]
    · obtain rfl : i = 0 := by omega
      have hW := HWD.out wr g _ hO fun j hj => by unfold unR; rw [if_neg (Nat.not_lt_zero j)]
      go_wp2
      go_ret2
      exact ⟨⟨_, rfl, hW⟩, hB⟩
set_option maxRecDepth 100000 in
set_option maxHeartbeats 4000000 in
theorem UnrankOf_any (kk rr : Int) (w : World) (hr63 : rr < 2 ^ 63) :
    Calls Try.prog 13 #[.int .i64 kk, .int .i64 rr] w fun e w' => (∃ y, e = .returned (.tuple #[y, .int .i64 (unE kk rr : Int)]) ∧ Wd w' y (unZ kk rr)) ∧ Below w.heap.size w w' := by
  by_cases hb : kk < 0 ∨ 30 < kk ∨ rr < 0
  · have e1 : unE kk rr = 1 := by unfold unE; rw [if_pos hb]
    have e2 : unZ kk rr = [] := by unfold unZ; rw [e1]; rfl
    rw [e1, e2]
    by_cases h1 : kk < 0
    · have hd1 : decide (kk < 0) = true := by simpa using h1
      clear hb h1
      go_enter Try.func13, Try.ntmps13
      go_wp2
      go_ret2
      exact ⟨⟨_, rfl, Wd.nil _⟩, Below.refl _ _⟩
    · have hd1 : decide (kk < 0) = false := by simpa using h1
      by_cases h2 : 30 < kk
      · have hd2 : decide (30 < kk) = true := by simpa using h2
        clear hb h1 h2
        go_enter Try.func13, Try.ntmps13
        go_wp2
        go_ret2
        exact ⟨⟨_, rfl, Wd.nil _⟩, Below.refl _ _⟩
      · have hd2 : decide (30 < kk) = false := by simpa using h2
        have hd3 : decide (rr < 0) = true := by simp; omega
        clear hb h1 h2
        go_enter Try.func13, Try.ntmps13
        go_wp2
        go_ret2
        exact ⟨⟨_, rfl, Wd.nil _⟩, Below.refl _ _⟩
  · obtain ⟨k, rfl⟩ : ∃ k : Nat, kk = k := ⟨kk.toNat, by omega⟩
    obtain ⟨r, rfl⟩ : ∃ r : Nat, rr = r := ⟨rr.toNat, by omega⟩
    have h61 := chs_two 61 k
    by_cases hc : (chs 61 k : Int) ≤ (r : Int)
    · have e1 : unE k r = 1 := by unfold unE; rw [if_neg hb, Int.toNat_natCast, if_pos hc]
      have e2 : unZ k r = [] := by unfold unZ; rw [e1]; rfl
      rw [e1, e2]
      have hdk : decide ((k : Int) < 0) = false := by simp
      have hdk2 : decide ((30 : Int) < (k : Int)) = false := by simp; omega
      have hdr : decide ((r : Int) < 0) = false := by simp
      have C0 : Calls Try.prog 33 #[.int .i64 61, .int .i64 (k : Int)] w fun e w' => e = .returned (.int .i64 (chs 61 k : Int)) ∧ Below w.heap.size w w' := by
        have h := Ways_any 61 (k : Int) w (Nat.le_refl _)
        rw [wyN_chs] at h
        exact h
      obtain ⟨all, Hall⟩ : ∃ all, Hid (chs 61 k = all) := ⟨_, rfl⟩
      rw [Hall.out] at C0 hc
      have hda : decide (all ≤ r) = true := by simp; omega
      clear hb h61
      go_enter Try.func13, Try.ntmps13
      go_wp2_with (go_at_call 33; refine C0.mono ?_; rintro e w1 ⟨rfl, hb1⟩; clear C0)
      go_ret2
      exact ⟨⟨_, rfl, Wd.nil _⟩, hb1⟩
    · have e1 : unE k r = 0 := by unfold unE; rw [if_neg hb, Int.toNat_natCast, if_neg hc]
      have e2 : unZ k r = unS k r 61 := by unfold unZ; rw [if_pos e1, Int.toNat_natCast, Int.toNat_natCast]
      rw [e1, e2]
      exact unrank_in k r w (by omega) (by omega) (chs 61 k) (by omega) rfl
end Go.Proofs.Ytmogmkdcplgfjaa
