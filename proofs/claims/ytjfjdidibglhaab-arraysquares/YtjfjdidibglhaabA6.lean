/- The walks of triesAll and Strength. -/
import Derived.Test.YtjfjdidibglhaabA5
import Derived.Test.YtjfjdidibglhaabArT
namespace Go.Proofs.Ytjfjdidibglhaab
open Go.RowKit

theorem enF_eq {c k : Nat} {l m : List Int} (hk : k ≤ 8) (hl : l.length = k) (hm : m.length = k) (hc : c < 2 ^ k) : enF c l = enF c m ↔ ∀ i ∈ pts c, l.getD i 0 = m.getD i 0 := by
  have h64 : c < 2 ^ 64 := Nat.lt_of_lt_of_le hc (Nat.pow_le_pow_right (by decide) (by omega))
  constructor
  · intro h i hi
    have hb := (pts_mem' h64).1 hi
    have hik := (pts_pts hk hc).lt i hi
    have h1 := enF_at c l (i := i) (by omega)
    rw [h, enF_at c m (by omega), if_pos hb, if_pos hb] at h1
    exact h1.symm
  · intro h
    unfold enF
    refine List.map_congr_left fun i hi => ?_
    have hi := List.mem_range.1 hi
    by_cases hb : c.testBit i = true
    · rw [if_pos hb, if_pos hb, h i ((pts_mem' h64).2 hb)]
    · rw [if_neg hb, if_neg hb]
theorem naB_iff {s k c e : Nat} {ls : List (List Int)} (hG : GoodA s k ls) (hc : c < 2 ^ k) : naB c e ls = true ↔ ∀ l ∈ ls, hit (rnA ls) (pts c) (fnA l) ≤ e := by
  have key : ∀ l ∈ ls, (ls.map (enF c)).count (enF c l) = hit (rnA ls) (pts c) (fnA l) := fun l hl => by
    unfold hit rnA
    rw [List.count_eq_countP, List.countP_map, List.countP_map]
    refine List.countP_congr fun m hm => ?_
    show (enF c m == enF c l) = true ↔ mtc (pts c) (fnA l) (fnA m) = true
    rw [beq_iff_eq, enF_eq hG.k8 (hG.len m hm) (hG.len l hl) hc, mtc_iff]
    exact ⟨fun h i hi => (hG.eq hm hl ((pts_pts hG.k8 hc).lt i hi)).2 (h i hi), fun h i hi => (hG.eq hm hl ((pts_pts hG.k8 hc).lt i hi)).1 (h i hi)⟩
  unfold naB
  rw [List.all_eq_true]
  constructor
  · intro h l hl
    rw [← key l hl]
    exact of_decide_eq_true (h l hl)
  · intro h l hl
    rw [decide_eq_true_eq, key l hl]
    exact h l hl
/-- Does it try all alike in t columns? -/
def taB (s k t : Nat) (ls : List (List Int)) : Bool := trB k t fun c => naB c (ls.length / s ^ t) ls
theorem taB_iff {s k t : Nat} {ls : List (List Int)} (hG : GoodA s k ls) : taB s k t ls = true ↔ Str s k (rnA ls) t := tr_str hG fun _ hc => naB_iff hG hc
set_option maxRecDepth 100000 in
set_option maxHeartbeats 16000000 in
theorem triesAll_any (s k t : Nat) (ls : List (List Int)) (v : Value) (w : World) (hv : Rw w v ls) (hG : GoodA s k ls) (ht : t ≤ k) :
    Calls Try.prog 13 #[.int .i64 (s : Int), v, .int .i64 (t : Int)] w fun x w' => x = .returned (.bool (taB s k t ls)) ∧ Below w.heap.size w w' := by
  have hn1 := hG.n1
  have hn128 := hG.n128
  have hk8 := hG.k8
  have hs2 := hG.s2
  have HG : Hid (GoodA s k ls) := hG
  obtain ⟨n, Hn⟩ : ∃ n, Hid (ls.length = n) := ⟨_, rfl⟩
  have HV : Hid (∀ W, Below w.heap.size w W → Rw W v ls) := fun W b => hv.below b
  obtain ⟨r0, hr0⟩ : ∃ r0, ls[0]? = some r0 := ⟨_, List.getElem?_eq_getElem (by omega)⟩
  obtain ⟨a, cap, rfl, -⟩ := hv
  rw [Hn.out] at hn128 hn1 HV ⊢
  obtain ⟨b, off, u, rfl, hc0, hS0⟩ := (HV.out w (Below.refl _ _)).at hr0 rfl
  rw [Nat.add_zero] at hc0
  obtain ⟨ua, uc, rfl, -⟩ := id hS0
  rw [hG.len r0 (List.mem_of_getElem? hr0)] at hc0
  obtain ⟨pw, Hpw⟩ : ∃ pw, Hid (s ^ t = pw) := ⟨_, rfl⟩
  have CP := power_small s t w (by omega) hG.s64 (by omega) pw Hpw
  have hpw : 0 < pw := by rw [← Hpw.out]; exact Nat.pow_pos (by omega)
  have hpi : (pw : Int) ≠ 0 := by omega
  obtain ⟨e, He⟩ : ∃ e, Hid (n / pw = e) := ⟨_, rfl⟩
  have hq : (n : Int).tdiv (pw : Int) = (e : Int) := by rw [← He.out]; rfl
  have hel : e ≤ n := by rw [← He.out]; exact Nat.div_le_self _ _
  obtain ⟨P, HP⟩ : ∃ P : Nat, Hid ((2 : Nat) ^ k = P) := ⟨_, rfl⟩
  have hP : (2 : Int) ^ k = (P : Int) := by rw [← HP.out]; simp
  have hP1 : 0 < P := by rw [← HP.out]; exact Nat.pow_pos (by decide)
  have hP8 : P ≤ 256 := by rw [← HP.out]; exact Nat.le_trans (Nat.pow_le_pow_right (by decide) hk8) (by decide)
  obtain ⟨z, Hz⟩ : ∃ z, Hid (taB s k t ls = z) := ⟨_, rfl⟩
  rw [Hz.out]
  have HZ1 : Hid ((∀ c, c < P → pc c = t → naB c e ls = true) → z = true) := fun h => by
    rw [← Hz.out]
    exact trB_yes fun c hc hp => by rw [Hn.out, Hpw.out, He.out]; exact h c (by rw [← HP.out]; exact hc) hp
  have HZ0 : Hid (∀ c, c < P → pc c = t → naB c e ls = false → z = false) := fun c hc hp h => by
    rw [← Hz.out]
    exact trB_no (by rw [HP.out]; exact hc) hp (by rw [Hn.out, Hpw.out, He.out]; exact h)
  have HO : Hid (∀ (c : Nat) (W : World), c < P → Calls Try.prog 22 #[.int .u64 (c : Int)] W fun x w' => x = .returned (.int .i64 (pc c : Int)) ∧ w' = W) := fun c W hc => OnesCount_any c (by omega) W
  have HA : Hid (∀ (c : Nat) (W : World), c < P → Below w.heap.size w W → Calls Try.prog 23 #[.int .u64 (c : Int), .slice (some ⟨b, off, none⟩) n cap, .int .i64 (e : Int)] W fun x w' => x = .returned (.bool (naB c e ls)) ∧ Below W.heap.size W w') := fun c W hc bW => noneAbove_any c e s k ls _ W (by omega) (HV.out W bW) HG.out
  have hni : (0 : Int) < (n : Int) := by omega
  clear hG hS0 hr0
  go_enter Try.func13, Try.ntmps13
  go_wp2_with (go_at_call 21; refine CP.mono ?_; rintro e1 w1 ⟨rfl, h1⟩; replace h1 := h1.symm; subst h1; clear CP)
  go_loopw [8, 20] (fun _ iv wr => ∃ c : Nat, iv = .int .u64 (c : Int) ∧ c ≤ P ∧ Hid (∀ d, d < c → pc d = t → naB d e ls = true) ∧ Below w.heap.size w wr) (fun _ iv _ => (P - intOf iv).toNat)
  case atStart => exact ⟨0, rfl, by omega, (show ∀ d, d < 0 → _ from fun d h => by omega), Below.refl _ _⟩
  case round =>
    clear hc0
    obtain ⟨c, rfl, hc, HC, hB⟩ := hrel
    by_cases hlt : c < P
    · have hdc : decide ((c : Int) < (P : Int)) = true := by simp; omega
      have hci : (c : Int) < (P : Int) := by omega
      have C1 := HO.out c wr hlt
      obtain ⟨p, Hp⟩ : ∃ p, Hid (pc c = p) := ⟨_, rfl⟩
      rw [Hp.out] at C1
      by_cases hpt : p = t
      · have hde : ((p : Int) == (t : Int)) = true := by rw [hpt]; simp
        have C2 := HA.out c wr hlt hB
        cases hna : naB c e ls with
        | true =>
          rw [hna] at C2
          have HC2 : Hid (∀ d, d < c + 1 → pc d = t → naB d e ls = true) := fun d hd hp => by
            by_cases q : d = c
            · subst q; exact hna
            · exact HC.out d (by omega) hp
          clear HC hna
          subst hpt
          go_wp2_with (first
            | (go_at_call 22; refine C1.mono ?_; rintro e1 w1 ⟨rfl, h1⟩; replace h1 := h1.symm; subst h1; clear C1)
            | (go_at_call 23; refine C2.mono ?_; rintro e1 w2 ⟨rfl, b2⟩; clear C2))
          go_roundw
          case rel => exact ⟨c + 1, by go_num, by omega, HC2, Below.next hB b2⟩
          case measure => simp [intOf]; omega
        | false =>
          rw [hna] at C2
          obtain rfl : z = false := HZ0.out c hlt (Hp.out.trans hpt) hna
          clear HC hna
          subst hpt
          go_wp2_with (first
            | (go_at_call 22; refine C1.mono ?_; rintro e1 w1 ⟨rfl, h1⟩; replace h1 := h1.symm; subst h1; clear C1)
            | (go_at_call 23; refine C2.mono ?_; rintro e1 w2 ⟨rfl, b2⟩; clear C2))
          go_ret
          exact ⟨rfl, Below.next hB b2⟩
      · have hde : ((p : Int) == (t : Int)) = false := by rw [beq_eq_false_iff_ne]; omega
        have hden : (p == t) = false := by rw [beq_eq_false_iff_ne]; omega
        have HC2 : Hid (∀ d, d < c + 1 → pc d = t → naB d e ls = true) := fun d hd hp => by
          by_cases q : d = c
          · subst q; exact absurd (Hp.out.symm.trans hp) hpt
          · exact HC.out d (by omega) hp
        clear HC
        go_wp2_with (go_at_call 22; refine C1.mono ?_; rintro e1 w1 ⟨rfl, h1⟩; replace h1 := h1.symm; subst h1; clear C1)
        go_roundw
        case rel => exact ⟨c + 1, by go_num, by omega, HC2, hB⟩
        case measure => simp [intOf]; omega
    · have hdc : decide ((c : Int) < (P : Int)) = false := by simp; omega
      obtain rfl : c = P := by omega
      obtain rfl : z = true := HZ1.out HC.out
      go_wp2
      go_ret
      exact ⟨rfl, hB⟩
end Go.Proofs.Ytjfjdidibglhaab
