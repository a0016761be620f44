/- The walks of isArc and Arc. -/
import Derived.Test.YtgpkhfpejopacaaDoorK6
namespace Go.Proofs.YtgpkhfpejopacaaDoor
open Go.RowKit

set_option maxRecDepth 100000 in
set_option maxHeartbeats 8000000 in
theorem isArc_any (v : Nat) (B : List (List Nat)) (s : List Nat) (u sv : Value) (w : World) (G : GoodD v B) (hu : Rw w u (toZ B)) (hs : Sl w sv (s.map Int.ofNat)) (hsp : Pts v s) :
    Calls Tryd.prog 45 #[.agg #[.int .i64 (v : Int), u], sv] w fun e w' => e = .returned (.bool (!liB B s)) ∧ Below w.heap.size w w' := by
  obtain ⟨a, cap, rfl, hD⟩ := drow_of hu
  have h200 := G.few
  have hs40 : s.length ≤ 40 := Nat.le_trans hsp.le G.le
  have HD : Hid (DRow w a B) := hD
  have HAT : Hid (∀ i, i < B.length → ∃ b, B[i]? = some b) := fun i hi => ⟨_, List.getElem?_eq_getElem hi⟩
  have HSY : Hid (∀ b ∈ B, mt b s = mt s b) := fun b hb => mt_sym (G.bls b hb) hsp
  have HY : Hid (∀ (i : Nat) (b : List Nat), B[i]? = some b → 2 < mt b s → liB B s = true) := fun i b h h2 => liB_yes h (by rw [← HSY.out b (List.mem_of_getElem? h)]; exact h2)
  have HN : Hid ((∀ (i : Nat) (b : List Nat), i < B.length → B[i]? = some b → ¬ 2 < mt b s) → liB B s = false) := fun h => liB_no fun i b hb => by
    rw [← HSY.out b (List.mem_of_getElem? hb)]; exact h i b (List.getElem?_eq_some_iff.1 hb).1 hb
  have HTo : Hid (∀ (W : World) (b : List Nat) (bv : Value), b.length ≤ 40 → Below w.heap.size w W → Sl W bv (b.map Int.ofNat) → Calls Tryd.prog 44 #[bv, sv] W fun e w' => (∃ xa xc, e = .returned (.slice xa (mt b s) xc)) ∧ Below W.heap.size W w') := fun W b bv hb hW hbv => by
    refine (common_any b s bv sv W hbv (hs.below hW) (by omega) (by omega)).mono ?_
    rintro e w' ⟨xa, xn, xc, rfl, hxn, _, bW⟩
    rw [cmL_mt] at hxn
    subst hxn
    exact ⟨⟨xa, xc, rfl⟩, bW⟩
  have HML : Hid (∀ b : List Nat, b.length ≤ 40 → mt b s ≤ 99) := fun b hb => Nat.le_trans List.countP_le_length (by omega)
  have HBL : Hid (∀ b ∈ B, b.length ≤ 40) := fun b hb => G.len hb
  have HC : Hid (∀ W, Below (w.alloc (.cells #[.int .i64 (v : Int), .slice a B.length cap] 29)).heap.size (w.alloc (.cells #[.int .i64 (v : Int), .slice a B.length cap] 29)) W → W.cell? ⟨w.heap.size, 0, none⟩ = some (.int .i64 (v : Int)) ∧ W.cell? ⟨w.heap.size, 1, none⟩ = some (.slice a B.length cap)) := des_box (v : Int) (.slice a B.length cap) w
  obtain ⟨w0, Hw0⟩ : ∃ w0, Hid (w0 = w.alloc (.cells #[.int .i64 (v : Int), .slice a B.length cap] 29)) := ⟨_, rfl⟩
  rw [← Hw0.out] at HC
  have HB0 : Hid (Below w.heap.size w w0) := by rw [Hw0.out]; exact balloc _ _
  obtain ⟨z, Hz⟩ : ∃ z, Hid (liB B s = z) := ⟨_, rfl⟩
  rw [Hz.out] at HY HN ⊢
  obtain ⟨x0, x1⟩ := HC.out _ (Below.refl _ _)
  rw [Hw0.out] at x0 x1
  obtain ⟨sa, sn, sc, rfl⟩ : ∃ a n c, sv = .slice a n c := by obtain ⟨a, c, e, _⟩ := hs; exact ⟨a, _, c, e⟩
  generalize hBn : B.length = n at *
  clear hD hu hs hsp G HSY
  go_enter Tryd.func45, Tryd.ntmps45
  go_wp2
  go_loopw [10] (fun iv wr => ∃ i : Nat, iv = .int .i64 (i : Int) ∧ i ≤ n ∧ Hid (∀ (j : Nat) (b : List Nat), j < i → B[j]? = some b → ¬ 2 < mt b s) ∧ Below w0.heap.size w0 wr) (fun iv _ => (n - intOf iv).toNat)
  case atStart => exact ⟨0, rfl, by omega, (show ∀ (j : Nat) (b : List Nat), j < 0 → _ from fun j b h => by omega), by rw [Hw0.out]; exact Below.refl _ _⟩
  case round =>
    clear x0 x1
    obtain ⟨i, rfl, hi, HI, hB⟩ := hrel
    have hBw := Below.next HB0.out hB
    by_cases hlt : i < n
    · have hdi : decide ((i : Int) < (n : Int)) = true := by simp; omega
      have hii : (i : Int) < (n : Int) := by omega
      obtain ⟨b, hb⟩ := HAT.out i hlt
      obtain ⟨bb, off, ua, uc, rfl, hrow⟩ := HD.out i b hb
      obtain ⟨hr0, hr1⟩ := hrow _ hBw
      have hbl := HBL.out b (List.mem_of_getElem? hb)
      have hml := HML.out b hbl
      have C := HTo.out wr b _ hbl hBw hr1
      have hy := HY.out i b hb
      have HI2 : Hid (¬ 2 < mt b s → ∀ (j : Nat) (c : List Nat), j < i + 1 → B[j]? = some c → ¬ 2 < mt c s) := fun h j c hj hc => by
        by_cases e : j = i
        · subst e
          rw [hb] at hc
          cases hc
          exact h
        · exact HI.out j c (by omega) hc
      obtain ⟨t, Ht⟩ : ∃ t, Hid (mt b s = t) := ⟨_, rfl⟩
      rw [Ht.out] at C hml hy HI2
      generalize b.length = bl at *
      clear hb hr1 hrow HI
      by_cases h2 : 2 < t
      · obtain rfl := hy h2
        have hd2 : decide (2 < (t : Int)) = true := by simp; omega
        have hd2' : decide (2 < t) = true := by simpa using h2
        clear hy HI2
        go_wp2_with (go_at_call 44; refine C.mono ?_; rintro e w1 ⟨⟨xa, xc, rfl⟩, b1⟩; clear C)
        go_ret
        exact ⟨rfl, Below.next hBw b1⟩
      · have hd2 : decide (2 < (t : Int)) = false := by simp; omega
        have hd2' : decide (2 < t) = false := by simpa using h2
        have HI3 : Hid (∀ (j : Nat) (c : List Nat), j < i + 1 → B[j]? = some c → ¬ 2 < mt c s) := HI2.out h2
        clear hy HI2
        go_wp2_with (go_at_call 44; refine C.mono ?_; rintro e w1 ⟨⟨xa, xc, rfl⟩, b1⟩; clear C)
        go_roundw
        case rel => exact ⟨i + 1, by go_num, by omega, HI3, Below.next hB b1⟩
        case measure => simp [intOf]; omega
    · have hdi : decide ((i : Int) < (n : Int)) = false := by simp; omega
      obtain rfl := HN.out fun j b hj hb => HI.out j b (by omega) hb
      go_wp2
      go_ret
      exact ⟨rfl, hBw⟩
theorem dF_one {v : Nat} (h1 : 1 ≤ v) (h2 : v ≤ 40) (b : List Int) : dF (v : Int) [b] = bF (v : Int) b := by
  unfold dF
  rw [if_neg (by omega), if_neg (by simp)]
  unfold blF blF
  split
  · rfl
  · omega
theorem bF_nat {v : Nat} (h1 : 1 ≤ v) (h2 : v ≤ 40) {b : List Int} (h : bF (v : Int) b = 0) : ∃ s, b = s.map Int.ofNat ∧ Rs v 0 s ∧ Pts v s := by
  obtain ⟨v', B, e1, e2, G⟩ := dF_ok (by rw [dF_one h1 h2]; exact h)
  obtain rfl : v = v' := by omega
  unfold toZ at e2
  match B, e2, G with
  | [s], e2, G =>
    have hs : Rs v 0 s := G.rs s (by simp)
    exact ⟨s, by simpa using e2, hs, G.bls s (by simp)⟩
theorem rw_one (w : World) (lv : Value) (b : List Int) (h : Sl w lv b) : Rw (w.alloc (.cells #[lv] 22)) (.slice (some ⟨w.heap.size, 0, none⟩) 1 1) [b] := by
  refine ⟨_, 1, rfl, fun i l hi => ⟨w.heap.size, 0, lv, rfl, ?_, ?_⟩⟩
  · have : i = 0 := by have := (List.getElem?_eq_some_iff.1 hi).1; simp at this; omega
    subst this
    rw [cell_of_row _ _ _ _ _ _ (heap_alloc_new w _)]; rfl
  · have : i = 0 := by have := (List.getElem?_eq_some_iff.1 hi).1; simp at this; omega
    subst this
    obtain rfl : b = l := by simpa using hi
    exact h.alloc _
set_option maxRecDepth 100000 in
set_option maxHeartbeats 4000000 in
theorem Arc_bad (p : Int) (ls : List (List Int)) (z : Nat) (u lv : Value) (w : World) (hT : Tab w) (hu : Rw w u ls) (hl : ls.length ≤ maxLen) (hll : ∀ l ∈ ls, l.length ≤ maxLen) (h : PCz p ls z) :
    Calls Tryd.prog 22 #[.agg #[.int .i64 p, u], lv] w fun e w' => e = .returned (.tuple #[.bool false, .int .i64 (z : Int)]) ∧ Below w.heap.size w w' := by
  have b0 := balloc w (.cells #[.int .i64 p, u] 29)
  have C := PCheck_z p ls z u _ (hT.next b0) (hu.below b0) hl hll h
  have hz := h.ne
  have hz2 : ¬ (z : Int) = 0 := by omega
  have hz1 : ((z : Int) != 0) = true := by simpa using hz2
  obtain ⟨x0, x1⟩ := des_box p u w _ (Below.refl _ _)
  obtain ⟨a, n, c, rfl⟩ : ∃ a n c, u = .slice a n c := by obtain ⟨a, c, e, _⟩ := hu; exact ⟨a, _, c, e⟩
  clear hu hl hll h
  go_enter Tryd.func22, Tryd.ntmps22
  go_wp2_with (go_at_call 17; refine C.mono ?_; rintro e w1 ⟨rfl, b1⟩; clear C)
  exact bodyPost_ret (v := .tuple #[.bool false, .int .i64 (z : Int)]) (by simp [results, Tryd.results22, go_sem]) rfl ⟨rfl, Below.next b0 b1⟩
/-- Is it an arc? Of what is no list of points it is said to be none. -/
def aqB (v : Nat) (B : List (List Nat)) (b : List Int) : Bool := if bF (v : Int) b = 0 then !liB B (b.map Int.toNat) else false
theorem toNat_ofNat (s : List Nat) : (s.map Int.ofNat).map Int.toNat = s := by
  rw [List.map_map]
  exact List.map_id'' (fun x => rfl) s
set_option maxRecDepth 100000 in
set_option maxHeartbeats 8000000 in
theorem Arc_any (v k : Nat) (B : List (List Nat)) (b : List Int) (u lv : Value) (w : World) (hT : Tab w) (G : GoodD v B) (hd : dF (v : Int) (toZ B) = 0) (hu : Rw w u (toZ B)) (hl : Sl w lv b) (hbl : b.length ≤ maxLen) (hk : PrP v B k) :
    Calls Tryd.prog 22 #[.agg #[.int .i64 (v : Int), u], lv] w fun e w' => e = .returned (.tuple #[.bool (aqB v B b), .int .i64 (bF (v : Int) b : Int)]) ∧ Below w.heap.size w w' := by
  have b0 := balloc w (.cells #[.int .i64 (v : Int), u] 29)
  have C := PCheck_yes v k B u _ (hT.next b0) G hd (hu.below b0) hk
  have HCK : Hid (∀ W, Below w.heap.size w W → Calls Tryd.prog 40 #[.agg #[.int .i64 (v : Int), .slice (some ⟨W.heap.size, 0, none⟩) 1 1]] (W.alloc (.cells #[lv] 22)) fun e w' => e = .returned (.int .i64 (bF (v : Int) b : Int)) ∧ Below (W.alloc (.cells #[lv] 22)).heap.size (W.alloc (.cells #[lv] 22)) w') := fun W hW => by
    have h := Check_any (v : Int) [b] _ _ (rw_one W lv b (hl.below hW)) (by simp [maxLen]) (fun l hl => by rw [List.mem_singleton.1 hl]; exact hbl)
    rw [dF_one G.pos G.le] at h
    exact h
  have HA : Hid (bF (v : Int) b = 0 → ∀ W, Below w.heap.size w W → Calls Tryd.prog 45 #[.agg #[.int .i64 (v : Int), u], lv] W fun e w' => e = .returned (.bool (aqB v B b)) ∧ Below W.heap.size W w') := fun h W hW => by
    obtain ⟨s, rfl, _, hs⟩ := bF_nat G.pos G.le h
    have k := isArc_any v B s u lv W G (hu.below hW) (hl.below hW) hs
    have e : aqB v B (s.map Int.ofNat) = !liB B s := by unfold aqB; rw [if_pos h, toNat_ofNat]
    rw [e]
    exact k
  have HF : Hid (bF (v : Int) b ≠ 0 → aqB v B b = false) := fun h => by unfold aqB; rw [if_neg h]
  have HC : Hid (∀ W, Below (w.alloc (.cells #[.int .i64 (v : Int), u] 29)).heap.size (w.alloc (.cells #[.int .i64 (v : Int), u] 29)) W → W.cell? ⟨w.heap.size, 0, none⟩ = some (.int .i64 (v : Int)) ∧ W.cell? ⟨w.heap.size, 1, none⟩ = some u) := des_box (v : Int) u w
  obtain ⟨x0, x1⟩ := HC.out _ (Below.refl _ _)
  obtain ⟨a, n, c, rfl⟩ : ∃ a n c, u = .slice a n c := by obtain ⟨a, c, e, _⟩ := hu; exact ⟨a, _, c, e⟩
  obtain ⟨la, ln, lc, rfl⟩ : ∃ a n c, lv = .slice a n c := by obtain ⟨a, c, e, _⟩ := hl; exact ⟨a, _, c, e⟩
  obtain ⟨r, Hr⟩ : ∃ r, Hid ((k : Int) - 1 = r) := ⟨_, rfl⟩
  rw [Hr.out] at C
  obtain ⟨z, Hz⟩ : ∃ z, Hid (bF (v : Int) b = z) := ⟨_, rfl⟩
  obtain ⟨q, Hq⟩ : ∃ q, Hid (aqB v B b = q) := ⟨_, rfl⟩
  rw [Hz.out] at HCK HA HF ⊢
  rw [Hq.out] at HA HF ⊢
  clear hu hd G hk hl
  by_cases hz : z = 0
  · subst hz
    have HA2 : Hid (∀ W, Below w.heap.size w W → Calls Tryd.prog 45 #[.agg #[.int .i64 (v : Int), .slice a n c], .slice la ln lc] W fun e w' => e = .returned (.bool q) ∧ Below W.heap.size W w') := HA.out rfl
    clear HA HF
    go_enter Tryd.func22, Tryd.ntmps22
    go_wp2_with (first
      | (go_at_call 17; refine C.mono ?_; rintro e w1 ⟨rfl, b1⟩; clear C; obtain ⟨y0, y1⟩ := HC.out _ b1; have b1a := b1; replace b1 := Below.next b0 b1; have CK := HCK.out _ b1)
      | (go_at_call 40; refine CK.mono ?_; rintro e w2 ⟨rfl, b2⟩; clear CK; have b2a := Below.next (Below.next b1a (balloc _ _)) b2; obtain ⟨t0, t1⟩ := HC.out _ b2a; replace b2 := Below.next (Below.next b1 (balloc _ _)) b2; have CA := HA2.out _ b2)
      | (go_at_call 45; refine CA.mono ?_; rintro e w3 ⟨rfl, b3⟩; clear CA; replace b3 := Below.next b2 b3))
    exact bodyPost_ret (v := .tuple #[.bool q, .int .i64 0]) (by simp [results, Tryd.results22, go_sem]) rfl ⟨rfl, b3⟩
  · obtain rfl := HF.out hz
    have hz2 : ¬ (z : Int) = 0 := by omega
    have hz1 : ((z : Int) != 0) = true := by simpa using hz2
    clear HA HF
    go_enter Tryd.func22, Tryd.ntmps22
    go_wp2_with (first
      | (go_at_call 17; refine C.mono ?_; rintro e w1 ⟨rfl, b1⟩; clear C; obtain ⟨y0, y1⟩ := HC.out _ b1; have b1a := b1; replace b1 := Below.next b0 b1; have CK := HCK.out _ b1)
      | (go_at_call 40; refine CK.mono ?_; rintro e w2 ⟨rfl, b2⟩; clear CK; replace b2 := Below.next (Below.next b1 (balloc _ _)) b2))
    exact bodyPost_ret (v := .tuple #[.bool false, .int .i64 (z : Int)]) (by simp [results, Tryd.results22, go_sem]) rfl ⟨rfl, b2⟩

end Go.Proofs.YtgpkhfpejopacaaDoor
