/- The document's walked, from a list that is not whole on. -/
import Derived.Test.YtgkfddcmngodgaaV1
namespace Go.Proofs.Ytgkfddcmngodgaa
open Go.RowKit Go.Maps

/-- What walked tells of lists that lack k. -/
def WkP (n : Nat) (l : List Int) (rg : Bool) (k : Nat) : Prop := ∀ (L : List Nat) (tv v : Value) (w : World), Sl w tv l → Sl w v (L.map Int.ofNat) → L.length + k = n → (∀ x ∈ L, x < n) →
  Calls Try.prog 37 #[.agg #[.int .i64 (n : Int), tv], v, .bool rg] w fun e w' => (∃ y, e = .returned (.tuple #[.int .i64 ((wk n (tB n l) rg k L).1 : Int), y]) ∧ Sl w' y ((wk n (tB n l) rg k L).2.map Int.ofNat)) ∧ Below w.heap.size w w'
theorem contains_more (L : List Nat) (b i : Nat) (h : i < L.length) : (L.take (i + 1)).contains b = ((L.take i).contains b || L.getD i 0 == b) := by
  rw [List.getD_eq_getElem?_getD, List.getElem?_eq_getElem h, Option.getD_some, Bool.eq_iff_iff, Bool.or_eq_true, List.contains_iff_mem, List.contains_iff_mem, beq_iff_eq, List.take_add_one, List.getElem?_eq_getElem h, Option.toList_some, List.mem_append, List.mem_singleton]
  exact ⟨fun h => h.elim .inl fun e => .inr e.symm, fun h => h.elim .inl fun e => .inr e.symm⟩
set_option maxRecDepth 100000 in
set_option maxHeartbeats 16000000 in
theorem walked_on {n : Nat} {l : List Int} (hg : GoodT n l) (rg : Bool) (k : Nat) (ih : WkP n l rg k) : WkP n l rg (k + 1) := by
  intro L tv v w ht hv hl hb
  have hn9 := hg.le
  obtain ⟨i3, hi3, hz0, hz1, hz2⟩ := info3
  rw [wk_succ]
  obtain ⟨t, Ht⟩ : ∃ t, Hid (tB n l = t) := ⟨_, rfl⟩
  have HSRC : Hid (∀ W, Below w.heap.size w W → SrcC W v L.length ((L.map Int.ofNat).map (Value.int .i64))) := src_ints hv
  have b1 := balloc w (.cells #[.int .i64 (n : Int), tv] 24)
  have HX := sq_cells (n : Int) tv w
  have hbe : ∀ W, Below w.heap.size w W → ∀ a b, a < n → b < n → Calls Try.prog 29 #[.agg #[.int .i64 (n : Int), tv], .int .i64 (a : Int), .int .i64 (b : Int)] W fun e w' => e = .returned (.bool (t a b)) ∧ Below W.heap.size W w' := fun W bW a b ha hb => by
    rw [← Ht.out]; exact Beats_any hg tv W (ht.below bW) ha hb
  have HBE : Hid (∀ W, Below w.heap.size w W → ∀ a b, a < n → b < n → Calls Try.prog 29 #[.agg #[.int .i64 (n : Int), tv], .int .i64 (a : Int), .int .i64 (b : Int)] W fun e w' => e = .returned (.bool (t a b)) ∧ Below W.heap.size W w') := hbe
  have hih : ∀ (b : Nat) (v' : Value) (W : World), b < n → Below w.heap.size w W → Sl W v' ((L ++ [b]).map Int.ofNat) → Calls Try.prog 37 #[.agg #[.int .i64 (n : Int), tv], v', .bool rg] W fun e w' => (∃ y, e = .returned (.tuple #[.int .i64 ((wk n t rg k (L ++ [b])).1 : Int), y]) ∧ Sl w' y ((wk n t rg k (L ++ [b])).2.map Int.ofNat)) ∧ Below W.heap.size W w' := fun b v' W hbn bW hs => by
    rw [← Ht.out]
    exact ih (L ++ [b]) tv v' W (ht.below bW) hs (by rw [List.length_append]; simp; omega) fun x hx => by
      rcases List.mem_append.1 hx with h | h
      · exact hb x h
      · have := List.mem_singleton.1 h; omega
  have HIH0 : Hid (∀ (b : Nat) (v' : Value) (W : World), b < n → Below w.heap.size w W → Sl W v' ((L ++ [b]).map Int.ofNat) → Calls Try.prog 37 #[.agg #[.int .i64 (n : Int), tv], v', .bool rg] W fun e w' => (∃ y, e = .returned (.tuple #[.int .i64 ((wk n t rg k (L ++ [b])).1 : Int), y]) ∧ Sl w' y ((wk n t rg k (L ++ [b])).2.map Int.ofNat)) ∧ Below W.heap.size W w') := hih
  have hp9 : ∀ j, j ≤ 9 → 9 ^ j ≤ 400000000 := fun j hj => Nat.le_trans (Nat.pow_le_pow_right (by omega) hj) (by decide)
  have HW9 : Hid (∀ b, (wk n t rg k (L ++ [b])).1 ≤ 400000000) := fun b => Nat.le_trans (wk_le hn9 k _) (hp9 k (by omega))
  have HBD : Hid (∀ j, j ≤ n → (wkT n t rg k L j).1 ≤ 400000000) := fun j hj => by
    have h1 := wkT_le (t := t) (rg := rg) (k := k) (L := L) (fun b => wk_le hn9 k _) j
    have h2 := hp9 (k + 1) (by omega)
    rw [Nat.pow_succ] at h2
    have h3 : j * 9 ^ k ≤ 9 * 9 ^ k := Nat.mul_le_mul_right _ (by omega)
    omega
  have HLN : Hid (∀ j, j < L.length → L.getD j 0 < n) := fun j hj => by
    rw [List.getD_eq_getElem?_getD, List.getElem?_eq_getElem hj]; exact hb _ (List.getElem_mem _)
  have HTM : Hid (∀ b i, i < L.length → (L.take (i + 1)).contains b = ((L.take i).contains b || L.getD i 0 == b)) := contains_more L
  have HTA : Hid (∀ i, L.length ≤ i → L.take i = L) := fun i hi => List.take_of_length_le hi
  have HIN : Hid (∀ b, L.contains b = true → wkT n t rg k L (b + 1) = wkT n t rg k L b) := fun b h => wkT_in h
  have HNOT : Hid (∀ b, 0 < L.length → t (L.getD (L.length - 1) 0) b = false → wkT n t rg k L (b + 1) = wkT n t rg k L b) := fun b h1 h2 => wkT_not h1 h2
  have HONW : Hid (∀ b, L.contains b = false → (L.length = 0 ∨ t (L.getD (L.length - 1) 0) b = true) → wkT n t rg k L (b + 1) = ((wkT n t rg k L b).1 + (wk n t rg k (L ++ [b])).1, if (wkT n t rg k L b).1 == 0 && decide (0 < (wk n t rg k (L ++ [b])).1) then (wk n t rg k (L ++ [b])).2 else (wkT n t rg k L b).2)) := fun b h1 h2 => wkT_on h1 h2
  have HW0 : Hid (wkT n t rg k L 0 = (0, [])) := rfl
  obtain ⟨q, Hq⟩ : ∃ q, Hid (L.length = q) := ⟨_, rfl⟩
  have HVC0 : Hid (∀ W, Below w.heap.size w W → Sl W v (L.map Int.ofNat)) := fun W bW => hv.below bW
  obtain ⟨va, vc, rfl, -⟩ := hv
  rw [List.length_map] at HSRC HVC0 ⊢
  rw [Hq.out] at hl HSRC HVC0 HLN HTM HTA HNOT HONW ⊢
  have HVC : Hid (∀ W, Below w.heap.size w W → ∀ j, j < q → ∃ b o, va = some ⟨b, o, none⟩ ∧ W.cell? ⟨b, o + j, none⟩ = some (.int .i64 ((L.getD j 0 : Nat) : Int))) := fun W bW j hj => by
    obtain ⟨a', c', e, hk⟩ := HVC0.out W bW
    simp only [Value.slice.injEq] at e
    obtain ⟨b, o, e2, hc⟩ := hk j (by rw [List.length_map, Hq.out]; exact hj)
    rw [nat_atT] at hc
    exact ⟨b, o, by rw [e.1, e2], hc⟩
  have hqn : q < n := by omega
  rw [Ht.out]
  obtain ⟨news, Hnews⟩ : ∃ news, Hid ((L.map Int.ofNat).map (Value.int .i64) = news) := ⟨_, rfl⟩
  rw [Hnews.out] at HSRC
  have HONE : Hid (∀ u ∈ news, u.oneCell' = true) := fun u hu => by
    rw [← Hnews.out] at hu
    obtain ⟨i, _, rfl⟩ := List.mem_map.1 hu
    rfl
  obtain ⟨w0, Hw0⟩ : ∃ w0, Hid (w.alloc (.cells #[.int .i64 (n : Int), tv] 24) = w0) := ⟨_, rfl⟩
  rw [Hw0.out] at b1 HX
  have HX2 : Hid (∀ W, Below w0.heap.size w0 W → W.cell? ⟨w.heap.size, 0, none⟩ = some (.int .i64 (n : Int)) ∧ W.cell? ⟨w.heap.size, 1, none⟩ = some tv) := HX
  have HB0 : Hid (∀ W, Below w0.heap.size w0 W → Below w.heap.size w W) := fun W b => Below.next b1 b
  have HIH : Hid (∀ (b : Nat) (v' : Value) (W : World), b < n → L.contains b = false → Below w0.heap.size w0 W → Sl W v' ((L ++ [b]).map Int.ofNat) → Calls Try.prog 37 #[.agg #[.int .i64 (n : Int), tv], v', .bool rg] W fun e w' => (∃ y, e = .returned (.tuple #[.int .i64 ((wk n t rg k (L ++ [b])).1 : Int), y]) ∧ Sl w' y ((wk n t rg k (L ++ [b])).2.map Int.ofNat)) ∧ Below W.heap.size W w') := fun b v' W hbn _ bW hs => HIH0.out b v' W hbn (HB0.out W bW) hs
  obtain ⟨x0, x1⟩ := HX2.out w0 (Below.refl _ _)
  rw [← Hw0.out] at x0 x1
  have heq : ((q : Int) == (n : Int)) = false := by simp; omega
  have hne : ¬ (q : Int) = (n : Int) := by omega
  have HB1 : Hid (Below w.heap.size w w0) := b1
  clear HX b1 hbe hih ih ht hb HIH0 HVC0 hp9 hg
  go_enter Try.func37, Try.ntmps37
  go_wp2
  rw [Hw0.out]
  go_loopw [10, 11, 12] (fun mv fv bv wr => ∃ (b m : Nat) (f : List Nat), bv = .int .i64 (b : Int) ∧ mv = .int .i64 (m : Int) ∧ b ≤ n ∧ m ≤ 400000000 ∧ Hid ((wkT n t rg k L b).1 = m) ∧ Hid ((wkT n t rg k L b).2 = f) ∧ Sl wr fv (f.map Int.ofNat) ∧ Below w0.heap.size w0 wr) (fun _ _ bv _ => (n - intOf bv).toNat)
  case atStart => exact ⟨0, 0, [], rfl, rfl, by omega, by omega, by show _ = _; rw [HW0.out], by show _ = _; rw [HW0.out], Sl.nil _, Below.refl _ _⟩
  case round =>
    clear x0 x1 heq hne
    obtain ⟨b, m, f, rfl, rfl, hbn, hm9, Hm, Hf, hfy, hB⟩ := hrel
    by_cases hlt : b < n
    · have hdb : decide ((b : Int) < (n : Int)) = true := by simp; omega
      have hbi : (b : Int) < (n : Int) := by omega
      go_wp2
      go_loopw [13, 14] (fun iv jv w_ => ∃ (i : Nat) (g : Bool), jv = .int .i64 (i : Int) ∧ iv = .bool g ∧ i ≤ q ∧ Hid ((L.take i).contains b = g) ∧ w_ = wr) (fun _ jv _ => (q - intOf jv).toNat)
      case atStart => exact ⟨0, false, rfl, rfl, by omega, by show _ = _; simp, rfl⟩
      case round =>
        obtain ⟨i, g, rfl, rfl, hiq, HG, hw⟩ := hrel
        replace hw := hw.symm
        subst hw
        by_cases hli : i < q
        · have hdi : decide ((i : Int) < (q : Int)) = true := by simp; omega
          have hii : (i : Int) < (q : Int) := by omega
          obtain ⟨b2, o2, rfl, hc⟩ := HVC.out _ (HB0.out _ hB) i hli
          obtain ⟨x, Hx⟩ : ∃ x, Hid (L.getD i 0 = x) := ⟨_, rfl⟩
          have hmo := HTM.out b i hli
          rw [Hx.out] at hc hmo
          rw [HG.out] at hmo
          cases g with
          | true =>
            have HG2 : Hid ((L.take (i + 1)).contains b = true) := by show _ = _; rw [hmo]; rfl
            clear hmo hc
            go_wp2
            go_roundw
            case rel => exact ⟨i + 1, true, by go_num, rfl, by omega, HG2, by first | rfl | trivial⟩
            case measure => simp [intOf]; omega
          | false =>
            by_cases hxb : x = b
            · have hxe : ((x : Int) == (b : Int)) = true := by simp [hxb]
              have HG2 : Hid ((L.take (i + 1)).contains b = true) := by show _ = _; rw [hmo, hxb]; simp
              clear hmo hxb
              go_wp2
              go_roundw
              case rel => exact ⟨i + 1, true, by go_num, rfl, by omega, HG2, by first | rfl | trivial⟩
              case measure => simp [intOf]; omega
            · have hxe : ((x : Int) == (b : Int)) = false := by simp; omega
              have HG2 : Hid ((L.take (i + 1)).contains b = false) := by show _ = _; rw [hmo]; simp [hxb]
              clear hmo hxb
              go_wp2
              go_roundw
              case rel => exact ⟨i + 1, false, by go_num, rfl, by omega, HG2, by first | rfl | trivial⟩
              case measure => simp [intOf]; omega
        · have hdi : decide ((i : Int) < (q : Int)) = false := by simp; omega
          have hdin : decide (i < q) = false := by simp; omega
          have HC : Hid (L.contains b = g) := by show _ = _; rw [← HG.out, HTA.out i (by omega)]
          cases g with
          | true =>
            have HS := HIN.out b HC.out
            have HW1 : Hid ((wkT n t rg k L (b + 1)).1 = m) := by show _ = _; rw [HS, Hm.out]
            have HW2 : Hid ((wkT n t rg k L (b + 1)).2 = f) := by show _ = _; rw [HS, Hf.out]
            clear HS
            go_wp2
            go_roundw
            case rel => exact ⟨b + 1, m, f, by go_num, rfl, by omega, hm9, HW1, HW2, hfy, hB⟩
            case measure => simp [intOf]; omega
          | false =>
            have HNI : Hid (L.contains b = false) := HC.out
            by_cases hq0 : q = 0
            · have hd0 : decide ((0 : Int) < (q : Int)) = false := by simp; omega
              have hd0n : decide (0 < q) = false := by simp; omega
              have HON := HONW.out b HC.out (.inl hq0)
              have HON : Hid (wkT n t rg k L (b + 1) = ((wkT n t rg k L b).1 + (wk n t rg k (L ++ [b])).1, if (wkT n t rg k L b).1 == 0 && decide (0 < (wk n t rg k (L ++ [b])).1) then (wk n t rg k (L ++ [b])).2 else (wkT n t rg k L b).2)) := HON
              clear HIN HNOT HONW HG HC hq0
              have hBt := hB
              have hft := hfy
              clear hB hfy
              have HE1 : Hid ((wr.alloc (.cells #[] 3)).ownsRow wr.heap.size 3 1 (.slice (some ⟨wr.heap.size, 0, none⟩) 0 0) 0 []) := ⟨rfl, .inr ⟨wr.heap.size, 0, #[], rfl, Nat.le_refl _, heap_alloc_new wr _, Nat.le_refl _, by unfold maxLen; omega, rfl, rfl⟩⟩
              have hszt := hBt.size
              have HS1 : Hid (SrcC (wr.alloc (.cells #[] 3)) (.slice va q vc) q news) := HSRC.out _ (HB0.out _ (hBt.alloc hszt _))
              have hb0 : Below wr.heap.size wr (wr.alloc (.cells #[] 3)) := (Below.refl _ _).alloc (Nat.le_refl _) _
              go_wp2_with (first
                | (at_builtin; refine wpList_append_srcC _ rfl _ _ 22 rfl wr.heap.size 3 i3 (.int .i64 0) 8 und22 hi3 hz0 hz1 hz2 rfl _ 0 [] rfl HE1.out _ q news rfl HS1.out HONE.out ?c14A3 ?c14A4 (by simp) ?_)
                | go_in)
              case c14A3 => unfold maxLen; omega
              case c14A4 => omega
              intro v1 w1 hown hgr
              rw [← Hnews.out] at hown
              have hb1 : Below wr.heap.size wr w1 := hb0.grown hgr (by simp) (fun k hk => (HE1.out.lt k hk).1)
              have hbw1 : Below w0.heap.size w0 w1 := hBt.trans (hb1.mono hszt)
              have hs1 := hb1.size
              have HTW : Hid (Below wr.heap.size wr w1) := hb1
              clear HE1 HS1 hb0 hgr hb1
              obtain ⟨oa, oc, rfl⟩ := own_form hown
              go_wp2_with (first
                | (at_builtin; refine wpList_append_own _ rfl _ _ 22 rfl wr.heap.size 3 i3 (.int .i64 0) 1 8 und22 hi3 hz0 hz1 hz2 rfl (by decide) _ _ _ rfl (hown.alloc _) ⟨w1.heap.size, 0, none⟩ 1 1 [.int .i64 (b : Int)] rfl rfl (fun j u hj => by (match j, hj with | 0, hj => simp at hj; subst hj; simp [Addr.add])) (fun u hu => by (simp at hu; subst hu; rfl)) ?c14B3 ?c14B4 ?c14B5 ?_)
                | go_in)
              case c14B3 => unfold maxLen; omega
              case c14B4 => omega
              case c14B5 => simp; omega
              intro v' w4 hown' hgrow _
              have hb4 : Below wr.heap.size wr w4 := (HTW.out.trans ((balloc w1 (.cells #[.int .i64 (b : Int)] 3)).mono hs1)).grown hgrow (by simp; omega) (fun k hk => (hown.lt k hk).1)
              have hbw4 : Below w0.heap.size w0 w4 := hBt.trans (hb4.mono hszt)
              have hsl : Sl w4 v' ((L ++ [b]).map Int.ofNat) := Sl.owned (by rw [List.length_map, List.length_append, Hq.out]; simpa using hown')
              have hf4 : Sl w4 u11 (f.map Int.ofNat) := hft.below hb4
              obtain ⟨z0, z1⟩ := HX2.out w4 hbw4
              have C4 := HIH.out b v' w4 hlt HNI.out hbw4 hsl
              obtain ⟨m2, Hm2⟩ : ∃ m2, Hid ((wk n t rg k (L ++ [b])).1 = m2) := ⟨_, rfl⟩
              obtain ⟨f2, Hf2⟩ : ∃ f2, Hid ((wk n t rg k (L ++ [b])).2 = f2) := ⟨_, rfl⟩
              rw [Hm2.out, Hf2.out] at C4
              have hm2 : m2 ≤ 400000000 := by rw [← Hm2.out]; exact HW9.out b
              have HON2 : Hid (wkT n t rg k L (b + 1) = (m + m2, if m == 0 && decide (0 < m2) then f2 else f)) := by show _ = _; rw [HON.out, Hm.out, Hf.out, Hm2.out, Hf2.out]
              have hmm : m + m2 ≤ 400000000 := by have h := HBD.out (b + 1) (by omega); rw [HON2.out] at h; exact h
              clear hown hown' hgrow hsl hft hBt HTW hb4
              by_cases hm0 : m = 0
              · subst hm0
                by_cases hp : 0 < m2
                · have hd2 : decide ((0 : Int) < (m2 : Int)) = true := by simp; omega
                  have hd2n : decide (0 < m2) = true := by simp; omega
                  have HW1 : Hid ((wkT n t rg k L (b + 1)).1 = m2) := by show _ = _; rw [HON2.out]; simp
                  have HW2 : Hid ((wkT n t rg k L (b + 1)).2 = f2) := by show _ = _; rw [HON2.out, hd2n]; rfl
                  clear hm2 HON2 hp
                  go_wp2_with (first | (go_at_call 37; refine C4.mono ?_; rintro e w5 ⟨⟨y, rfl, hy⟩, b5⟩; clear C4) | go_in)
                  have hB5 := hbw4.trans (b5.mono hbw4.size)
                  go_roundw
                  case rel => exact ⟨b + 1, m2, f2, by go_num, by go_num, by omega, by omega, HW1, HW2, hy, hB5⟩
                  case measure => simp [intOf]; omega
                · have hd2 : decide ((0 : Int) < (m2 : Int)) = false := by simp; omega
                  have hd2n : decide (0 < m2) = false := by simp; omega
                  have HW1 : Hid ((wkT n t rg k L (b + 1)).1 = m2) := by show _ = _; rw [HON2.out]; simp
                  have HW2 : Hid ((wkT n t rg k L (b + 1)).2 = f) := by show _ = _; rw [HON2.out, hd2n]; rfl
                  clear hm2 HON2 hp
                  go_wp2_with (first | (go_at_call 37; refine C4.mono ?_; rintro e w5 ⟨⟨y, rfl, hy⟩, b5⟩; clear C4) | go_in)
                  have hB5 := hbw4.trans (b5.mono hbw4.size)
                  have hf5 := hf4.below b5
                  go_roundw
                  case rel => exact ⟨b + 1, m2, f, by go_num, by go_num, by omega, by omega, HW1, HW2, hf5, hB5⟩
                  case measure => simp [intOf]; omega
              · have hmb : ((m : Int) == 0) = false := by simp [hm0]
                have HW1 : Hid ((wkT n t rg k L (b + 1)).1 = m + m2) := by show _ = _; rw [HON2.out]
                have HW2 : Hid ((wkT n t rg k L (b + 1)).2 = f) := by show _ = _; rw [HON2.out, show (m == 0) = false by simp [hm0]]; rfl
                clear hm2 HON2 hm0
                go_wp2_with (first | (go_at_call 37; refine C4.mono ?_; rintro e w5 ⟨⟨y, rfl, hy⟩, b5⟩; clear C4) | go_in)
                have hB5 := hbw4.trans (b5.mono hbw4.size)
                have hf5 := hf4.below b5
                go_roundw
                case rel => exact ⟨b + 1, m + m2, f, by go_num, by go_num, by omega, by omega, HW1, HW2, hf5, hB5⟩
                case measure => simp [intOf]; omega
            · have hd0 : decide ((0 : Int) < (q : Int)) = true := by simp; omega
              have hd0n : decide (0 < q) = true := by simp; omega
              obtain ⟨m1, Hm1⟩ : ∃ m1, Hid (q - 1 = m1) := ⟨_, rfl⟩
              have hmi : (q : Int) - 1 = (m1 : Int) := by rw [← Hm1.out]; omega
              have hmq : m1 < q := by rw [← Hm1.out]; omega
              have hmqi : (m1 : Int) < (q : Int) := by omega
              have hwm : IntKind.i64.wrap (m1 : Int) = (m1 : Int) := by rw [IntKind.wrap_i64]; omega
              obtain ⟨p, Hp⟩ : ∃ p, Hid (L.getD m1 0 = p) := ⟨_, rfl⟩
              have hpn : p < n := by rw [← Hp.out]; exact HLN.out m1 hmq
              obtain ⟨g2, Hg2⟩ : ∃ g2, Hid (t p b = g2) := ⟨_, rfl⟩
              obtain ⟨b2, o2, rfl, hc⟩ := HVC.out _ (HB0.out _ hB) m1 hmq
              rw [Hp.out] at hc
              obtain ⟨x0, x1⟩ := HX2.out _ hB
              have C := HBE.out _ (HB0.out _ hB.drew) p b hpn hlt
              rw [Hg2.out] at C
              have hSA : wr.drew.cell? ⟨w.heap.size, 0, none⟩ = some (.int .i64 (n : Int)) ∧ wr.drew.cell? ⟨w.heap.size, 1, none⟩ = some tv ∧ wr.drew.cell? ⟨b2, o2 + m1, none⟩ = some (.int .i64 (p : Int)) := ⟨x0, x1, hc⟩
              have HK5 : Hid (∀ w5, Below wr.drew.heap.size wr.drew w5 → w5.cell? ⟨w.heap.size, 0, none⟩ = some (.int .i64 (n : Int)) ∧ w5.cell? ⟨w.heap.size, 1, none⟩ = some tv ∧ w5.cell? ⟨b2, o2 + m1, none⟩ = some (.int .i64 (p : Int))) := fun w5 b5 => ⟨(b5.cell (World.block_lt_of_cell? _ _ hSA.1)).trans hSA.1, (b5.cell (World.block_lt_of_cell? _ _ hSA.2.1)).trans hSA.2.1, (b5.cell (World.block_lt_of_cell? _ _ hSA.2.2)).trans hSA.2.2⟩
              have HBD5 : Hid (Below w0.heap.size w0 wr.drew) := hB.drew
              have HFD5 : Hid (Sl wr.drew u11 (f.map Int.ofNat)) := hfy.below (Below.refl _ _).drew
              have HNB := HNOT.out b (by omega)
              rw [Hm1.out, Hp.out, Hg2.out] at HNB
              have HOB := HONW.out b HC.out
              rw [Hm1.out, Hp.out, Hg2.out] at HOB
              have HNB : Hid (g2 = false → wkT n t rg k L (b + 1) = wkT n t rg k L b) := HNB
              have HOB : Hid (g2 = true → wkT n t rg k L (b + 1) = ((wkT n t rg k L b).1 + (wk n t rg k (L ++ [b])).1, if (wkT n t rg k L b).1 == 0 && decide (0 < (wk n t rg k (L ++ [b])).1) then (wk n t rg k (L ++ [b])).2 else (wkT n t rg k L b).2)) := fun h => HOB (.inr h)
              clear HIN HNOT HONW HG HC x0 x1 hc hB hfy
              go_wp2_with fail
              go_region_held3 (fun W : World => W.cell? ⟨w.heap.size, 0, none⟩ = some (.int .i64 (n : Int)) ∧ W.cell? ⟨w.heap.size, 1, none⟩ = some tv ∧ W.cell? ⟨b2, o2 + m1, none⟩ = some (.int .i64 (p : Int))) (first | assumption) (first | (go_at_call 29; refine C.mono ?_; rintro e w5 ⟨rfl, b5⟩; have hS5 := HK5.out w5 b5; have hBt := HBD5.out.trans (b5.mono HBD5.out.size); have hft := HFD5.out.below b5; clear C))
              clear hSA HK5 HBD5 HFD5
              cases g2 with
              | false =>
                have HS := HNB.out rfl
                have HW1 : Hid ((wkT n t rg k L (b + 1)).1 = m) := by show _ = _; rw [HS, Hm.out]
                have HW2 : Hid ((wkT n t rg k L (b + 1)).2 = f) := by show _ = _; rw [HS, Hf.out]
                clear HS
                go_wp2
                go_roundw
                case rel => exact ⟨b + 1, m, f, by go_num, rfl, by omega, hm9, HW1, HW2, hft, hBt⟩
                case measure => simp [intOf]; omega
              | true =>
                have HON := HOB.out rfl
                have HON : Hid (wkT n t rg k L (b + 1) = ((wkT n t rg k L b).1 + (wk n t rg k (L ++ [b])).1, if (wkT n t rg k L b).1 == 0 && decide (0 < (wk n t rg k (L ++ [b])).1) then (wk n t rg k (L ++ [b])).2 else (wkT n t rg k L b).2)) := HON
                clear hS5
                have HE1 : Hid ((w5.alloc (.cells #[] 3)).ownsRow w5.heap.size 3 1 (.slice (some ⟨w5.heap.size, 0, none⟩) 0 0) 0 []) := ⟨rfl, .inr ⟨w5.heap.size, 0, #[], rfl, Nat.le_refl _, heap_alloc_new w5 _, Nat.le_refl _, by unfold maxLen; omega, rfl, rfl⟩⟩
                have hszt := hBt.size
                have HS1 : Hid (SrcC (w5.alloc (.cells #[] 3)) (.slice (some ⟨b2, o2, none⟩) q vc) q news) := HSRC.out _ (HB0.out _ (hBt.alloc hszt _))
                have hb0 : Below w5.heap.size w5 (w5.alloc (.cells #[] 3)) := (Below.refl _ _).alloc (Nat.le_refl _) _
                go_wp2_with (first
                  | (at_builtin; refine wpList_append_srcC _ rfl _ _ 22 rfl w5.heap.size 3 i3 (.int .i64 0) 8 und22 hi3 hz0 hz1 hz2 rfl _ 0 [] rfl HE1.out _ q news rfl HS1.out HONE.out ?c16A3 ?c16A4 (by simp) ?_)
                  | go_in)
                case c16A3 => unfold maxLen; omega
                case c16A4 => omega
                intro v1 w1 hown hgr
                rw [← Hnews.out] at hown
                have hb1 : Below w5.heap.size w5 w1 := hb0.grown hgr (by simp) (fun k hk => (HE1.out.lt k hk).1)
                have hbw1 : Below w0.heap.size w0 w1 := hBt.trans (hb1.mono hszt)
                have hs1 := hb1.size
                have HTW : Hid (Below w5.heap.size w5 w1) := hb1
                clear HE1 HS1 hb0 hgr hb1
                obtain ⟨oa, oc, rfl⟩ := own_form hown
                go_wp2_with (first
                  | (at_builtin; refine wpList_append_own _ rfl _ _ 22 rfl w5.heap.size 3 i3 (.int .i64 0) 1 8 und22 hi3 hz0 hz1 hz2 rfl (by decide) _ _ _ rfl (hown.alloc _) ⟨w1.heap.size, 0, none⟩ 1 1 [.int .i64 (b : Int)] rfl rfl (fun j u hj => by (match j, hj with | 0, hj => simp at hj; subst hj; simp [Addr.add])) (fun u hu => by (simp at hu; subst hu; rfl)) ?c16B3 ?c16B4 ?c16B5 ?_)
                  | go_in)
                case c16B3 => unfold maxLen; omega
                case c16B4 => omega
                case c16B5 => simp; omega
                intro v' w4 hown' hgrow _
                have hb4 : Below w5.heap.size w5 w4 := (HTW.out.trans ((balloc w1 (.cells #[.int .i64 (b : Int)] 3)).mono hs1)).grown hgrow (by simp; omega) (fun k hk => (hown.lt k hk).1)
                have hbw4 : Below w0.heap.size w0 w4 := hBt.trans (hb4.mono hszt)
                have hsl : Sl w4 v' ((L ++ [b]).map Int.ofNat) := Sl.owned (by rw [List.length_map, List.length_append, Hq.out]; simpa using hown')
                have hf4 : Sl w4 u11 (f.map Int.ofNat) := hft.below hb4
                obtain ⟨z0, z1⟩ := HX2.out w4 hbw4
                have C4 := HIH.out b v' w4 hlt HNI.out hbw4 hsl
                obtain ⟨m2, Hm2⟩ : ∃ m2, Hid ((wk n t rg k (L ++ [b])).1 = m2) := ⟨_, rfl⟩
                obtain ⟨f2, Hf2⟩ : ∃ f2, Hid ((wk n t rg k (L ++ [b])).2 = f2) := ⟨_, rfl⟩
                rw [Hm2.out, Hf2.out] at C4
                have hm2 : m2 ≤ 400000000 := by rw [← Hm2.out]; exact HW9.out b
                have HON2 : Hid (wkT n t rg k L (b + 1) = (m + m2, if m == 0 && decide (0 < m2) then f2 else f)) := by show _ = _; rw [HON.out, Hm.out, Hf.out, Hm2.out, Hf2.out]
                have hmm : m + m2 ≤ 400000000 := by have h := HBD.out (b + 1) (by omega); rw [HON2.out] at h; exact h
                clear hown hown' hgrow hsl hft hBt HTW hb4
                by_cases hm0 : m = 0
                · subst hm0
                  by_cases hp : 0 < m2
                  · have hd2 : decide ((0 : Int) < (m2 : Int)) = true := by simp; omega
                    have hd2n : decide (0 < m2) = true := by simp; omega
                    have HW1 : Hid ((wkT n t rg k L (b + 1)).1 = m2) := by show _ = _; rw [HON2.out]; simp
                    have HW2 : Hid ((wkT n t rg k L (b + 1)).2 = f2) := by show _ = _; rw [HON2.out, hd2n]; rfl
                    clear hm2 HON2 hp
                    go_wp2_with (first | (go_at_call 37; refine C4.mono ?_; rintro e w5 ⟨⟨y, rfl, hy⟩, b5⟩; clear C4) | go_in)
                    have hB5 := hbw4.trans (b5.mono hbw4.size)
                    go_roundw
                    case rel => exact ⟨b + 1, m2, f2, by go_num, by go_num, by omega, by omega, HW1, HW2, hy, hB5⟩
                    case measure => simp [intOf]; omega
                  · have hd2 : decide ((0 : Int) < (m2 : Int)) = false := by simp; omega
                    have hd2n : decide (0 < m2) = false := by simp; omega
                    have HW1 : Hid ((wkT n t rg k L (b + 1)).1 = m2) := by show _ = _; rw [HON2.out]; simp
                    have HW2 : Hid ((wkT n t rg k L (b + 1)).2 = f) := by show _ = _; rw [HON2.out, hd2n]; rfl
                    clear hm2 HON2 hp
                    go_wp2_with (first | (go_at_call 37; refine C4.mono ?_; rintro e w5 ⟨⟨y, rfl, hy⟩, b5⟩; clear C4) | go_in)
                    have hB5 := hbw4.trans (b5.mono hbw4.size)
                    have hf5 := hf4.below b5
                    go_roundw
                    case rel => exact ⟨b + 1, m2, f, by go_num, by go_num, by omega, by omega, HW1, HW2, hf5, hB5⟩
                    case measure => simp [intOf]; omega
                · have hmb : ((m : Int) == 0) = false := by simp [hm0]
                  have HW1 : Hid ((wkT n t rg k L (b + 1)).1 = m + m2) := by show _ = _; rw [HON2.out]
                  have HW2 : Hid ((wkT n t rg k L (b + 1)).2 = f) := by show _ = _; rw [HON2.out, show (m == 0) = false by simp [hm0]]; rfl
                  clear hm2 HON2 hm0
                  go_wp2_with (first | (go_at_call 37; refine C4.mono ?_; rintro e w5 ⟨⟨y, rfl, hy⟩, b5⟩; clear C4) | go_in)
                  have hB5 := hbw4.trans (b5.mono hbw4.size)
                  have hf5 := hf4.below b5
                  go_roundw
                  case rel => exact ⟨b + 1, m + m2, f, by go_num, by go_num, by omega, by omega, HW1, HW2, hf5, hB5⟩
                  case measure => simp [intOf]; omega
    · have hdb : decide ((b : Int) < (n : Int)) = false := by simp; omega
      have hdbn : decide (b < n) = false := by simp; omega
      obtain rfl : b = n := by omega
      go_wp2
      go_ret2
      exact ⟨⟨_, by rw [Hm.out]; rfl, by rw [Hf.out]; exact hfy⟩, HB0.out _ hB⟩
theorem walked_any {n : Nat} {l : List Int} (hg : GoodT n l) (rg : Bool) : ∀ k, WkP n l rg k
  | 0 => fun L tv v w ht hv hl hb => walked_end hg rg L tv v w ht hv (by omega) hb
  | k + 1 => walked_on hg rg k (walked_any hg rg k)
end Go.Proofs.Ytgkfddcmngodgaa
