/- The law CountPolya, walked, where makers are makers. -/
import Derived.Test.YtmaplmgecohjbaaE5
import Derived.Test.YtmaplmgecohjbaaC11
import Derived.Test.YtmaplmgecohjbaaC9
import Derived.Test.YtmaplmgecohjbaaE2
import Derived.Test.YtmaplmgecohjbaaC14
import Derived.Test.YtmaplmgecohjbaaF3
import Derived.Test.YtmaplmgecohjbaaG12
import Derived.Test.YtmaplmgecohjbaaF5
import Derived.Test.YtmaplmgecohjbaaC13
import Derived.Test.YtmaplmgecohjbaaF7
import Derived.Test.YtmaplmgecohjbaaC7
import Derived.Test.YtmaplmgecohjbaaGL3
/- The walk of Content. -/
/- The walk of filled. -/
namespace Go.Proofs.Ytmaplmgecohjbaa
open Go.RowKit Go.Maps Go.Shelf

theorem clone_room (many : List Nat) (u : Value) (w : World) (hu : Sl w u (many.map Int.ofNat)) (h1 : 1 ≤ many.length) (h8 : many.length ≤ 8) :
    Calls Try.prog 70 #[u] w fun e w' => (∃ g cap, e = .returned (.slice (some ⟨g, 0, none⟩) many.length cap) ∧ w.heap.size ≤ g ∧ Own w' g many.length (fun j => (many.getD j 0 : Int))) ∧ Below w.heap.size w w' := by
  obtain ⟨i3, ti, tz0, tz1, tz2⟩ := info3
  obtain ⟨a, cap, rfl, hc⟩ := hu
  rw [List.length_map] at hc ⊢
  obtain ⟨b, off, rfl, _⟩ := hc 0 (by omega)
  have hnews : ∀ j v, (vl many)[j]? = some v → w.cell? ⟨b, off + j, none⟩ = some v := fun j v hv => by
    have hj : j < many.length := by have := (List.getElem?_eq_some_iff.1 hv).1; simpa [vl] using this
    obtain ⟨b', off', e, h⟩ := hc j hj
    simp only [Option.some.injEq, Addr.mk.injEq, and_true] at e
    obtain ⟨rfl, rfl⟩ := e
    rw [h]
    simp [vl, hj] at hv ⊢
    exact hv
  have C := AnyE.slices_Clone cloneInt i3 (.int .i64 0) 1 8 ti tz0 tz1 tz2 (by simp [Value.cells]) (by omega) sizeOf3' b off many.length cap (vl many) w (by simp [vl]) (by unfold maxLen; omega) (by omega) hnews (fun u hu => by
    simp only [vl, List.mem_map] at hu
    obtain ⟨x, _, rfl⟩ := hu
    rfl)
  change Calls Try.prog 70 _ _ _ at C
  refine C.mono (fun e w' ⟨v', e1, e2, _, e4⟩ => ?_)
  obtain ⟨g, cap, rfl, hg, hO⟩ := Own.of (l := many.map Int.ofNat) e2 h1
  refine ⟨⟨g, cap, e1, hg, hO.congr fun j hj => ?_⟩, e4⟩
  simp [hj]

theorem lenIs_of_own {w w' : World} {base g : Nat} {u : Value} {ls : List Nat} (h : w.ownsRow base 3 1 u ls.length (intL ls)) (hb : Below w.heap.size w w') (hg : w.heap.size ≤ g) : LenIs w' g u ls := by
  obtain ⟨_, ⟨rfl, h0⟩ | ⟨b, cap, cur, rfl, _, hcur, hle, _, hsz, ht⟩⟩ := h
  · exact ⟨none, 0, by rw [h0], by omega, fun j hj => absurd hj (by omega)⟩
  · have hbl : b < w.heap.size := (Array.getElem?_eq_some_iff.1 hcur).1
    refine ⟨_, cap, rfl, hle, fun j hj => ⟨b, 0, rfl, by omega, ?_⟩⟩
    rw [hb.cell (p := ⟨b, 0 + j, none⟩) hbl, cell_of_row w b _ cur 3 (0, 0) hcur]
    have h2 : (cur.toList.take (ls.length * 1))[j]? = (intL ls)[j]? := by rw [ht]
    rw [List.getElem?_take, if_pos (by omega)] at h2
    rw [Nat.zero_add, ← Array.getElem?_toList, h2]
    simp [intL, hj]
theorem desc_mem {x : List Nat} {v : Nat} (h : v ∈ desc x 7) : v ≤ 7 := by
  have := List.count_pos_iff.2 h
  rw [count_desc] at this
  split at this <;> omega
theorem desc_len7 {x : List Nat} (h : SmK x) (h7 : x.sum ≤ 7) : (desc x 7).length ≤ 7 := by
  rw [desc_len]
  have := all7_sum h.1
  unfold all7 at this
  omega
theorem Only.grown {g : Nat} {w w' : World} (h : Only g w w') : w.grownBy w' (some g) := ⟨h.1.os, h.1.tape, h.1.output, Nat.le_of_eq h.2.1.symm, fun k _ hk => h.2.2 k (fun e => hk (by rw [e]))⟩
theorem sum_one (L : List (List Nat)) : (L.map fun _ => (1 : Int)).sum = L.length := by
  induction L with
  | nil => rfl
  | cons a l ih => rw [List.map_cons, List.sum_cons, ih, List.length_cons]; omega
theorem sum_bd {L : List (List Nat)} {F : List Nat → Int} {M : Int} (h : ∀ y ∈ L, F y ≤ M) : (L.map F).sum ≤ L.length * M := by
  induction L with
  | nil => simp
  | cons a l ih =>
    have h1 := ih fun y hy => h y (by simp [hy])
    have h2 := h a (by simp)
    rw [List.map_cons, List.sum_cons, List.length_cons, Int.natCast_succ, Int.add_mul, Int.one_mul]
    omega

set_option maxRecDepth 100000 in
set_option maxHeartbeats 4000000 in
theorem filled_any (B n : Nat) (D : DataW Unit) (L : List (List Nat)) (many : List Nat) (u : Value) (w : World) (hown : w.ownsMap Try.prog 75 (plainElem Try.prog 3) B n D) (hD : KindsIs D L) (hL : ∀ y ∈ L, SmK y ∧ y.sum ≤ 7) (hLl : L.length ≤ 6000) (hL1 : 1 ≤ L.length)
    (hu : Sl w u (many.map Int.ofNat)) (h1 : 1 ≤ many.length) (h8 : many.length ≤ 8) (h7 : ∀ c, many.getD c 0 ≤ 7) :
    Calls Try.prog 49 #[.map (some B), u] w fun e w' => e = .returned (.int .i64 ((L.map fun y => (fillsN many.length (desc y 7) (fun c => many.getD c 0) : Int)).sum.tdiv (L.length : Int))) ∧ Below w.heap.size w w' := by
  have hbl := hown.lt
  have hsz := hown.size_le
  have HL : Hid (∀ y ∈ L, SmK y ∧ y.sum ≤ 7) := hL
  have HL' : Hid (∀ y ∈ L, SmK y) := fun y hy => (hL y hy).1
  have HD : Hid (KindsIs D L) := hD
  obtain ⟨S0, HS0⟩ : ∃ S0, Hid (Maps.size D = S0) := ⟨_, rfl⟩
  rw [HS0.out] at hsz
  obtain ⟨k, Hk⟩ : ∃ k, Hid (many.length = k) := ⟨_, rfl⟩
  have HC := fun (W : World) (b : Below w.heap.size w W) => clone_room many u W (hu.below b) h1 h8
  rw [Hk.out] at HC h1 h8 ⊢
  obtain ⟨room, Hroom⟩ : ∃ room : Nat → Nat, Hid ((fun c => many.getD c 0) = room) := ⟨_, rfl⟩
  have er : (fun j => (many.getD j 0 : Int)) = fun j => (room j : Int) := by rw [← Hroom.out]
  rw [er] at HC
  replace h7 : ∀ c, room c ≤ 7 := by rw [← Hroom.out]; exact h7
  rw [Hroom.out]
  obtain ⟨F, HF⟩ : ∃ F : List Nat → Int, Hid ((fun y => (fillsN k (desc y 7) room : Int)) = F) := ⟨_, rfl⟩
  rw [HF.out]
  have HFe : Hid (∀ y, F y = (fillsN k (desc y 7) room : Int)) := fun y => by rw [← HF.out]
  have HF0 : ∀ y, 0 ≤ F y := fun y => by rw [HFe.out]; exact Int.natCast_nonneg _
  have HF9 : ∀ y ∈ L, F y ≤ 2097152 := fun y hy => by
    rw [HFe.out]
    have h2 := fills_le k (desc y 7) room
    have h3 := pow8 h8 (desc_len7 (hL y hy).1 (hL y hy).2)
    omega
  have hsF := sum_bd HF9
  have hs1 := sum_one L
  have HST : Hid (sumK L (Maps.has D) (fun _ => 1) = 0 ∧ sumK L (Maps.has D) F = 0) := ⟨sumK_start hD _, sumK_start hD _⟩
  have HBD : Hid (∀ left, 0 ≤ sumK L left (fun _ => 1) ∧ sumK L left (fun _ => 1) ≤ 6000 ∧ 0 ≤ sumK L left F ∧ sumK L left F ≤ 12582912000) := fun left => by
    have e1 := sumK_bd (L := L) (left := left) (F := fun _ => (1 : Int)) (fun _ => by omega)
    have e2 := sumK_bd (L := L) (left := left) (F := F) HF0
    have : (L.length : Int) * 2097152 ≤ 6000 * 2097152 := Int.mul_le_mul_of_nonneg_right (by omega) (by omega)
    omega
  have HFF : Hid (∀ y ∈ L, 0 ≤ F y ∧ F y ≤ 2097152) := fun y hy => ⟨HF0 y, HF9 y hy⟩
  obtain ⟨tot, Htot⟩ : ∃ tot, Hid ((L.map F).sum = tot) := ⟨_, rfl⟩
  obtain ⟨len, Hlen⟩ : ∃ len : Nat, Hid (L.length = len) := ⟨_, rfl⟩
  rw [Htot.out, Hlen.out]
  rw [Hlen.out] at hLl hL1
  obtain ⟨R, HR⟩ : ∃ R : Int, Hid (tot.tdiv (len : Int) = R) := ⟨_, rfl⟩
  rw [HR.out]
  have H7 : Hid (∀ c, room c ≤ 7) := h7
  have Hfill : Hid (FillsP k = FillsP k ∧ ∀ ls, FillsP k ls) := ⟨rfl, fills_any k h8⟩
  clear hL hD h7 HF0 HF9 hsF hs1 er
  obtain ⟨ua, um, uc, rfl⟩ : ∃ a m c, u = .slice a m c := by obtain ⟨a, c, e, _⟩ := hu; exact ⟨a, _, c, e⟩
  go_enter Try.func49, Try.ntmps49
  go_wp2_with (first
    | (at_range; refine wpList_range_own _ rfl _ 52 rfl 75 3 keyed75 und52k _ B n _ rfl hown ?_; intro w0 hrg0 hg0 hs0)
    | go_in)
  try go_frame
  go_loopw [5, 6] (fun a b wr => ∃ (left : Lit → Bool) (cnt : Nat), wr.ranges Try.prog 75 (plainElem Try.prog 3) B w.heap.size n D left cnt ∧ a = .int .i64 (sumK L left (fun _ => 1)) ∧ b = .int .i64 (sumK L left F) ∧ Below w.heap.size w wr)
    (fun _ _ wr => wr.rangeLeft B w.heap.size)
  case atStart =>
    exact ⟨_, _, hrg0, by rw [HST.out.1], by rw [HST.out.2], (Below.refl _ _).grown hg0 (Nat.le_refl _) (fun j hj => by cases hj)⟩
  case round =>
    clear HST hrg0 hg0 hs0
    obtain ⟨left, cnt, hrg, rfl, rfl, hnx⟩ := hrel
    obtain ⟨t, Ht⟩ : ∃ t, Hid (sumK L left (fun _ => 1) = t) := ⟨_, rfl⟩
    obtain ⟨s, Hs⟩ : ∃ s, Hid (sumK L left F = s) := ⟨_, rfl⟩
    obtain ⟨hb1, hb2, hb3, hb4⟩ := HBD.out left
    rw [Ht.out] at hb1 hb2
    rw [Hs.out] at hb3 hb4
    rw [Ht.out, Hs.out]
    go_wp2_with (first
      | (at_next; refine wpList_next_ranges _ rfl _ rfl 75 keyed75 (plainElem Try.prog 3) (fun v : Value => v) (Value.int .i64) (fun key kl _ => ⟨key, rfl⟩) (fun v y hv => by obtain ⟨c, rfl, _⟩ := plainElem_int_inv und3 hv; exact ⟨c, rfl⟩) B w.heap.size n _ _ _ rfl hrg ?_ ?_)
      | go_in)
    · intro hc0 hl0
      have e1 : t = (len : Int) := by rw [← Ht.out, sumK_all hl0, sum_one, Hlen.out]
      have e2 : s = tot := by rw [← Hs.out, sumK_all hl0, Htot.out]
      have HRR : Hid (s / t = R) := by
        show s / t = R
        rw [← HR.out, ← e1, ← e2, Int.tdiv_eq_ediv_of_nonneg (by omega)]
      have hRb : R ≤ s := by rw [← HRR.out]; exact Int.ediv_le_self _ (by omega)
      have hR0 : 0 ≤ R := by rw [← HRR.out]; exact Int.ediv_nonneg (by omega) (by omega)
      have ht0 : t ≠ 0 := by omega
      have hRR := HRR.out
      clear e1 e2 hl0
      go_wp2
      go_ret
      exact ⟨ret_int hRR, hnx⟩
    · intro key c kl yd yp w1 cnt1 hkey hlk hv hat hrg1 hlt hg1 hs1 hen
      obtain ⟨x, hxL, ekl⟩ := HD.out.has kl (has_true_of_atKey hat)
      subst ekl
      obtain ⟨hxs, hx7⟩ := HL.out x hxL
      have ek : key = mv x := keyed75.inj hkey (keyK_of hxs)
      subst ek
      obtain ⟨c', ec, ey, hwc⟩ := plainElem_int_inv und3 hv
      cases ec
      have hcx : c = (L.count x : Int) := by
        have h1 := hat (.lit (.int .i64 0))
        have ey1 : yd = .lit (.int .i64 c) := (Prod.mk.inj ey).1
        rw [HD.out.at_ x hxL, ey1] at h1
        simp only [DataW.lit.injEq, Lit.int.injEq, true_and] at h1
        exact h1.symm
      have hc1 : 1 ≤ c := by
        have := List.count_pos_iff.2 hxL
        omega
      have hc2 : c ≤ 6000 := by
        have := List.count_le_length (a := x) (l := L)
        rw [Hlen.out] at this
        omega
      have hnx1 : Below w.heap.size w w1 := hnx.grown hg1 hnx.size (fun j hj => by cases hj; omega)
      have hsize1 : w.heap.size < w1.heap.size := hrg1.lt
      unfold mv at hen ⊢
      obtain ⟨G, HG⟩ : ∃ G : Nat → Int, Hid ((fun j => (x.getD j 0 : Int)) = G) := ⟨_, rfl⟩
      rw [HG.out] at hen ⊢
      have hk0 := MRow.made 75 w1 (fun _ => 0)
      have hB0 := balloc w1 (.cells (mrow fun _ => 0) 75)
      have hk1 := hk0.whole G
      have hB1 : Below w1.heap.size w1 ((w1.alloc (.cells (mrow fun _ => 0) 75)).setRow w1.heap.size (mrow G)) := bsetRow hB0 (Nat.le_refl _) _
      have hCl := fun W => lengths_any x W hxs
      unfold mv at hCl
      rw [HG.out] at hCl
      obtain ⟨ls, Hls⟩ : ∃ ls, Hid (desc x 7 = ls) := ⟨_, rfl⟩
      have hfx := HFF.out x hxL
      have hls7 := desc_len7 hxs hx7
      have hlsm : ∀ v ∈ desc x 7, v ≤ 7 := fun v hv => desc_mem hv
      have hFx := HFe.out x
      rw [Hls.out] at hCl hls7 hlsm hFx
      obtain ⟨f, Hf⟩ : ∃ f : Nat, Hid (fillsN k ls room = f) := ⟨_, rfl⟩
      rw [Hf.out] at hFx
      rw [hFx] at hfx
      have hC3 := fun (g rc : Nat) (lv : Value) (W : World) (hl : LenIs W g lv ls) (ho : Own W g k (fun c => (room c : Int))) => Hfill.out.2 ls room g rc lv W hls7 hlsm H7.out hl ho
      rw [Hf.out] at hC3
      have hmb : 0 ≤ c * (f : Int) ∧ c * (f : Int) ≤ 6000 * 2097152 := ⟨Int.mul_nonneg (by omega) (by omega), Int.mul_le_mul hc2 hfx.2 (by omega) (by omega)⟩
      obtain ⟨m, Hm⟩ : ∃ m, Hid (c * (f : Int) = m) := ⟨_, rfl⟩
      have hmf := Hm.out
      rw [hmf] at hmb
      have hrg2 := hrg1.kept (grown_of_below hB1) (by simp) (by simp)
      rw [← mrow_zero] at hk0
      have HX : Hid (sumK L (fun z => left z && !z.sameKey (keyK x)) (fun _ => 1) = t + c ∧ sumK L (fun z => left z && !z.sameKey (keyK x)) F = s + m) := by
        refine ⟨?_, ?_⟩
        · rw [sumK_strike hxs hlk _ HL'.out, Ht.out, Int.mul_one, hcx]
        · rw [sumK_strike hxs hlk _ HL'.out, Hs.out, ← hcx, hFx, hmf]
      clear hkey hlk hv hat ey hwc hxs hcx hxL hs1 hFx hls7 hlsm
      go_wp2_with (first
        | (refine wpList_store_row rfl 75 _ _ rfl w1.heap.size _ rfl rfl 75 _ hk0 (inf75 _) (by simp) (mrow_one _) ?_; rw [mrow_zero])
        | (refine wpList_load_row rfl 75 _ rfl w1.heap.size rfl 75 _ (0, 0) _ hk1 und75 rfl (inf75 _) ?_)
        | (go_at_call 69; refine (hCl _).mono ?_; rintro e w3 ⟨lv, rfl, hlv, b3⟩; have hrg3 := hrg2.kept (grown_of_below b3) (by simp) (by simp); have hnx3 := Below.trans hnx1 ((Below.next hB1 b3).mono hnx1.size); obtain ⟨la, lm, lc, rfl⟩ := ownsRow_slice hlv; have hC2 := HC w3 hnx3)
        | (go_at_call 70; refine hC2.mono ?_; rintro e w4 ⟨⟨g, cap, rfl, hg, hO⟩, b4⟩; have hrg4 := hrg3.kept (grown_of_below b4) (by simp) (by simp); have hC4 := hC3 g cap _ w4 (lenIs_of_own hlv b4 hg) hO)
        | (go_at_call 68; refine hC4.mono ?_; rintro e w5 ⟨rfl, _, hOn⟩)
        | go_in)
      have hl3 := hrg3.lt
      have hrg5 := hrg4.kept hOn.grown (fun e => by have := Option.some.inj e; omega) (fun e => by have := Option.some.inj e; omega)
      have hnx4 := hnx3.trans (b4.mono hnx3.size)
      have hnx5 : Below w.heap.size w w5 := hnx4.trans (hOn.1.mono (by have := hnx3.size; omega))
      go_roundw
      case rel =>
        exact ⟨_, cnt1, hrg5, by rw [HX.out.1], by rw [HX.out.2], hnx5⟩
      case measure => rw [hrg5.left_eq, hrg.left_eq]; exact hlt

end Go.Proofs.Ytmaplmgecohjbaa

namespace Go.Proofs.Ytmaplmgecohjbaa
open Go.RowKit Go.Maps

theorem conF_ok {n : Nat} {l : List Int} (h : conF n l = 0) : ∃ many : List Nat, l = many.map Int.ofNat ∧ many.length ≤ 8 ∧ (∀ c, many.getD c 0 ≤ n) ∧ many.sum = n := by
  unfold conF at h
  by_cases h1 : 8 < l.length
  · rw [if_pos h1] at h; omega
  · rw [if_neg h1] at h
    by_cases h2 : badI n l = true
    · rw [if_pos h2] at h; omega
    · rw [if_neg h2] at h
      by_cases h3 : l.sum = (n : Int)
      · have h4 : ∀ x ∈ l, 0 ≤ x ∧ x ≤ (n : Int) := fun x hx => by
          unfold badI at h2
          rw [List.any_eq_true] at h2
          have : ¬ (x < 0 ∨ (n : Int) < x) := fun q => h2 ⟨x, hx, by simpa using q⟩
          omega
        have e : l = (l.map Int.toNat).map Int.ofNat := by
          rw [List.map_map]
          have : l.map (Int.ofNat ∘ Int.toNat) = l.map id := List.map_congr_left fun x hx => by
            have := (h4 x hx).1
            simp [Function.comp]
            omega
          rw [this, List.map_id]
        refine ⟨l.map Int.toNat, e, by rw [List.length_map]; omega, fun c => ?_, ?_⟩
        · by_cases hc : c < l.length
          · have := (h4 l[c] (List.getElem_mem hc)).2
            simp [hc]
            omega
          · simp [List.getD_eq_getElem?_getD, hc]
        · have hs : ∀ L : List Nat, (L.map Int.ofNat).sum = (L.sum : Int) := by
            intro L
            induction L with
            | nil => rfl
            | cons a L ih => rw [List.map_cons, List.sum_cons, List.sum_cons, ih, Int.natCast_add]; rfl
          have h5 := hs (l.map Int.toNat)
          rw [← e, h3] at h5
          omega
      · rw [if_neg h3] at h; omega
theorem sR_many (many : List Nat) : sR (fun c => many.getD c 0) many.length = many.sum := by
  rw [← sR_list]
  congr 1
  refine List.ext_getElem (by simp) fun i h1 h2 => by simp [h2]
theorem one_le_of_sum {many : List Nat} (h : 1 ≤ many.sum) : 1 ≤ many.length := by
  cases many with
  | nil => simp at h
  | cons a l => simp

set_option maxRecDepth 100000 in
set_option maxHeartbeats 1000000 in
theorem Content_ok (n : Nat) (ms : List (List Nat)) (many : List Nat) (v u : Value) (w : World) (h : Mk n ms v w) (hu : Sl w u (many.map Int.ofNat)) (hc : conF n (many.map Int.ofNat) = 0) :
    Calls Try.prog 22 #[.int .i64 (n : Int), v, u] w fun e w' => e = .returned (.tuple #[.int .i64 (conG n many.length ms many : Int), .int .i64 0]) ∧ Below w.heap.size w w' := by
  have hn7 := h.n7
  have hn1 := h.n1
  have hbd := gen_bound h.isP hn7 (els_nodup n (Gen n ms)) (fun a => (gen_grp h.isP).mem)
  obtain ⟨many', e1, h8, hmn, hsum⟩ := conF_ok hc
  obtain rfl : many = many' := by
    exact (List.map_inj_right (f := Int.ofNat) (fun x y h => Int.ofNat.inj h)).1 e1
  have hm1 : 1 ≤ many.length := one_le_of_sum (by omega)
  have C0 := h.check
  have C1 := fun W (b : Below w.heap.size w W) => kindsOf_any n ms v W (h.below b)
  have C8 := fun W (b : Below w.heap.size w W) => checkContent_any n (many.map Int.ofNat) u W hn7 (hu.below b) (by rw [List.length_map]; unfold maxLen; omega)
  rw [hc] at C8
  have hdiv : ∀ L : List (List Nat), L.Perm ((els n (Gen n ms)).map (kd n)) → (L.map fun y => (fillsN many.length (desc y 7) (fun c => many.getD c 0) : Int)).sum.tdiv (L.length : Int) = (conG n many.length ms many : Int) := fun L hp => by
    rw [int_perm_sum hp, hp.length_eq, List.length_map]
    have e := fills_sum (n := n) (k := many.length) (ms := ms) (many := many) hn7 (by omega) h.isP rfl (by rw [sR_many, hsum])
    have e2 : (((els n (Gen n ms)).map (kd n)).map fun y => (fillsN many.length (desc y 7) (fun c => many.getD c 0) : Int)).sum = ((conG n many.length ms many * (els n (Gen n ms)).length : Nat) : Int) := by
      rw [← e, natcast_sum, List.map_map, List.map_map, List.map_map]
      rfl
    rw [e2, Int.natCast_mul, Int.mul_tdiv_cancel _ (by omega)]
  have C3 := fun (L : List (List Nat)) (hp : L.Perm ((els n (Gen n ms)).map (kd n))) (B m : Nat) (D : DataW Unit) (W : World) (b : Below w.heap.size w W) (ho : W.ownsMap Try.prog 75 (plainElem Try.prog 3) B m D) (hD : KindsIs D L) =>
    filled_any B m D L many u W ho hD (kinds_sm hn7 hp) (by rw [hp.length_eq, List.length_map]; omega) (by rw [hp.length_eq, List.length_map]; omega) (hu.below b) hm1 h8 (fun c => Nat.le_trans (hmn c) hn7)
  obtain ⟨ua, uc, rfl, _⟩ := id hu
  have HDIV : Hid (∀ L : List (List Nat), L.Perm ((els n (Gen n ms)).map (kd n)) → (L.map fun y => (fillsN many.length (desc y 7) (fun c => many.getD c 0) : Int)).sum.tdiv (L.length : Int) = (conG n many.length ms many : Int)) := hdiv
  obtain ⟨len, Hlen⟩ : ∃ len, Hid ((many.map Int.ofNat).length = len) := ⟨_, rfl⟩
  rw [Hlen.out] at C8 C3 ⊢
  obtain ⟨z, Hz⟩ : ∃ z, Hid (conG n many.length ms many = z) := ⟨_, rfl⟩
  rw [Hz.out] at HDIV ⊢
  have HC3 : Hid (∀ (L : List (List Nat)) (hp : L.Perm ((els n (Gen n ms)).map (kd n))) (B m : Nat) (D : DataW Unit) (W : World) (b : Below w.heap.size w W) (ho : W.ownsMap Try.prog 75 (plainElem Try.prog 3) B m D) (hD : KindsIs D L), _) := C3
  clear hdiv hc e1 hmn hsum hbd h8 hm1 C3 hn7 hn1 h hu
  go_enter Try.func22, Try.ntmps22
  go_wp2_with (first
    | (go_at_call 34; refine C0.mono ?_; rintro e w1 ⟨rfl, b1⟩)
    | (go_at_call 48; refine (C8 _ b1).mono ?_; rintro e w2 ⟨rfl, hw⟩; replace hw := hw.symm; subst hw)
    | (go_at_call 35; refine (C1 _ b1).mono ?_; rintro e w2 ⟨B, m, D, L, rfl, hwB, hm, hown, hD, hp, b2⟩; have b2' := Below.next b1 b2; have C4 := HC3.out L hp B m D w2 b2' hown hD; rw [HDIV.out L hp] at C4; clear hp hD)
    | (go_at_call 49; refine C4.mono ?_; rintro e w4 ⟨rfl, b4⟩))
  go_ret2
  exact ⟨rfl, Below.next b2' b4⟩

set_option maxHeartbeats 400000 in
theorem Content_far (n : Nat) (l : List Int) (ms : List (List Nat)) (v u : Value) (w : World) (h : Mk n ms v w) (hu : Sl w u l) (hl : l.length ≤ maxLen) (hc : conF n l ≠ 0) :
    Calls Try.prog 22 #[.int .i64 (n : Int), v, u] w fun e w' => e = .returned (.tuple #[.int .i64 0, .int .i64 (conF n l)]) ∧ Below w.heap.size w w' := by
  have C0 := h.check
  have C8 := fun W (b : Below w.heap.size w W) => checkContent_any n l u W h.n7 (hu.below b) hl
  obtain ⟨z, Hz⟩ : ∃ z, Hid (conF n l = z) := ⟨_, rfl⟩
  rw [Hz.out] at C8 hc ⊢
  have hzb : (z == 0) = false := by simpa using hc
  obtain ⟨ua, uc, rfl, _⟩ := id hu
  go_enter Try.func22, Try.ntmps22
  go_wp2_with (first
    | (go_at_call 34; refine C0.mono ?_; rintro e w1 ⟨rfl, b1⟩)
    | (go_at_call 48; refine (C8 _ b1).mono ?_; rintro e w2 ⟨rfl, hw⟩; replace hw := hw.symm; subst hw))
  go_ret2
  exact ⟨rfl, b1⟩

set_option maxHeartbeats 400000 in
theorem Content_bad (n z : Int) (l : List Int) (v u : Value) (w : World) (C0 : Calls Try.prog 34 #[.int .i64 n, v] w fun e w' => e = .returned (.int .i64 z) ∧ Below w.heap.size w w') (hz : z ≠ 0) (hu : Sl w u l) :
    Calls Try.prog 22 #[.int .i64 n, v, u] w fun e w' => e = .returned (.tuple #[.int .i64 0, .int .i64 z]) ∧ Below w.heap.size w w' := by
  have hzb : (z == 0) = false := by simpa using hz
  obtain ⟨ua, uc, rfl, _⟩ := id hu
  go_enter Try.func22, Try.ntmps22
  go_wp2_with (go_at_call 34; refine C0.mono ?_; rintro e w1 ⟨rfl, b1⟩)
  go_ret2
  exact ⟨rfl, b1⟩

end Go.Proofs.Ytmaplmgecohjbaa

/- The walks of the library's SortFunc and SortedFunc, at kinds, the greatest first. -/
namespace Go.Proofs.Ytmaplmgecohjbaa
open Go.RowKit Go.Shelf Go.Maps

set_option maxRecDepth 100000 in
set_option maxHeartbeats 1000000 in
theorem closureK_any (x y : List Nat) (W : World) :
    Calls Try.prog 62 #[.agg (mvL x).toArray, .agg (mvL y).toArray] W fun e w' => e = .returned (.int .i64 (cmpM y x)) ∧ ∃ q os', w' = Go.Sort.grow (W.drewN q) os' := by
  have hB : Below W.heap.size W ((W.alloc (.cells (mvL x).toArray 75)).alloc (.cells (mvL y).toArray 75)) := (balloc W _).alloc (by simp) _
  have C := fun W' (h1 : ∀ j, j < 7 → W'.cell? ⟨W.heap.size, j, none⟩ = some (.int .i64 ((x.getD j 0 : Nat) : Int))) (h2 : ∀ j, j < 7 → W'.cell? ⟨W.heap.size + 1, j, none⟩ = some (.int .i64 ((y.getD j 0 : Nat) : Int))) => Compare_any (fun j => y.getD j 0) (fun j => x.getD j 0) (W.heap.size + 1) W.heap.size W' h2 h1
  have H1 : Hid (∀ j, j < 7 → ((W.alloc (.cells (mvL x).toArray 75)).alloc (.cells (mvL y).toArray 75)).cell? ⟨W.heap.size, j, none⟩ = some (.int .i64 ((x.getD j 0 : Nat) : Int))) := fun j hj => by
    have h := (MRow.made 75 W (fun j => (x.getD j 0 : Int))).alloc (.cells (mvL y).toArray 75)
    exact h.cell j hj
  have H2 : Hid (∀ j, j < 7 → ((W.alloc (.cells (mvL x).toArray 75)).alloc (.cells (mvL y).toArray 75)).cell? ⟨W.heap.size + 1, j, none⟩ = some (.int .i64 ((y.getD j 0 : Nat) : Int))) := fun j hj => by
    have h := MRow.made 75 (W.alloc (.cells (mvL x).toArray 75)) (fun j => (y.getD j 0 : Int))
    rw [World.size_alloc] at h
    exact h.cell j hj
  have e0 : cmpM y x = lexc (fun j => y.getD j 0) (fun j => x.getD j 0) 7 0 := rfl
  rw [e0]
  obtain ⟨z, Hz⟩ : ∃ z, Hid (lexc (fun j => y.getD j 0) (fun j => x.getD j 0) 7 0 = z) := ⟨_, rfl⟩
  rw [Hz.out] at C ⊢
  obtain ⟨X, HX⟩ : ∃ X, Hid (mvL x = X) := ⟨_, rfl⟩
  obtain ⟨Y, HY⟩ : ∃ Y, Hid (mvL y = Y) := ⟨_, rfl⟩
  rw [HX.out, HY.out] at H1 H2 ⊢
  have hlx : X.length = 7 := by rw [← HX.out]; exact mvL_len x
  have hly : Y.length = 7 := by rw [← HY.out]; exact mvL_len y
  clear e0 hB
  go_enter Try.func62, Try.ntmps62
  go_wp2_with fail
  refine wp_region_noPanic ?_
  refine wp_region_held_drew (S := fun _ => True) (by kernel_rfl) (trivial) (fun hSx => ?_)
  refine wpAnyH_take (i := 0) (v := .slice (some ⟨W.heap.size + 1, 0, none⟩) 7 7) rfl (by kernel_rfl) (by kernel_rfl) (by kernel_rfl) (fun _ _ _ h => h) (Or.inl ⟨by rfl, fun w' hSw => by (try dsimp only at hSw); go_simp⟩) trivial ?_
  try simp only [Act.put, List.setIfInBounds_toArray]
  refine wpAnyH_take (i := 1) (v := .slice (some ⟨W.heap.size, 0, none⟩) 7 7) rfl (by kernel_rfl) (by kernel_rfl) (by kernel_rfl) (fun _ _ _ h => h) (Or.inl ⟨by rfl, fun w' hSw => by (try dsimp only at hSw); go_simp⟩) trivial ?_
  try simp only [Act.put]
  refine wpAnyH_ready (rs := [2]) (by kernel_rfl) (by simp) ?_
  refine AllReadyH.cons rfl (fun J hJ => ?_) AllReadyH.nil
  go_simp
  refine (C (World.drew _) (by exact H1.out) (by exact H2.out)).mono ?_
  rintro e w1 ⟨rfl, h⟩
  replace h := h.symm
  subst h
  go_wp2_with fail
  refine hJ.out _ _ trivial (fun _ => ?_)
  clear hJ J
  try simp only [Act.put, List.setIfInBounds_toArray, List.set_cons_zero, List.set_cons_succ]
  refine wpAnyH_ready (rs := [3]) (by kernel_rfl) (by simp) ?_
  refine AllReadyH.cons rfl (fun J hJ => ?_) AllReadyH.nil
  go_simp
  refine hJ.out _ _ trivial (fun _ => ?_)
  clear hJ J
  try simp only [Act.put, List.setIfInBounds_toArray, List.set_cons_zero, List.set_cons_succ]
  refine wpAnyH_done (by kernel_rfl) ?_ _
  refine NoPanic.normal ?_
  go_wp2_with fail
  go_ret
  refine ⟨rfl, 1, #[.cells X.toArray 75, .cells Y.toArray 75], ?_⟩
  rw [Go.Sort.alloc_eq_grow, Go.Sort.alloc_eq_grow, Go.Sort.grow_grow]
  rfl

theorem nodup_sub_len {α : Type} [DecidableEq α] : ∀ {A B : List α}, A.Nodup → (∀ x ∈ A, x ∈ B) → A.length ≤ B.length
  | [], _, _, _ => Nat.zero_le _
  | a :: A, B, nd, h => by
    have ha := h a (by simp)
    have hn := List.nodup_cons.1 nd
    have ih := nodup_sub_len (A := A) (B := B.erase a) hn.2 fun x hx => (List.mem_erase_of_ne (show x ≠ a from fun e => hn.1 (by rw [← e]; exact hx))).2 (h x (by simp [hx]))
    rw [List.length_erase_of_mem ha] at ih
    have := List.length_pos_of_mem ha
    rw [List.length_cons]
    omega
theorem ltK_no (x y : List Nat) : ltOf (fun x y => cmpM y x) x y = false ↔ ¬ LexLt 7 (fun j => y.getD j 0) (fun j => x.getD j 0) := by
  rw [← lt_no y x]
  rfl
theorem ltK_iff (x y : List Nat) : ltOf (fun x y => cmpM y x) x y = true ↔ LexLt 7 (fun j => y.getD j 0) (fun j => x.getD j 0) := by
  rw [← lt_iff y x]
  rfl
theorem swoK : Go.Sort.SWO (ltOf fun x y => cmpM y x) where
  irrefl x := (ltK_no x x).2 LexLt.irrefl
  trans x y z h1 h2 := (ltK_iff x z).2 (((ltK_iff y z).1 h2).trans ((ltK_iff x y).1 h1))
  ntrans x y z h1 h2 := by
    rw [ltK_no] at h1 h2 ⊢
    intro h
    by_cases h3 : LexLt 7 (fun j => z.getD j 0) (fun j => y.getD j 0)
    · exact h2 h3
    · by_cases h4 : LexLt 7 (fun j => y.getD j 0) (fun j => z.getD j 0)
      · exact h1 (h4.trans h)
      · exact h1 (lex_congr (fun i hi => lex_total h3 h4 i hi) h)
theorem isAgg75k (w : World) : (isAgg 75).run Try.prog w = .ok true w := by kernel_rfl
theorem sizeOf75k (w : World) : (Go.sizeOf 75).run Try.prog w = .ok 7 w := by kernel_rfl

set_option maxRecDepth 100000 in
set_option maxHeartbeats 2000000 in
theorem SortFunc_any (base g' cap' : Nat) (M : List (List Nat)) (W : World) (hown : W.ownsRow base 75 7 (.slice (some ⟨g', 0, none⟩) M.length cap') M.length (M.flatMap mvL)) (hbW : base ≤ W.heap.size) (h6 : M.length ≤ 6000) :
    Calls Try.prog 80 #[.slice (some ⟨g', 0, none⟩) M.length cap', .func (.func 62) #[] #[]] W fun e w' => e = .returned (.tuple #[]) ∧ (∃ M' : List (List Nat), M'.length = M.length ∧ Mvs w' (.slice (some ⟨g', 0, none⟩) M.length cap') M' ∧ M'.Perm M ∧ M'.Pairwise fun a b => ¬ LexLt 7 (fun i => a.getD i 0) (fun i => b.getD i 0)) ∧ Below base W w' := by
  obtain ⟨hl', ⟨e, _⟩ | ⟨g2, cap2, cur, e, hb, h7, h8, h9, h10, ht⟩⟩ := hown
  · cases e
  · cases e
    have hH : Go.Sort.HoldsK mvL 7 W g' 0 M.toArray := fun t htt => by
      rw [Go.Sort.size_flatK] at htt
      have htt : t < M.length * 7 := by simpa using htt
      rw [Go.Sort.get_flatK _ _ _ _ (by simpa using htt)]
      refine ⟨?_, frozen_of_row W g' _ _ _ h7⟩
      rw [Nat.zero_add, cell_of_row W g' _ _ _ _ h7]
      have h3 := flat_at htt
      rw [← ht, List.getElem?_take, if_pos (by omega)] at h3
      rw [← Array.getElem?_toList]; exact h3
    have hblk : g' < W.heap.size := (Array.getElem?_eq_some_iff.1 h7).1
    have eg : ∀ args w, (callFunc 62 args).run Try.prog w = .ok (.enter 62 args) w := enters_of Try.func62 (by kernel_rfl) rfl
    have h := AnyQ.slices_SortFunc sortKd 7 isAgg75k sizeOf75k mvL mvL_len mvL_one (fun x y => cmpM y x) swoK 62 #[] g' 0 cap' M.toArray W eg (fun m os dk _ x y => closureK_any x y _) hH hblk (by simp; omega)
    change Calls Try.prog 80 _ _ _ at h
    have hsz0 : M.toArray.size = M.length := by simp
    rw [hsz0] at h
    exact h.mono (fun e w' ⟨he, d', n, os, hp, hs, hw⟩ => by
      have hsz : d'.size = M.length := by simpa using hp.1
      refine ⟨he, ⟨d'.toList, by simpa using hsz, ?_, ?_, ?_⟩, ?_⟩
      · have hH' : Go.Sort.HoldsK mvL 7 w' g' 0 d' := by
          rw [hw]
          exact Go.Sort.holdsK_grow mvL 7 _ _ _ _ _ (by simp [Go.Sort.putRowK, Go.Sort.putRow, Go.Sort.mapBlock, Go.Sort.ahead]; exact hblk) (Go.Sort.holdsK_putRowK mvL 7 _ _ _ M.toArray d' (Go.Sort.holdsK_ahead mvL 7 _ _ _ _ _ hH) (by simpa using hsz))
        refine ⟨_, cap', by simp [hsz], fun i x hx => ⟨g', 0, rfl, ?_, fun j u hu => ?_⟩⟩
        · rw [hw]
          show g' < (Go.Sort.grow (Go.Sort.putRowK mvL 7 (Go.Sort.ahead W n) g' 0 d') os).heap.size
          simp [Go.Sort.grow, Go.Sort.putRowK, Go.Sort.putRow, Go.Sort.mapBlock, Go.Sort.ahead]; omega
        · have hi' : i < d'.size := by have := (List.getElem?_eq_some_iff.1 hx).1; simpa using this
          have hj : j < 7 := by have := (List.getElem?_eq_some_iff.1 hu).1; rwa [mvL_len] at this
          have hc := (hH'.cell hi' hj).1
          have e1 : d'[i]! = x := by
            have : d'.toList[i]? = some x := hx
            rw [Array.getElem?_toList, Array.getElem?_eq_getElem hi'] at this
            rw [getElem!_pos d' i hi']
            exact Option.some.inj this
          rw [hc, e1, getElem!_pos (mvL x) j (by rw [mvL_len]; exact hj)]
          rw [List.getElem?_eq_getElem (by rw [mvL_len]; exact hj)] at hu
          exact hu
      · have h2 := hp.2.2
        have e1 : d'.extract 0 M.length = d' := by rw [← hsz]; simp
        have e2 : M.toArray.extract 0 M.length = M.toArray := by simp
        rw [e1, e2] at h2
        exact h2
      · rw [List.pairwise_iff_getElem]
        intro a b ha hb' hab
        have ha' : a < d'.size := by simpa using ha
        have hb2 : b < d'.size := by simpa using hb'
        have h3 := hs a b (Nat.zero_le _) hab (by omega)
        rw [ltK_no, getElem!_pos d' a ha', getElem!_pos d' b hb2] at h3
        exact h3
      · rw [hw]; exact sort_below hb hbW)

set_option maxRecDepth 100000 in
set_option maxHeartbeats 1000000 in
theorem SortedFunc_any (Bm B nn : Nat) (D : DataW Unit) (L : List (List Nat)) (w : World) (hm : w.cell? ⟨Bm, 0, none⟩ = some (.map (some B))) (hown : w.ownsMap Try.prog 75 (plainElem Try.prog 3) B nn D) (hD : KindsIs D L) (hL : ∀ y ∈ L, SmK y) (hnn : nn ≤ 6000) (hL1 : L ≠ []) (hLl : L.length ≤ 6000) :
    Calls Try.prog 60 #[.func (.func 81) #[] #[.pointer (some ⟨Bm, 0, none⟩)], .func (.func 62) #[] #[]] w fun e w' => (∃ g cap M, e = .returned (.slice (some ⟨g, 0, none⟩) M.length cap) ∧ Mvs w' (.slice (some ⟨g, 0, none⟩) M.length cap) M ∧ KColl L (fun _ => false) M ∧ M.length ≤ 6000 ∧ M.Pairwise fun a b => ¬ LexLt 7 (fun i => a.getD i 0) (fun i => b.getD i 0)) ∧ Below w.heap.size w w' := by
  have C := Collect_any Bm B nn D L w hm hown hD hL hnn
  have C' := C.mono (R' := fun e w' => (∃ g cap xs, e = .returned (.slice (some ⟨g, 0, none⟩) xs.length cap) ∧ KColl L (fun _ => false) xs ∧ xs.length ≤ 6000 ∧ w'.ownsRow w.heap.size 75 7 (.slice (some ⟨g, 0, none⟩) xs.length cap) xs.length (xs.flatMap mvL)) ∧ Below w.heap.size w w') (fun e w' ⟨u, xs, h1, h2, h3, h4⟩ => by
    have hx0 : xs ≠ [] := fun e => by
      obtain ⟨y, hy⟩ := List.exists_mem_of_ne_nil L hL1
      have := (h2.2 y).2 ⟨hy, rfl⟩
      rw [e] at this; simp at this
    have hxl : xs.length ≤ 6000 := Nat.le_trans (nodup_sub_len h2.1 fun y hy => ((h2.2 y).1 hy).1) hLl
    obtain ⟨k1, ⟨e1, e2⟩ | ⟨g2, cap2, cur, e1, k2⟩⟩ := id h3
    · exact absurd (List.length_eq_zero_iff.1 e2) hx0
    · exact ⟨⟨g2, cap2, xs, by rw [h1, e1], h2, hxl, by rw [← e1]; exact h3⟩, h4⟩)
  have C2 := fun (g cap : Nat) (xs : List (List Nat)) (W : World) h1 h2 h3 => SortFunc_any w.heap.size g cap xs W h1 h2 h3
  clear C hm hown hD
  go_enter Try.func60, Try.ntmps60
  go_wp2_with (first
    | (go_at_call 79; refine C'.mono ?_; rintro e w1 ⟨⟨g, cap, xs, rfl, hK, hxl, how⟩, b1⟩; replace C2 := C2 g cap xs w1 how b1.size hxl; obtain ⟨r, Hr⟩ : ∃ r, Hid (xs.length = r) := ⟨_, rfl⟩; rw [Hr.out] at C2 hxl ⊢)
    | (go_at_call 80; refine C2.mono ?_; rintro e w2 ⟨rfl, ⟨M', hl, hm, hp, hs⟩, b2⟩))
  go_ret
  refine ⟨⟨g, cap, M', by rw [hl]; rfl, by rw [hl]; exact hm, ⟨hp.nodup_iff.2 hK.1, fun y => by rw [hp.mem_iff]; exact hK.2 y⟩, by omega, hs⟩, b1.trans b2⟩

end Go.Proofs.Ytmaplmgecohjbaa

/- The walk of Index. -/
/- The walk of rows. -/
namespace Go.Proofs.Ytmaplmgecohjbaa
open Go.RowKit Go.Shelf Go.Maps

/-- Block g is a row of r slices of one's own; the first of them are these rows. -/
def RowsO (w : World) (g r : Nat) (ls : List (List Nat)) : Prop :=
  ∃ cur : Array Value, w.heap[g]? = some (.cells cur 40 (0, 0)) ∧ cur.size = r ∧ ∀ (j : Nat) (l : List Nat), ls[j]? = some l → ∃ (gj cj : Nat), cur[j]? = some (Value.slice (some ⟨gj, 0, none⟩) l.length cj) ∧ gj ≠ g ∧ Own w gj l.length (fun q => (l.getD q 0 : Int))
theorem RowsO.lt {w : World} {g r : Nat} {ls : List (List Nat)} (h : RowsO w g r ls) : g < w.heap.size := by
  obtain ⟨cur, h, _⟩ := h
  exact (Array.getElem?_eq_some_iff.1 h).1
theorem RowsO.below {w w' : World} {g r : Nat} {ls : List (List Nat)} (h : RowsO w g r ls) (hb : Below w.heap.size w w') : RowsO w' g r ls := by
  have hl := h.lt
  obtain ⟨cur, h1, h2, h3⟩ := h
  refine ⟨cur, (hb.block g hl).trans h1, h2, fun j l hj => ?_⟩
  obtain ⟨gj, cj, e1, e2, e3⟩ := h3 j l hj
  exact ⟨gj, cj, e1, e2, e3.below hb⟩
theorem RowsO.cell {w : World} {g r : Nat} {ls : List (List Nat)} (h : RowsO w g r ls) {k : Nat} (hk : k < r) : ∃ v, w.cell? ⟨g, k, none⟩ = some v ∧ w.frozen? ⟨g, k, none⟩ = false := by
  obtain ⟨cur, h1, h2, _⟩ := h
  refine ⟨cur[k], ?_, frozen_of_row w g k _ _ h1⟩
  rw [cell_of_row w g k _ _ _ h1]
  simp [h2, hk]
theorem RowsO.store {w : World} {g r k gn cap : Nat} {ls : List (List Nat)} {l : List Nat} (h : RowsO w g r ls) (hk : ls.length = k) (hkr : k < r) (hO : Own w gn l.length (fun q => (l.getD q 0 : Int))) (hne : gn ≠ g) :
    RowsO (w.setCell ⟨g, k, none⟩ (.slice (some ⟨gn, 0, none⟩) l.length cap)) g r (ls ++ [l]) := by
  obtain ⟨cur, h1, h2, h3⟩ := h
  refine ⟨_, heap_setCell_same w g k _ _ _ h1, by simpa using h2, fun j l' hj => ?_⟩
  by_cases e : j = k
  · subst e
    have : l' = l := by
      rw [List.getElem?_append_right (by omega), hk, Nat.sub_self] at hj
      simpa using hj.symm
    subst this
    refine ⟨gn, cap, ?_, hne, hO.other _ _ hne⟩
    rw [Array.getElem?_setIfInBounds, if_pos rfl, if_pos (by omega)]
  · have hj' : j < ls.length := by
      have := (List.getElem?_eq_some_iff.1 hj).1
      rw [List.length_append, List.length_singleton] at this
      omega
    rw [List.getElem?_append_left hj'] at hj
    obtain ⟨gj, cj, e1, e2, e3⟩ := h3 j l' hj
    exact ⟨gj, cj, by rw [Array.getElem?_setIfInBounds, if_neg (by omega)]; exact e1, e2, e3.other _ _ e2⟩
theorem RowsO.sl {w : World} {g r : Nat} {ls : List (List Nat)} (h : RowsO w g r ls) (hl : ls.length = r) : SlSl w (.slice (some ⟨g, 0, none⟩) r r) ls := by
  obtain ⟨cur, h1, h2, h3⟩ := h
  refine ⟨_, r, by rw [hl], fun i l hi => ?_⟩
  obtain ⟨gj, cj, e1, e2, e3⟩ := h3 i l hi
  refine ⟨g, 0, _, rfl, by rw [Nat.zero_add, cell_of_row w g i _ _ _ h1]; exact e1, _, cj, by rw [List.length_map], fun j hj => ⟨gj, 0, rfl, ?_⟩⟩
  rw [List.length_map] at hj
  rw [Nat.zero_add, e3.cell j hj]
  simp [hj]
theorem run_make28 (r : Nat) (hr : r ≤ 10000) (w : World) : (Instr.makeSlice 28 (.int .i64 (r : Int)) (.int .i64 (r : Int))).run Try.prog w = .ok (.slice (some ⟨w.heap.size, 0, none⟩) r r) (w.alloc (.cells (madeCells #[.slice none 0 0] r) 40)) := by
  obtain ⟨i, hi, hz0, hz1, hz2⟩ := info22
  have h := run_make (P := Try.prog) w 28 40 i (.slice none 0 0) und54 hi hz0 .i64 .i64 r r (by omega) (by omega) (by rw [hz2]; omega) (by omega)
  simpa [hz1, Value.cells] using h
theorem RowsO.made (r : Nat) (w : World) : RowsO (w.alloc (.cells (madeCells #[.slice none 0 0] r) 40)) w.heap.size r [] :=
  ⟨_, heap_alloc_new w _, size_madeCells _ _, fun j l h => by simp at h⟩

/-- The rows that the program tells. -/
def idxR (n : Nat) (L : List (List Nat)) (x : List Nat) : List Nat := L.count x :: x.take n
/-- What rows answers. -/
def RowsAns (w : World) (n : Nat) (L : List (List Nat)) (e : Ending) (w' : World) : Prop :=
  (∃ v M, e = .returned v ∧ KColl L (fun _ => false) M ∧ (M.Pairwise fun a b => ¬ LexLt 7 (fun i => a.getD i 0) (fun i => b.getD i 0)) ∧ SlSl w' v (M.map (idxR n L))) ∧ Below w.heap.size w w'

set_option maxRecDepth 100000 in
set_option maxHeartbeats 4000000 in
theorem rows_any (B nn n : Nat) (D : DataW Unit) (L : List (List Nat)) (w : World) (hown : w.ownsMap Try.prog 75 (plainElem Try.prog 3) B nn D) (hD : KindsIs D L) (hL : ∀ y ∈ L, SmK y) (hnn : nn ≤ 6000) (hL1 : L ≠ []) (hLl : L.length ≤ 6000) (hn1 : 1 ≤ n) (hn7 : n ≤ 7) :
    Calls Try.prog 36 #[.map (some B), .int .i64 (n : Int)] w fun e w' => RowsAns w n L e w' := by
  have CK := Keys_any B w
  have hB1 := balloc w (.cells #[.map (some B)] 52)
  have hm1 : (w.alloc (.cells #[.map (some B)] 52)).cell? ⟨w.heap.size, 0, none⟩ = some (.map (some B)) := (Boxed.new w 52 (.map (some B))).cell
  have CS := SortedFunc_any w.heap.size B nn D L (w.alloc (.cells #[.map (some B)] 52)) hm1 (kinds_below hown hB1) hD hL hnn hL1 hLl
  have hmk := run_make28
  have HL : Hid (∀ y ∈ L, SmK y) := hL
  have HD : Hid (KindsIs D L) := hD
  have HOWN : Hid (∀ W, Below w.heap.size w W → W.ownsMap Try.prog 75 (plainElem Try.prog 3) B nn D) := fun W b => kinds_below hown b
  clear hm1 hL hD hown
  go_enter Try.func36, Try.ntmps36
  go_wp2_with (first
    | (go_at_call 61; refine CK.mono ?_; rintro e w1 ⟨rfl, hw⟩; replace hw := hw.symm; subst hw)
    | (go_at_call 60; refine CS.mono ?_; rintro e w2 ⟨⟨gO, capO, M, rfl, hMv, hK, hM6, hP⟩, b2⟩; have b2' := Below.next hB1 b2; obtain ⟨r, Hr⟩ : ∃ r, Hid (M.length = r) := ⟨_, rfl⟩; rw [Hr.out] at hMv hM6 ⊢; replace hmk := hmk r (by omega) w2))
  obtain ⟨r', hr'⟩ : ∃ r', r' = r := ⟨_, rfl⟩
  have hs2 := b2'.size
  have HMV : Hid (Mvs w2 (.slice (some ⟨gO, 0, none⟩) r capO) M) := hMv
  have HK : Hid (KColl L (fun _ => false) M) := hK
  have HPW : Hid (M.Pairwise fun a b => ¬ LexLt 7 (fun i => a.getD i 0) (fun i => b.getD i 0)) := hP
  have HB2 : Hid (Below w.heap.size w w2) := b2'
  clear hMv hK hP b2' b2 CS CK hB1 hr' r'
  have hR0 := RowsO.made r w2
  have hb0 := balloc w2 (.cells (madeCells #[.slice none 0 0] r) 40)
  go_loopw [17] (fun i wr => ∃ (k : Nat) (A : List (List Nat)), i = .int .i64 (k : Int) ∧ k ≤ r ∧ RowsO wr w2.heap.size r A ∧ Hid (A = (M.take k).map (idxR n L)) ∧ Below w2.heap.size w2 wr) (fun i _ => (r - intOf i).toNat)
  case atStart => exact ⟨0, [], rfl, by omega, hR0, (by simp : ([] : List (List Nat)) = (M.take 0).map (idxR n L)), hb0⟩
  case round =>
    clear hR0 hb0
    obtain ⟨k, A, rfl, hk, hR, HA, hB⟩ := hrel
    by_cases hlt : k < r
    · have hki : (k : Int) < r := by omega
      have hk0 : (0 : Int) ≤ (k : Int) := by omega
      have hdec : decide ((k : Int) < r) = true := by simp; omega
      obtain ⟨x, hx⟩ : ∃ x, M[k]? = some x := ⟨M[k]'(by rw [Hr.out]; exact hlt), by simp⟩
      have hxL : x ∈ L := ((HK.out.2 x).1 (List.mem_of_getElem? hx)).1
      have hxs := HL.out x hxL
      have HTK : Hid ((M.take (k + 1)).map (idxR n L) = (M.take k).map (idxR n L) ++ [idxR n L x]) := by show _ = _; rw [List.take_add_one, hx, List.map_append]; rfl
      obtain ⟨b, off, hya, hbl, hrM0⟩ := HMV.out.at hx
      have hAl : A.length = k := by rw [HA.out, List.length_map, List.length_take, Hr.out]; omega
      simp only [Option.some.injEq, Addr.mk.injEq, and_true] at hya
      obtain ⟨rfl, rfl⟩ := hya
      rw [Nat.zero_add] at hrM0
      have hrM := range_below hrM0 hB hbl
      have hsz := hB.size
      have hwr : Below w.heap.size w wr := HB2.out.trans (hB.mono hs2)
      have hkey := keyK_of hxs
      rw [mv_eq] at hkey
      have hinX : (Try.prog.info? 75).map (·.size) = some (mvL x).length := inf75L _
      have hlX : (mvL x).length = 7 := mvL_len _
      have h1X : ∀ u ∈ mvL x, u.oneCell' = true := mvL_one _
      have hxX : ∀ j, j < 7 → (mvL x)[j]? = some (.int .i64 (x.getD j 0 : Int)) := fun j hj => by simp [mvL, hj]
      obtain ⟨X, HX⟩ : ∃ X, Hid (mvL x = X) := ⟨_, rfl⟩
      rw [HX.out] at hinX hrM hlX h1X hkey hxX
      have honeX := all_oneCell_toArray h1X
      have hinX' : (Try.prog.info? 75).map (·.size) = some X.toArray.size := by simpa using hinX
      have hthX : (wr.alloc (.cells #[.int .i64 0, .int .i64 0, .int .i64 0, .int .i64 0, .int .i64 0, .int .i64 0, .int .i64 0] 75)).there wr.heap.size 0 X.toArray.size := by
        intro q hq
        rw [Nat.zero_add, cell_of_row _ _ q _ _ _ (heap_alloc_new wr _), frozen_of_row _ _ q _ _ (heap_alloc_new wr _)]
        have hq7 : q < 7 := by simpa [hlX] using hq
        exact ⟨by simp [hq7], rfl⟩
      have hBX : Below wr.heap.size wr ((wr.alloc (.cells #[.int .i64 0, .int .i64 0, .int .i64 0, .int .i64 0, .int .i64 0, .int .i64 0, .int .i64 0] 75)).setCells wr.heap.size 0 X) := (balloc wr (.cells #[.int .i64 0, .int .i64 0, .int .i64 0, .int .i64 0, .int .i64 0, .int .i64 0, .int .i64 0] 75)).trans (bsets (Nat.le_refl _) _ _ _)
      have hrX2 : ((wr.alloc (.cells #[.int .i64 0, .int .i64 0, .int .i64 0, .int .i64 0, .int .i64 0, .int .i64 0, .int .i64 0] 75)).setCells wr.heap.size 0 X).rangeAt wr.heap.size 0 X := World.rangeAt_setCells_same _ _ _ _ (by simpa using hthX)
      have hszW : ((wr.alloc (.cells #[.int .i64 0, .int .i64 0, .int .i64 0, .int .i64 0, .int .i64 0, .int .i64 0, .int .i64 0] 75)).setCells wr.heap.size 0 X).heap.size = wr.heap.size + 1 := by simp
      obtain ⟨W, HW⟩ : ∃ W, Hid ((wr.alloc (.cells #[.int .i64 0, .int .i64 0, .int .i64 0, .int .i64 0, .int .i64 0, .int .i64 0, .int .i64 0] 75)).setCells wr.heap.size 0 X = W) := ⟨_, rfl⟩
      rw [HW.out] at hBX hrX2 hszW
      have hWB : Below w.heap.size w W := hwr.trans (hBX.mono hwr.size)
      obtain ⟨c, hlook, hat, _⟩ := (HOWN.out W hWB).drew.lookup_int keyed75 und52k und3 (zero3' _) hkey
      have hcx := HD.out.look HL.out hxs hat
      clear hrM0 hx hxL hat hkey
      have hRW : RowsO W w2.heap.size r A := hR.below hBX
      have hW0 : (((W.alloc (.cells #[.int .i64 c] 3)).alloc (.cells #[.slice (some ⟨W.heap.size, 0, none⟩) 1 1, .slice (some ⟨wr.heap.size, 0, none⟩) n 7] 40)).drew).heap.size = W.heap.size + 2 := by
        show ((W.alloc _).alloc _).heap.size = _
        simp
      have hb2 : Below W.heap.size W (((W.alloc (.cells #[.int .i64 c] 3)).alloc (.cells #[.slice (some ⟨W.heap.size, 0, none⟩) 1 1, .slice (some ⟨wr.heap.size, 0, none⟩) n 7] 40)).drew) := ((balloc W _).alloc (by simp) _).drew
      have hl1 : Sls (((W.alloc (.cells #[.int .i64 c] 3)).alloc (.cells #[.slice (some ⟨W.heap.size, 0, none⟩) 1 1, .slice (some ⟨wr.heap.size, 0, none⟩) n 7] 40)).drew) (.slice (some ⟨W.heap.size + 1, 0, none⟩) 2 2) [[c], (x.take n).map Int.ofNat] := by
        have hN := heap_alloc_new (W.alloc (.cells #[.int .i64 c] 3)) (.cells #[.slice (some ⟨W.heap.size, 0, none⟩) 1 1, .slice (some ⟨wr.heap.size, 0, none⟩) n 7] 40)
        rw [World.size_alloc] at hN
        have hC : (((W.alloc (.cells #[.int .i64 c] 3)).alloc (.cells #[.slice (some ⟨W.heap.size, 0, none⟩) 1 1, .slice (some ⟨wr.heap.size, 0, none⟩) n 7] 40)).drew).cell? ⟨W.heap.size, 0, none⟩ = some (.int .i64 c) := ((Boxed.new W 3 (.int .i64 c)).alloc (.cells #[.slice (some ⟨W.heap.size, 0, none⟩) 1 1, .slice (some ⟨wr.heap.size, 0, none⟩) n 7] 40)).cell
        have hxl : x.length = 7 := hxs.1
        refine ⟨_, 2, rfl, fun i l hi => ?_⟩
        match i, hi with
        | 0, hi =>
          obtain rfl : [c] = l := by simpa using hi
          refine ⟨W.heap.size + 1, 0, _, rfl, cell_of_row _ _ 0 _ _ _ hN, _, 1, rfl, fun j hj => ⟨W.heap.size, 0, rfl, ?_⟩⟩
          obtain rfl : j = 0 := by simpa using hj
          exact hC
        | 1, hi =>
          obtain rfl : (x.take n).map Int.ofNat = l := by simpa using hi
          refine ⟨W.heap.size + 1, 0, _, rfl, cell_of_row _ _ 1 _ _ _ hN, _, 7, by simp; omega, fun j hj => ⟨wr.heap.size, 0, rfl, ?_⟩⟩
          have hjn : j < n := by simp at hj; omega
          have h7 := hrX2 j _ (hxX j (by omega))
          rw [hb2.cell (p := ⟨wr.heap.size, 0 + j, none⟩) (by show wr.heap.size < W.heap.size; omega), h7]
          have hj7 : j < x.length := by omega
          simp [hjn, hj7]
      have hlen : ([[c], (x.take n).map Int.ofNat] : List (List Int)).flatten.length = n + 1 := by
        have hxl : x.length = 7 := hxs.1
        simp
        omega
      have C9 := Concat_any [[c], (x.take n).map Int.ofNat] (.slice (some ⟨W.heap.size + 1, 0, none⟩) 2 2) _ hl1 (fun l hl => by
        have hxl : x.length = 7 := hxs.1
        rcases List.mem_cons.1 hl with rfl | hl
        · simp
        · obtain rfl := List.mem_singleton.1 hl
          simp
          omega) (by simp) (by rw [hlen]; omega) (by rw [hlen]; omega)
      rw [hlen] at C9
      have C9' := C9.mono (R' := fun e w' => (∃ gn cap, e = .returned (.slice (some ⟨gn, 0, none⟩) (n + 1) cap) ∧ W.heap.size + 2 ≤ gn ∧ Own w' gn (n + 1) (fun q => ((idxR n L x).getD q 0 : Int))) ∧ Below W.heap.size W w') (fun e w' ⟨u, e1, e2, e3⟩ => by
        obtain ⟨g, cap, rfl, hg, hO⟩ := Own.of e2 (by omega)
        rw [hW0] at hg
        refine ⟨⟨g, cap, e1, hg, hO.congr fun j hj => ?_⟩, hb2.trans (e3.mono (by rw [hW0]; omega))⟩
        unfold idxR
        rw [hcx]
        cases j with
        | zero => simp
        | succ j =>
          have hxl : x.length = 7 := hxs.1
          have hj7 : j < x.length := by omega
          have hjn : j < n := by omega
          simp [hjn, hj7])
      have hcell := hRW.cell hlt
      have hni0 : (0 : Int) ≤ (n : Int) := by omega
      have hni7 : (n : Int) ≤ 7 := by omega
      have HS5 : Hid ((W.alloc (.cells #[.int .i64 c] 3)).drew.rangeAt wr.heap.size 0 X) := range_below hrX2 (balloc W (.cells #[.int .i64 c] 3)).drew (by omega)
      have HS8 : Hid ((((W.alloc (.cells #[.int .i64 c] 3)).alloc (.cells #[.slice (some ⟨W.heap.size, 0, none⟩) 1 1, .slice (some ⟨wr.heap.size, 0, none⟩) n 7] 40)).drew).rangeAt wr.heap.size 0 X) := range_below hrX2 hb2 (by omega)
      have HSZ : Hid (W.heap.size = wr.heap.size + 1) := hszW
      clear C9 hl1 hlen hb2 HOWN hxX hcx hszW hW0 hcell
      go_wp2_with (first
        | (refine wpList_load_mid rfl 75 _ rfl gO (k * 7) rfl X _ hrM und75 rfl hinX ?_)
        | (refine wpList_store_mid rfl 75 _ _ rfl wr.heap.size 0 X.toArray rfl rfl hthX hinX' honeX ?_; rw [show X.toArray.toList = X from rfl, HW.out]))
      refine wp_region_noPanic ?_
      refine wp_region_held_drew (S := fun w_ => w_.rangeAt wr.heap.size 0 X) (by kernel_rfl) (by exact hrX2) (fun hSx => ?_)
      refine wpAnyH_take (i := 0) (v := .slice (some ⟨w2.heap.size, 0, none⟩) r r) rfl (by kernel_rfl) (by kernel_rfl) (by kernel_rfl) (fun _ _ _ h => h) (Or.inl ⟨by rfl, fun w_ hSw => by clear hSw; go_simp⟩) hSx ?_
      try simp only [Act.put, List.setIfInBounds_toArray]
      refine wpAnyH_take (i := 1) (v := .int .i64 (k : Int)) rfl (by kernel_rfl) (by kernel_rfl) (by kernel_rfl) (fun _ _ _ h => h) (Or.inl ⟨by rfl, fun w_ hSw => by clear hSw; go_simp⟩) hSx ?_
      try simp only [Act.put]
      refine wpAnyH_take (i := 2) (v := .map (some B)) rfl (by kernel_rfl) (by kernel_rfl) (by kernel_rfl) (fun _ _ _ h => h) (Or.inl ⟨by rfl, fun w_ hSw => by clear hSw; go_simp⟩) hSx ?_
      try simp only [Act.put]
      refine wpAnyH_take (i := 3) (v := .agg X.toArray) rfl (by kernel_rfl) (by kernel_rfl) (by kernel_rfl) (fun _ _ _ h => h) (yieldsIf_load_mid (by rfl) 75 _ rfl wr.heap.size 0 rfl X _ (fun _ h => h) und75 rfl hinX) hSx ?_
      try simp only [Act.put]
      refine wpAnyH_take (i := 6) (v := .int .i64 (n : Int)) rfl (by kernel_rfl) (by kernel_rfl) (by kernel_rfl) (fun _ _ _ h => h) (Or.inl ⟨by rfl, fun w_ hSw => by clear hSw; go_simp⟩) hSx ?_
      try simp only [Act.put]
      refine wpAnyH_take (i := 7) (v := .slice (some ⟨wr.heap.size, 0, none⟩) n 7) rfl (by kernel_rfl) (by kernel_rfl) (by kernel_rfl) (fun _ _ _ h => h) (Or.inl ⟨by rfl, fun w_ hSw => by clear hSw; go_simp⟩) hSx ?_
      try simp only [Act.put]
      refine wpAnyH_ready (rs := [4]) (by kernel_rfl) (by simp) ?_
      refine AllReadyH.cons rfl (fun J hJ => ?_) AllReadyH.nil
      go_simp
      refine hJ.out _ _ hSx (fun hS4 => ?_)
      clear hJ J
      try simp only [Act.put, List.setIfInBounds_toArray, List.set_cons_zero, List.set_cons_succ]
      refine wpAnyH_ready (rs := [5]) (by kernel_rfl) (by simp) ?_
      refine AllReadyH.cons rfl (fun J hJ => ?_) AllReadyH.nil
      go_simp
      refine hJ.out _ _ HS5.out (fun hS5 => ?_)
      clear hJ J
      try simp only [Act.put, List.setIfInBounds_toArray, List.set_cons_zero, List.set_cons_succ]
      refine wpAnyH_ready (rs := [8]) (by kernel_rfl) (by simp) ?_
      refine AllReadyH.cons rfl (fun J hJ => ?_) AllReadyH.nil
      go_simp
      refine hJ.out _ _ HS8.out (fun hS8 => ?_)
      clear hJ J
      try simp only [Act.put, List.setIfInBounds_toArray, List.set_cons_zero, List.set_cons_succ]
      refine wpAnyH_ready (rs := [9]) (by kernel_rfl) (by simp) ?_
      refine AllReadyH.cons rfl (fun J hJ => ?_) AllReadyH.nil
      go_simp
      refine C9'.mono ?_
      rintro e w9 ⟨⟨gn, capn, rfl, hgn, hOn⟩, b9⟩
      have hR9 := hRW.below b9
      obtain ⟨v9, hc9, hf9⟩ := hR9.cell hlt
      have hS9 : w9.rangeAt wr.heap.size 0 X := range_below hrX2 b9 (by have := HSZ.out; omega)
      have hgn2 : gn ≠ w2.heap.size := by have := HSZ.out; omega
      have hOl : Own w9 gn (idxR n L x).length (fun q => ((idxR n L x).getD q 0 : Int)) := by
        have e : (idxR n L x).length = n + 1 := by
          have hxl : x.length = 7 := hxs.1
          simp [idxR]
          omega
        rw [e]; exact hOn
      have HR11 : Hid (RowsO (w9.setCell ⟨w2.heap.size, k, none⟩ (.slice (some ⟨gn, 0, none⟩) (n + 1) capn)) w2.heap.size r (A ++ [idxR n L x])) := by
        have h := hR9.store (cap := capn) hAl hlt hOl hgn2
        have e : (idxR n L x).length = n + 1 := by
          have hxl : x.length = 7 := hxs.1
          simp [idxR]
          omega
        rw [e] at h; exact h
      have hS11 : (w9.setCell ⟨w2.heap.size, k, none⟩ (.slice (some ⟨gn, 0, none⟩) (n + 1) capn)).rangeAt wr.heap.size 0 X := fun j z hz => by
        rw [World.cell?_of_block (w := w9) (a := ⟨wr.heap.size, 0 + j, none⟩) (heap_setCell_other w9 _ wr.heap.size _ (by show wr.heap.size ≠ w2.heap.size; have := hR.lt; omega))]
        exact hS9 j z hz
      have HB11 : Hid (Below w2.heap.size w2 (w9.setCell ⟨w2.heap.size, k, none⟩ (.slice (some ⟨gn, 0, none⟩) (n + 1) capn))) := ((hB.trans (hBX.mono hsz)).trans (b9.mono (by have := HSZ.out; omega))).setCell (p := ⟨w2.heap.size, k, none⟩) (Nat.le_refl _) _
      clear hOn hOl hR9 hRW C9'
      refine hJ.out _ _ hS9 (fun hSy => ?_)
      clear hJ J
      try simp only [Act.put, List.setIfInBounds_toArray, List.set_cons_zero, List.set_cons_succ]
      refine wpAnyH_ready (rs := [10]) (by kernel_rfl) (by simp) ?_
      refine AllReadyH.cons rfl (fun J hJ => ?_) AllReadyH.nil
      go_simp
      refine hJ.out _ _ hS9 (fun hSz => ?_)
      clear hJ J
      try simp only [Act.put, List.setIfInBounds_toArray, List.set_cons_zero, List.set_cons_succ]
      refine wpAnyH_ready (rs := [11]) (by kernel_rfl) (by simp) ?_
      refine AllReadyH.cons rfl (fun J hJ => ?_) AllReadyH.nil
      go_simp
      refine hJ.out _ _ hS11 (fun _ => ?_)
      clear hJ J
      try simp only [Act.put, List.setIfInBounds_toArray, List.set_cons_zero, List.set_cons_succ]
      refine wpAnyH_done (by kernel_rfl) ?_ _
      refine NoPanic.normal ?_
      go_wp2
      go_roundw
      case rel =>
        refine ⟨k + 1, A ++ [idxR n L x], by go_num, by omega, HR11.out, ?_, HB11.out⟩
        show _ = _
        rw [HTK.out, HA.out]
      case measure => simp [intOf]; omega
    · have hdec : decide ((k : Int) < r) = false := by simp; omega
      obtain rfl : k = r := by omega
      go_wp2
      go_ret
      have hAM : A = M.map (idxR n L) := by rw [HA.out, List.take_of_length_le (by rw [Hr.out]; omega)]
      refine ⟨⟨_, M, rfl, HK.out, HPW.out, ?_⟩, HB2.out.trans (hB.mono hs2)⟩
      rw [← hAM]
      exact hR.sl (by rw [hAM, List.length_map, Hr.out])

end Go.Proofs.Ytmaplmgecohjbaa

namespace Go.Proofs.Ytmaplmgecohjbaa
open Go.RowKit Go.Shelf Go.Maps

/-- What Index tells: rows by their kinds, the greatest first. -/
def IdxIs (n : Nat) (ms : List (List Nat)) (R : List (List Nat)) : Prop :=
  ∃ L M : List (List Nat), L.Perm ((els n (Gen n ms)).map (kd n)) ∧ M.Nodup ∧ (∀ y, y ∈ M ↔ y ∈ L) ∧ (M.Pairwise fun a b => ¬ LexLt 7 (fun i => a.getD i 0) (fun i => b.getD i 0)) ∧ R = M.map (idxR n L)

set_option maxRecDepth 100000 in
set_option maxHeartbeats 1000000 in
theorem Index_ok (n : Nat) (ms : List (List Nat)) (v : Value) (w : World) (h : Mk n ms v w) :
    Calls Try.prog 15 #[.int .i64 (n : Int), v] w fun e w' => (∃ y R, e = .returned (.tuple #[y, .int .i64 0]) ∧ SlSl w' y R ∧ IdxIs n ms R) ∧ Below w.heap.size w w' := by
  have hn7 := h.n7
  have hn1 := h.n1
  have hbd := gen_bound h.isP hn7 (els_nodup n (Gen n ms)) (fun a => (gen_grp h.isP).mem)
  have C0 := h.check
  have C1 := fun W (b : Below w.heap.size w W) => kindsOf_any n ms v W (h.below b)
  have C3 := fun (L : List (List Nat)) (hp : L.Perm ((els n (Gen n ms)).map (kd n))) (B m : Nat) (D : DataW Unit) (W : World) (ho : W.ownsMap Try.prog 75 (plainElem Try.prog 3) B m D) (hD : KindsIs D L) (hm : m ≤ 6000) =>
    rows_any B m n D L W ho hD (fun y hy => (kinds_sm hn7 hp y hy).1) hm (fun e => by have := hp.length_eq; rw [e, List.length_map] at this; simp at this; omega) (by rw [hp.length_eq, List.length_map]; omega) hn1 hn7
  have HC3 : Hid (∀ (L : List (List Nat)) (hp : L.Perm ((els n (Gen n ms)).map (kd n))) (B m : Nat) (D : DataW Unit) (W : World) (ho : W.ownsMap Try.prog 75 (plainElem Try.prog 3) B m D) (hD : KindsIs D L) (hm : m ≤ 6000), _) := C3
  clear C3 hbd h
  go_enter Try.func15, Try.ntmps15
  go_wp2_with (first
    | (go_at_call 34; refine C0.mono ?_; rintro e w1 ⟨rfl, b1⟩)
    | (go_at_call 35; refine (C1 _ b1).mono ?_; rintro e w2 ⟨B, m, D, L, rfl, hwB, hm, hown, hD, hp, b2⟩; have b2' := Below.next b1 b2; have C4 := HC3.out L hp B m D w2 hown hD (by omega); have HP : Hid (L.Perm ((els n (Gen n ms)).map (kd n))) := hp; clear hp hD)
    | (go_at_call 36; refine C4.mono ?_; rintro e w4 ⟨⟨y, M, rfl, hK, hS, hy⟩, b4⟩; obtain ⟨ya, yc, ey⟩ : ∃ a c, y = .slice a (M.map (idxR n L)).length c := by obtain ⟨a, c, e, _⟩ := hy; exact ⟨a, c, e⟩))
  go_ret2
  have hy' := hy
  rw [ey, List.length_map] at hy'
  exact ⟨⟨_, _, rfl, hy', L, M, HP.out, hK.1, fun z => by rw [hK.2 z]; simp, hS, rfl⟩, Below.next b2' b4⟩

set_option maxHeartbeats 400000 in
theorem Index_bad (n z : Int) (v : Value) (w : World) (C0 : Calls Try.prog 34 #[.int .i64 n, v] w fun e w' => e = .returned (.int .i64 z) ∧ Below w.heap.size w w') (hz : z ≠ 0) :
    Calls Try.prog 15 #[.int .i64 n, v] w fun e w' => e = .returned (.tuple #[.slice none 0 0, .int .i64 z]) ∧ Below w.heap.size w w' := by
  have hzb : (z == 0) = false := by simpa using hz
  go_enter Try.func15, Try.ntmps15
  go_wp2_with (go_at_call 34; refine C0.mono ?_; rintro e w1 ⟨rfl, b1⟩)
  go_ret2
  exact ⟨rfl, b1⟩

end Go.Proofs.Ytmaplmgecohjbaa

/- The law CountPolya, walked. -/
namespace Go.Proofs.Ytmaplmgecohjbaa
open Go.RowKit

/-- What a row of the index adds. -/
def rowP (k : Nat) (row : List Nat) : Nat := row.getD 0 0 * k ^ (row.drop 1).sum
/-- How many cycles the row's numbers ahead of place j make. -/
def preE (row : List Nat) (j : Nat) : Nat := ((row.drop 1).take (j - 1)).sum
theorem preE_one (row : List Nat) : preE row 1 = 0 := by simp [preE]
theorem preE_succ {row : List Nat} {j : Nat} (h1 : 1 ≤ j) (h : j < row.length) : preE row (j + 1) = preE row j + row.getD j 0 := by
  unfold preE
  obtain ⟨i, rfl⟩ : ∃ i, j = i + 1 := ⟨j - 1, by omega⟩
  have hi : i < (row.drop 1).length := by rw [List.length_drop]; omega
  rw [show i + 1 + 1 - 1 = i + 1 by omega, show i + 1 - 1 = i by omega, List.take_add_one, List.getElem?_eq_getElem hi, Option.toList_some, List.sum_append, List.sum_cons, List.sum_nil, Nat.add_zero, List.getElem_drop]
  congr 1
  simp [h, Nat.add_comm]
theorem preE_all (row : List Nat) {j : Nat} (h : row.length ≤ j) (h1 : 1 ≤ j) : preE row j = (row.drop 1).sum := by
  unfold preE
  rw [List.take_of_length_le (by rw [List.length_drop]; omega)]
theorem preE_le (row : List Nat) (j : Nat) : preE row j ≤ (row.drop 1).sum := by
  unfold preE
  conv => rhs; rw [← List.take_append_drop (j - 1) (row.drop 1), List.sum_append]
  omega
theorem sum_take_nat {l : List Nat} {i : Nat} (hi : i < l.length) : (l.take (i + 1)).sum = (l.take i).sum + l[i] := by
  rw [List.take_add_one, List.getElem?_eq_getElem hi, Option.toList_some, List.sum_append, List.sum_cons, List.sum_nil, Nat.add_zero]
theorem sum_take_le (l : List Nat) (i : Nat) : (l.take i).sum ≤ l.sum := by
  conv => rhs; rw [← List.take_append_drop i l, List.sum_append]
  omega

theorem perm_nsum {L M : List Nat} (h : L.Perm M) : L.sum = M.sum := by
  induction h with
  | nil => rfl
  | cons x _ ih => rw [List.sum_cons, List.sum_cons, ih]
  | swap x y l => simp only [List.sum_cons]; omega
  | trans _ _ ih1 ih2 => exact ih1.trans ih2
theorem IdxIs.facts {n : Nat} {ms R : List (List Nat)} (hn : n ≤ 7) (h : IdxIs n ms R) : (∀ row ∈ R, row.length = n + 1 ∧ (row.drop 1).sum ≤ 7) ∧ (R.map fun row => row.getD 0 0).sum = ordG n ms ∧ (∀ k, (R.map (rowP k)).sum = powS n k ms) ∧ R.length ≤ (els n (Gen n ms)).length := by
  obtain ⟨L, M, hp, nd, hm, _, rfl⟩ := h
  have hL : ∀ y ∈ M, ∃ a, IsP n a ∧ y = kd n a := fun y hy => by
    obtain ⟨a, ha, rfl⟩ := List.mem_map.1 (hp.mem_iff.1 ((hm y).1 hy))
    exact ⟨a, (mem_els.1 ha).1, rfl⟩
  refine ⟨fun row hr => ?_, ?_, fun k => ?_, ?_⟩
  · obtain ⟨x, hx, rfl⟩ := List.mem_map.1 hr
    obtain ⟨a, ha, rfl⟩ := hL x hx
    refine ⟨by simp [idxR, kd_len]; omega, ?_⟩
    simp only [idxR, List.drop_succ_cons, List.drop_zero, kd_take ha hn]
    exact kd_le ha hn
  · rw [List.map_map]
    have e : (M.map ((fun row : List Nat => row.getD 0 0) ∘ idxR n L)) = M.map fun x => L.count x * 1 := List.map_congr_left fun x _ => by simp [idxR]
    rw [e, count_sum (fun _ => 1) nd (fun y hy => (hm y).2 hy)]
    have : ∀ K : List (List Nat), (K.map fun _ => 1).sum = K.length := by
      intro K
      induction K with
      | nil => rfl
      | cons a K ih => rw [List.map_cons, List.sum_cons, ih, List.length_cons]; omega
    rw [this, hp.length_eq, List.length_map]
    rfl
  · rw [List.map_map]
    have e : (M.map (rowP k ∘ idxR n L)) = M.map fun x => L.count x * k ^ x.sum := List.map_congr_left fun x hx => by
      obtain ⟨a, ha, rfl⟩ := hL x hx
      simp [rowP, idxR, kd_take ha hn]
    rw [e, count_sum (fun x => k ^ x.sum) nd (fun y hy => (hm y).2 hy), perm_nsum (hp.map fun x => k ^ x.sum), List.map_map]
    rfl
  · rw [List.length_map]
    have := nodup_sub_len nd (B := L) fun y hy => (hm y).1 hy
    rw [hp.length_eq, List.length_map] at this
    exact this

theorem law7_bad (n k : Int) (ls : List (List Int)) (v : Value) (w : World) (hv : Came ls v w) (h0 : gF n ls ≠ 0) :
    Calls Try.prog 7 #[.int .i64 n, v, .int .i64 k] w fun e w' => e = .returned (.bool true) ∧ Below w.heap.size w w' := by
  obtain ⟨z, Hz⟩ : ∃ z, Hid (gF n ls = z) := ⟨_, rfl⟩
  have hz : z ≠ 0 := by rw [← Hz.out]; exact h0
  have CB := beads_true w
  have CG := fun W (h : Below w.heap.size w W) => GCheck_any n ls v W (hv.below h).sls hv.each hv.len
  rw [Hz.out] at CG
  have C15 := fun W (h : Below w.heap.size w W) => Index_bad n z v W (CG W h) hz
  have hzd : (z == 0) = false := by simpa using hz
  have hzn : (z != 0) = true := by simpa using hz
  clear hv h0 CG
  go_enter Try.func7, Try.ntmps7
  go_wp2_with (first
    | (go_at_call 24; refine CB.mono ?_; rintro e w1 ⟨rfl, b1⟩)
    | (go_at_call 15; refine (C15 _ b1).mono ?_; rintro e w2 ⟨rfl, b2⟩))
  go_ret
  exact ⟨rfl, Below.next b1 b2⟩

theorem law7_far (n : Nat) (k : Int) (ms : List (List Nat)) (v : Value) (w : World) (hM : Mk n ms v w) (hk : k < 1 ∨ 200 < k) :
    Calls Try.prog 7 #[.int .i64 (n : Int), v, .int .i64 k] w fun e w' => e = .returned (.bool true) ∧ Below w.heap.size w w' := by
  have CB := beads_true w
  have C15 := fun W (h : Below w.heap.size w W) => Index_ok n ms v W (hM.below h)
  have C20 := fun W (h : Below w.heap.size w W) => Colourings_far n k ms v W (hM.below h) hk
  clear hM hk
  go_enter Try.func7, Try.ntmps7
  go_wp2_with (first
    | (go_at_call 24; refine CB.mono ?_; rintro e w1 ⟨rfl, b1⟩)
    | (go_at_call 15; refine (C15 _ b1).mono ?_; rintro e w2 ⟨⟨y, R, rfl, hy, hI⟩, b2⟩; replace b2 := Below.next b1 b2; obtain ⟨ya, yc, rfl, _⟩ := id hy)
    | (go_at_call 20; refine (C20 _ b2).mono ?_; rintro e w3 ⟨rfl, b3⟩))
  go_ret
  exact ⟨rfl, Below.next b2 b3⟩

end Go.Proofs.Ytmaplmgecohjbaa

namespace Go.Proofs.Ytmaplmgecohjbaa
open Go.RowKit

theorem conF_two {n i : Nat} (hi : i ≤ n) : conF n ([i, n - i].map Int.ofNat) = 0 := by
  have h1 : badI n ([i, n - i].map Int.ofNat) = false := by
    unfold badI
    simp
    omega
  unfold conF
  rw [if_neg (by simp), h1, if_neg (by simp), if_pos (by simp; omega)]
theorem sl_two (w : World) (i j : Nat) : Sl (w.alloc (.cells #[.int .i64 (i : Int), .int .i64 (j : Int)] 3)) (.slice (some ⟨w.heap.size, 0, none⟩) 2 2) ([i, j].map Int.ofNat) := by
  refine ⟨_, 2, rfl, fun q hq => ⟨w.heap.size, 0, rfl, ?_⟩⟩
  rw [Nat.zero_add, cell_of_row _ _ q _ _ _ (heap_alloc_new w _)]
  have hq2 : q < 2 := by simpa using hq
  rcases (show q = 0 ∨ q = 1 by omega) with rfl | rfl <;> rfl
theorem sR_le {f : Nat → Nat} {m : Nat} : ∀ {q : Nat}, q ≤ m → sR f q ≤ sR f m := fun {q} h => by
  obtain ⟨d, rfl⟩ : ∃ d, m = q + d := ⟨m - q, by omega⟩
  clear h
  induction d with
  | zero => exact Nat.le_refl _
  | succ d ih => rw [← Nat.add_assoc, sR]; omega

set_option maxRecDepth 100000 in
set_option maxHeartbeats 8000000 in
theorem law7_ok (n k : Nat) (ms : List (List Nat)) (v : Value) (w : World) (hM : Mk n ms v w) (hk1 : 1 ≤ k) (hk2 : k ≤ 200) :
    Calls Try.prog 7 #[.int .i64 (n : Int), v, .int .i64 (k : Int)] w fun e w' => e = .returned (.bool true) ∧ Below w.heap.size w w' := by
  have hn7 := hM.n7
  have hn1 := hM.n1
  have hbd := gen_bound hM.isP hn7 (els_nodup n (Gen n ms)) (fun a => (gen_grp hM.isP).mem)
  have CB := beads_true w
  have C15 := fun W (h : Below w.heap.size w W) => Index_ok n ms v W (hM.below h)
  have C20 := fun W (h : Below w.heap.size w W) => Colourings_ok n k ms v W (hM.below h) hk1 hk2
  have C20b := fun W (h : Below w.heap.size w W) => Colourings_ok n 2 ms v W (hM.below h) (by omega) (by omega)
  have C26 := fun W (h : Below w.heap.size w W) => Order_ok n ms v W (hM.below h)
  have C22 := fun (i : Nat) (hi : i ≤ n) W (h : Below w.heap.size w W) => Content_ok n ms [i, n - i] v (.slice (some ⟨W.heap.size, 0, none⟩) 2 2) (W.alloc (.cells #[.int .i64 (i : Int), .int .i64 ((n - i : Nat) : Int)] 3)) (hM.below (Below.next h (balloc W _))) (sl_two W i (n - i)) (conF_two hi)
  have hps := powS_le (ms := ms) hn7 hk1 hk2 hbd.2
  have hcol := powS_col (ms := ms) (k := k) hn7 (by omega) hM.isP
  have htwo := con_two (n := n) (ms := ms) hM.isP
  have HTL : Hid (∀ q, q ≤ n + 1 → sR (fun i => conG n 2 ms [i, n - i]) q ≤ colG n 2 ms) := fun q hq => by rw [← htwo]; exact sR_le hq
  have hc2 := powS_le (ms := ms) (k := 2) hn7 (by omega) (by omega) hbd.2
  have hcol2 := powS_col (ms := ms) (k := 2) hn7 (by omega) hM.isP
  have hob : ordG n ms ≤ 5040 := hbd.2
  have ho1 : 1 ≤ ordG n ms := hbd.1
  have HFACT : Hid (∀ R, IdxIs n ms R → (∀ row ∈ R, row.length = n + 1 ∧ (row.drop 1).sum ≤ 7) ∧ (R.map fun row => row.getD 0 0).sum = ordG n ms ∧ (R.map (rowP k)).sum = powS n k ms ∧ R.length ≤ 5040) := fun R hR => by
    have := hR.facts hn7
    exact ⟨this.1, this.2.1, this.2.2.1 k, Nat.le_trans this.2.2.2 hbd.2⟩
  have ho : (els n (Gen n ms)).length = ordG n ms := rfl
  rw [ho] at hcol hcol2
  obtain ⟨two, Htwo⟩ : ∃ x, Hid (colG n 2 ms = x) := ⟨_, rfl⟩
  obtain ⟨c, Hc⟩ : ∃ x, Hid (colG n k ms = x) := ⟨_, rfl⟩
  obtain ⟨o, Ho⟩ : ∃ x, Hid (ordG n ms = x) := ⟨_, rfl⟩
  obtain ⟨P, HP⟩ : ∃ x, Hid (powS n k ms = x) := ⟨_, rfl⟩
  have hcon : ∀ i, conG n ([i, n - i] : List Nat).length ms [i, n - i] = conG n 2 ms [i, n - i] := fun i => rfl
  simp only [hcon] at C22
  obtain ⟨F, HF⟩ : ∃ F : Nat → Nat, Hid ((fun i => conG n 2 ms [i, n - i]) = F) := ⟨_, rfl⟩
  have HFe : ∀ i, conG n 2 ms [i, n - i] = F i := fun i => by rw [← HF.out]
  simp only [HFe] at C22
  rw [HF.out] at htwo
  rw [HF.out] at HTL
  rw [Htwo.out] at htwo HTL hcol2 C20b
  rw [Hc.out] at hcol C20
  rw [Ho.out] at hcol hcol2 hob ho1 C26 HFACT
  rw [HP.out] at hcol hps HFACT
  have htb : two ≤ 400000000000000000 := by
    have : two * 1 ≤ two * o := Nat.mul_le_mul_left _ ho1
    omega
  have hco : (c : Int) * (o : Int) = (P : Int) := by rw [← Int.natCast_mul, hcol]
  have HT2 : Hid (sR F (n + 1) = two) := htwo
  have HCF : Hid (∀ (i : Nat), i ≤ n → ∀ W, Below w.heap.size w W → Calls Try.prog 22 #[.int .i64 (n : Int), v, .slice (some ⟨W.heap.size, 0, none⟩) 2 2] (W.alloc (.cells #[.int .i64 (i : Int), .int .i64 ((n - i : Nat) : Int)] 3)) fun e w' => e = .returned (.tuple #[.int .i64 (F i : Int), .int .i64 0]) ∧ Below (W.alloc (.cells #[.int .i64 (i : Int), .int .i64 ((n - i : Nat) : Int)] 3)).heap.size (W.alloc (.cells #[.int .i64 (i : Int), .int .i64 ((n - i : Nat) : Int)] 3)) w') := C22
  clear hM hbd ho C22 hcol hcol2 hc2 htwo hcon HFe ho1
  go_enter Try.func7, Try.ntmps7
  go_wp2_with (first
    | (go_at_call 24; refine CB.mono ?_; rintro e w1 ⟨rfl, b1⟩)
    | (go_at_call 15; refine (C15 _ b1).mono ?_; rintro e w2 ⟨⟨y, R, rfl, hy, hI⟩, b2⟩; replace b2 := Below.next b1 b2; obtain ⟨hR1, hR2, hR3, hR4⟩ := HFACT.out R hI; obtain ⟨ya, yc, ey, _⟩ := id hy; obtain ⟨r, Hr⟩ : ∃ r, Hid (R.length = r) := ⟨_, rfl⟩; rw [Hr.out] at ey hR4; subst ey; clear hI)
    | (go_at_call 20; refine (C20 _ b2).mono ?_; rintro e w3 ⟨rfl, b3⟩; replace b3' := Below.next b2 b3)
    | (go_at_call 26; refine (C26 _ b3').mono ?_; rintro e w4 ⟨rfl, b4⟩))
  have b4' := Below.next b3' b4
  have hy4 : SlSl w4 (.slice ya r yc) R := (hy.below b3).below b4
  have HROW : Hid (∀ (i : Nat) (row : List Nat), R[i]? = some row → ∃ b off ub uo uc, ya = some ⟨b, off, none⟩ ∧ w4.cell? ⟨b, off + i, none⟩ = some (.slice (some ⟨ub, uo, none⟩) (n + 1) uc) ∧ ∀ j, j < n + 1 → w4.cell? ⟨ub, uo + j, none⟩ = some (.int .i64 (row.getD j 0 : Int))) := fun i row hi => by
    obtain ⟨b, off, u, e1, _, e2, a2, c2, rfl, h3⟩ := hy4.at hi
    have hl := (hR1 row (List.mem_of_getElem? hi)).1
    rw [List.length_map, hl] at h3 e2
    obtain ⟨ub, uo, rfl, _⟩ := h3 0 (by omega)
    refine ⟨b, off, ub, uo, c2, e1, e2, fun j hj => ?_⟩
    obtain ⟨b', o', e, h4⟩ := h3 j hj
    simp only [Option.some.injEq, Addr.mk.injEq, and_true] at e
    obtain ⟨rfl, rfl⟩ := e
    rw [h4]
    simp [hl, hj]
  have HR1 : Hid (∀ row ∈ R, row.length = n + 1 ∧ (row.drop 1).sum ≤ 7) := hR1
  have HS1 : Hid (∀ i row, R[i]? = some row → ((R.map fun row => row.getD 0 0).take (i + 1)).sum = ((R.map fun row => row.getD 0 0).take i).sum + row.getD 0 0 ∧ ((R.map (rowP k)).take (i + 1)).sum = ((R.map (rowP k)).take i).sum + rowP k row) := fun i row hi => by
    have hlt := (List.getElem?_eq_some_iff.1 hi).1
    have he := (List.getElem?_eq_some_iff.1 hi).2
    rw [sum_take_nat (by rw [List.length_map]; exact hlt), sum_take_nat (by rw [List.length_map]; exact hlt), List.getElem_map, List.getElem_map, he]
    exact ⟨rfl, rfl⟩
  have HS2 : Hid (∀ i, ((R.map fun row => row.getD 0 0).take i).sum ≤ o ∧ ((R.map (rowP k)).take i).sum ≤ P) := fun i => by
    rw [← hR2, ← hR3]
    exact ⟨sum_take_le _ _, sum_take_le _ _⟩
  have HS3 : Hid (((R.map fun row => row.getD 0 0).take r).sum = o ∧ ((R.map (rowP k)).take r).sum = P) := by
    rw [List.take_of_length_le (by rw [List.length_map, Hr.out]; omega), List.take_of_length_le (by rw [List.length_map, Hr.out]; omega)]
    exact ⟨hR2, hR3⟩
  clear hR1 hR2 hR3 hy hy4 b1 b2 b3 b3' b4 HFACT C15 C20 C26 CB
  go_loopw [13, 14, 15] (fun s a i wr => ∃ j S A : Nat, i = .int .i64 (j : Int) ∧ j ≤ r ∧ s = .int .i64 (S : Int) ∧ a = .int .i64 (A : Int) ∧ Hid (((R.map fun row => row.getD 0 0).take j).sum = A ∧ ((R.map (rowP k)).take j).sum = S) ∧ wr = w4) (fun _ _ i _ => (r - intOf i).toNat)
  case atStart => exact ⟨0, 0, 0, rfl, by omega, rfl, rfl, (by simp : ((R.map fun row => row.getD 0 0).take 0).sum = 0 ∧ ((R.map (rowP k)).take 0).sum = 0), rfl⟩
  case round =>
    obtain ⟨j, S, A, rfl, hj, rfl, rfl, HSA, hw⟩ := hrel
    replace hw := hw.symm
    subst hw
    have hb12 := HS2.out j
    rw [HSA.out.1, HSA.out.2] at hb12
    by_cases hlt : j < r
    · have hji : (j : Int) < r := by omega
      have hj0 : (0 : Int) ≤ (j : Int) := by omega
      have hdec : decide ((j : Int) < r) = true := by simp; omega
      obtain ⟨row, hrow⟩ : ∃ row, R[j]? = some row := ⟨R[j]'(by rw [Hr.out]; exact hlt), by simp⟩
      obtain ⟨b, off, ub, uo, uc, rfl, hcr, hcells⟩ := HROW.out j row hrow
      obtain ⟨hrl, hr7⟩ := HR1.out row (List.mem_of_getElem? hrow)
      have hs12 := HS1.out j row hrow
      have hb34 := HS2.out (j + 1)
      rw [hs12.1, hs12.2, HSA.out.1, HSA.out.2] at hb34
      have HSA2 : Hid (((R.map fun row => row.getD 0 0).take (j + 1)).sum = A + row.getD 0 0 ∧ ((R.map (rowP k)).take (j + 1)).sum = S + rowP k row) := by
        refine ⟨?_, ?_⟩
        · rw [hs12.1, HSA.out.1]
        · rw [hs12.2, HSA.out.2]
      have HCE : Hid (∀ q, q < n + 1 → w4.cell? ⟨ub, uo + q, none⟩ = some (.int .i64 (row.getD q 0 : Int))) := hcells
      have hc0 := hcells 0 (by omega)
      rw [Nat.add_zero] at hc0
      have HPW : Hid (∀ e, e ≤ (row.drop 1).sum → row.getD 0 0 * k ^ e ≤ rowP k row) := fun e he => Nat.mul_le_mul_left _ (Nat.pow_le_pow_right hk1 he)
      have HPE : Hid ((∀ q, 1 ≤ q → q < n + 1 → preE row (q + 1) = preE row q + row.getD q 0) ∧ (∀ q, preE row q ≤ (row.drop 1).sum) ∧ preE row (n + 1) = (row.drop 1).sum ∧ preE row 1 = 0) := ⟨fun q h1 h2 => preE_succ h1 (by rw [hrl]; exact h2), fun q => preE_le row q, preE_all row (by omega) (by omega), preE_one row⟩
      have HRP : Hid (rowP k row = row.getD 0 0 * k ^ (row.drop 1).sum) := rfl
      obtain ⟨h0, Hh0⟩ : ∃ h0, Hid (row.getD 0 0 = h0) := ⟨_, rfl⟩
      obtain ⟨rp, Hrp⟩ : ∃ rp', Hid (rowP k row = rp') := ⟨_, rfl⟩
      rw [Hh0.out] at hc0 hb34 HSA2 HPW HRP
      rw [Hrp.out] at hb34 HSA2 HPW HRP
      have HR7 : Hid ((row.drop 1).sum ≤ 7) := hr7
      clear hs12 hcells hrow hrl hr7
      go_wp2
      go_loopw [16, 17] (fun x i wr => ∃ q X : Nat, i = .int .i64 (q : Int) ∧ 1 ≤ q ∧ q ≤ n + 1 ∧ x = .int .i64 (X : Int) ∧ Hid (X = h0 * k ^ preE row q) ∧ wr = w4) (fun _ i _ => (n + 1 - intOf i).toNat)
      case atStart => exact ⟨1, h0, rfl, by omega, by omega, rfl, (by rw [HPE.out.2.2.2]; simp : h0 = h0 * k ^ preE row 1), rfl⟩
      case round =>
        obtain ⟨q, X, rfl, hq1, hq2, rfl, HXX, hw⟩ := hrel
        replace hw := hw.symm
        subst hw
        by_cases hql : q < n + 1
        · have hqi : (q : Int) < (n : Int) + 1 := by omega
          have hq0 : (0 : Int) ≤ (q : Int) := by omega
          have hdq : decide ((q : Int) < (n : Int) + 1) = true := by simp; omega
          have hcq := HCE.out q hql
          have hpe := HPE.out.1 q hq1 hql
          have hpe2 := HPE.out.2.1 (q + 1)
          obtain ⟨m, Hm⟩ : ∃ m, Hid (row.getD q 0 = m) := ⟨_, rfl⟩
          rw [Hm.out] at hcq hpe
          have HPQ : Hid (preE row (q + 1) = preE row q + m ∧ preE row q + m ≤ (row.drop 1).sum) := ⟨hpe, by omega⟩
          have hm7 : m ≤ 7 := by have := HPQ.out.2; have := HR7.out; omega
          clear hpe hpe2
          go_wp2
          go_loopw [16, 18] (fun x i wr => ∃ t X : Nat, i = .int .i64 (t : Int) ∧ t ≤ m ∧ x = .int .i64 (X : Int) ∧ Hid (X = h0 * k ^ (preE row q + t)) ∧ wr = w4) (fun _ i _ => (m - intOf i).toNat)
          case atStart => exact ⟨0, X, rfl, by omega, rfl, (by rw [Nat.add_zero]; exact HXX.out : X = h0 * k ^ (preE row q + 0)), rfl⟩
          case round =>
            clear HXX
            obtain ⟨t, X, rfl, ht, rfl, HXX, hw⟩ := hrel
            replace hw := hw.symm
            subst hw
            by_cases htl : t < m
            · have hdt : decide ((t : Int) < (m : Int)) = true := by simp; omega
              obtain ⟨Y, HY⟩ : ∃ Y, Hid (X * k = Y) := ⟨_, rfl⟩
              have hYe : Y = h0 * k ^ (preE row q + (t + 1)) := by rw [← HY.out, HXX.out, Nat.mul_assoc, ← Nat.pow_succ]; rfl
              have hYb : Y ≤ rp := by rw [hYe]; exact HPW.out _ (by have := HPQ.out.2; omega)
              have hXk : (X : Int) * (k : Int) = (Y : Int) := by rw [← Int.natCast_mul, HY.out]
              have HYE : Hid (Y = h0 * k ^ (preE row q + (t + 1))) := hYe
              have hYb2 : Y ≤ 400000000000000000 := by omega
              clear hYe
              go_wp2
              go_roundw
              case rel => exact ⟨t + 1, Y, by go_num, by omega, by go_num, HYE, trivial⟩
              case measure => simp [intOf]; omega
            · have hdt : decide ((t : Int) < (m : Int)) = false := by simp; omega
              obtain rfl : t = m := by omega
              go_wp2
              go_roundw
              case rel => exact ⟨q + 1, X, by go_num, by omega, by omega, rfl, (by rw [HPQ.out.1]; exact HXX.out : X = h0 * k ^ preE row (q + 1)), trivial⟩
              case measure => simp [intOf]; omega
        · have hdq : decide ((q : Int) < (n : Int) + 1) = false := by simp; omega
          obtain rfl : q = n + 1 := by omega
          have hXr : X = rp := by rw [HXX.out, HPE.out.2.2.1, ← HRP.out]
          subst hXr
          go_wp2
          go_roundw
          case rel => exact ⟨j + 1, S + X, A + h0, by go_num, by omega, by go_num, by go_num, HSA2, trivial⟩
          case measure => simp [intOf]; omega
    · have hdec : decide ((j : Int) < r) = false := by simp; omega
      obtain rfl : j = r := by omega
      have e12 := HS3.out
      rw [HSA.out.1, HSA.out.2] at e12
      obtain ⟨rfl, rfl⟩ := e12
      have hne1 : ((A : Int) != (A : Int)) = false := by simp
      have hne2 : ((S : Int) != (S : Int)) = false := by simp
      clear HS1 HS2 HS3 HROW HR1 HSA
      have b4w := b4'
      go_wp2_with (go_at_call 20; refine (C20b _ b4').mono ?_; rintro e w5 ⟨rfl, b5⟩; replace b5 := Below.next b4' b5)
      go_loopw [13, 20] (fun s i wr => ∃ q X : Nat, i = .int .i64 (q : Int) ∧ q ≤ n + 1 ∧ s = .int .i64 (X : Int) ∧ Hid (sR F q = X) ∧ Below w.heap.size w wr) (fun _ i _ => (n + 1 - intOf i).toNat)
      case atStart => exact ⟨0, 0, rfl, by omega, rfl, (rfl : sR F 0 = 0), b5⟩
      case round =>
        obtain ⟨q, X, rfl, hq, rfl, HX, hB⟩ := hrel
        by_cases hql : q ≤ n
        · have hdq : decide ((q : Int) ≤ (n : Int)) = true := by simp; omega
          have C := HCF.out q hql wr hB
          have hq1 : ((n - q : Nat) : Int) = (n : Int) - (q : Int) := by omega
          have hX2 := HTL.out (q + 1) (by omega)
          have HX2 : Hid (sR F (q + 1) = X + F q) := by show _ = _; rw [sR, HX.out]
          rw [HX2.out] at hX2
          have hbn := Below.next hB (balloc wr (.cells #[.int .i64 (q : Int), .int .i64 ((n - q : Nat) : Int)] 3))
          rw [hq1] at C hbn
          obtain ⟨f, Hf⟩ : ∃ f, Hid (F q = f) := ⟨_, rfl⟩
          rw [Hf.out] at C HX2 hX2
          clear hq1
          go_wp2_with (go_at_call 22; refine C.mono ?_; rintro e w6 ⟨rfl, b6⟩)
          go_roundw
          case rel => exact ⟨q + 1, X + f, by go_num, by omega, by go_num, HX2, Below.next hbn b6⟩
          case measure => simp [intOf]; omega
        · have hdq : decide ((q : Int) ≤ (n : Int)) = false := by simp; omega
          obtain rfl : q = n + 1 := by omega
          have e : X = two := by rw [← HX.out, HT2.out]
          subst e
          go_wp2
          go_ret
          exact ⟨by simp, hB⟩

theorem CountPolya_law (n k : Int) (ls : List (List Int)) (v : Value) (w : World) (_h : (Lit.int .i64 n).wf = true) (_h2 : (Lit.int .i64 k).wf = true) (hv : Came ls v w) :
    Calls Try.prog 7 #[.int .i64 n, v, .int .i64 k] w fun e w' => e = .returned (.bool true) ∧ Below w.heap.size w w' := by
  by_cases h0 : gF n ls = 0
  · obtain ⟨m, ms, rfl, hM, _⟩ := hv.mk' h0
    by_cases hk : k < 1 ∨ 200 < k
    · exact law7_far m k ms v w hM hk
    · obtain ⟨q, rfl⟩ : ∃ q : Nat, k = q := ⟨k.toNat, by omega⟩
      exact law7_ok m q ms v w hM (by omega) (by omega)
  · exact law7_bad n k ls v w hv h0

end Go.Proofs.Ytmaplmgecohjbaa
