/- The law CountContent, walked. -/
import Derived.Test.YtmaplmgecohjbaaE5
import Derived.Test.YtmaplmgecohjbaaC11
import Derived.Test.YtmaplmgecohjbaaC9
import Derived.Test.YtmaplmgecohjbaaE2
import Derived.Test.YtmaplmgecohjbaaC14
import Derived.Test.YtmaplmgecohjbaaD3
import Derived.Test.YtmaplmgecohjbaaGLM
import Derived.Test.YtmaplmgecohjbaaGL3
/- The walk of Content. -/
/- The walk of filled. -/
namespace Go.Proofs.Ytmaplmgecohjbaa
open Go.RowKit Go.Maps Go.Shelf

theorem clone_room (many : List Nat) (u : Value) (w : World) (hu : Sl w u (many.map Int.ofNat)) (h1 : 1 ≤ many.length) (h8 : many.length ≤ 8) :
    Calls Try.prog 70 #[u] w fun e w' => (∃ g cap, e = .returned (.slice (some ⟨g, 0, none⟩) many.length cap) ∧ w.heap.size ≤ g ∧ Own w' g many.length (fun j => (many.getD j 0 : Int))) ∧ Below w.heap.size w w' := by
  obtain ⟨i3, ti, tz0, tz1, tz2⟩ := info3
  obtain ⟨a, cap, rfl, hc⟩ := hu
  rw [List.length_map] at hc ⊢
  obtain ⟨b, off, rfl, _⟩ := hc 0 (by omega)
  have hnews : ∀ j v, (vl many)[j]? = some v → w.cell? ⟨b, off + j, none⟩ = some v := fun j v hv => by
    have hj : j < many.length := by have := (List.getElem?_eq_some_iff.1 hv).1; simpa [vl] using this
    obtain ⟨b', off', e, h⟩ := hc j hj
    simp only [Option.some.injEq, Addr.mk.injEq, and_true] at e
    obtain ⟨rfl, rfl⟩ := e
    rw [h]
    simp [vl, hj] at hv ⊢
    exact hv
  have C := AnyE.slices_Clone cloneInt i3 (.int .i64 0) 1 8 ti tz0 tz1 tz2 (by simp [Value.cells]) (by omega) sizeOf3' b off many.length cap (vl many) w (by simp [vl]) (by unfold maxLen; omega) (by omega) hnews (fun u hu => by
    simp only [vl, List.mem_map] at hu
    obtain ⟨x, _, rfl⟩ := hu
    rfl)
  change Calls Try.prog 70 _ _ _ at C
  refine C.mono (fun e w' ⟨v', e1, e2, _, e4⟩ => ?_)
  obtain ⟨g, cap, rfl, hg, hO⟩ := Own.of (l := many.map Int.ofNat) e2 h1
  refine ⟨⟨g, cap, e1, hg, hO.congr fun j hj => ?_⟩, e4⟩
  simp [hj]

theorem lenIs_of_own {w w' : World} {base g : Nat} {u : Value} {ls : List Nat} (h : w.ownsRow base 3 1 u ls.length (intL ls)) (hb : Below w.heap.size w w') (hg : w.heap.size ≤ g) : LenIs w' g u ls := by
  obtain ⟨_, ⟨rfl, h0⟩ | ⟨b, cap, cur, rfl, _, hcur, hle, _, hsz, ht⟩⟩ := h
  · exact ⟨none, 0, by rw [h0], by omega, fun j hj => absurd hj (by omega)⟩
  · have hbl : b < w.heap.size := (Array.getElem?_eq_some_iff.1 hcur).1
    refine ⟨_, cap, rfl, hle, fun j hj => ⟨b, 0, rfl, by omega, ?_⟩⟩
    rw [hb.cell (p := ⟨b, 0 + j, none⟩) hbl, cell_of_row w b _ cur 3 (0, 0) hcur]
    have h2 : (cur.toList.take (ls.length * 1))[j]? = (intL ls)[j]? := by rw [ht]
    rw [List.getElem?_take, if_pos (by omega)] at h2
    rw [Nat.zero_add, ← Array.getElem?_toList, h2]
    simp [intL, hj]
theorem desc_mem {x : List Nat} {v : Nat} (h : v ∈ desc x 7) : v ≤ 7 := by
  have := List.count_pos_iff.2 h
  rw [count_desc] at this
  split at this <;> omega
theorem desc_len7 {x : List Nat} (h : SmK x) (h7 : x.sum ≤ 7) : (desc x 7).length ≤ 7 := by
  rw [desc_len]
  have := all7_sum h.1
  unfold all7 at this
  omega
theorem Only.grown {g : Nat} {w w' : World} (h : Only g w w') : w.grownBy w' (some g) := ⟨h.1.os, h.1.tape, h.1.output, Nat.le_of_eq h.2.1.symm, fun k _ hk => h.2.2 k (fun e => hk (by rw [e]))⟩
theorem sum_one (L : List (List Nat)) : (L.map fun _ => (1 : Int)).sum = L.length := by
  induction L with
  | nil => rfl
  | cons a l ih => rw [List.map_cons, List.sum_cons, ih, List.length_cons]; omega
theorem sum_bd {L : List (List Nat)} {F : List Nat → Int} {M : Int} (h : ∀ y ∈ L, F y ≤ M) : (L.map F).sum ≤ L.length * M := by
  induction L with
  | nil => simp
  | cons a l ih =>
    have h1 := ih fun y hy => h y (by simp [hy])
    have h2 := h a (by simp)
    rw [List.map_cons, List.sum_cons, List.length_cons, Int.natCast_succ, Int.add_mul, Int.one_mul]
    omega

set_option maxRecDepth 100000 in
set_option maxHeartbeats 4000000 in
theorem filled_any (B n : Nat) (D : DataW Unit) (L : List (List Nat)) (many : List Nat) (u : Value) (w : World) (hown : w.ownsMap Try.prog 75 (plainElem Try.prog 3) B n D) (hD : KindsIs D L) (hL : ∀ y ∈ L, SmK y ∧ y.sum ≤ 7) (hLl : L.length ≤ 6000) (hL1 : 1 ≤ L.length)
    (hu : Sl w u (many.map Int.ofNat)) (h1 : 1 ≤ many.length) (h8 : many.length ≤ 8) (h7 : ∀ c, many.getD c 0 ≤ 7) :
    Calls Try.prog 49 #[.map (some B), u] w fun e w' => e = .returned (.int .i64 ((L.map fun y => (fillsN many.length (desc y 7) (fun c => many.getD c 0) : Int)).sum.tdiv (L.length : Int))) ∧ Below w.heap.size w w' := by
  have hbl := hown.lt
  have hsz := hown.size_le
  have HL : Hid (∀ y ∈ L, SmK y ∧ y.sum ≤ 7) := hL
  have HL' : Hid (∀ y ∈ L, SmK y) := fun y hy => (hL y hy).1
  have HD : Hid (KindsIs D L) := hD
  obtain ⟨S0, HS0⟩ : ∃ S0, Hid (Maps.size D = S0) := ⟨_, rfl⟩
  rw [HS0.out] at hsz
  obtain ⟨k, Hk⟩ : ∃ k, Hid (many.length = k) := ⟨_, rfl⟩
  have HC := fun (W : World) (b : Below w.heap.size w W) => clone_room many u W (hu.below b) h1 h8
  rw [Hk.out] at HC h1 h8 ⊢
  obtain ⟨room, Hroom⟩ : ∃ room : Nat → Nat, Hid ((fun c => many.getD c 0) = room) := ⟨_, rfl⟩
  have er : (fun j => (many.getD j 0 : Int)) = fun j => (room j : Int) := by rw [← Hroom.out]
  rw [er] at HC
  replace h7 : ∀ c, room c ≤ 7 := by rw [← Hroom.out]; exact h7
  rw [Hroom.out]
  obtain ⟨F, HF⟩ : ∃ F : List Nat → Int, Hid ((fun y => (fillsN k (desc y 7) room : Int)) = F) := ⟨_, rfl⟩
  rw [HF.out]
  have HFe : Hid (∀ y, F y = (fillsN k (desc y 7) room : Int)) := fun y => by rw [← HF.out]
  have HF0 : ∀ y, 0 ≤ F y := fun y => by rw [HFe.out]; exact Int.natCast_nonneg _
  have HF9 : ∀ y ∈ L, F y ≤ 2097152 := fun y hy => by
    rw [HFe.out]
    have h2 := fills_le k (desc y 7) room
    have h3 := pow8 h8 (desc_len7 (hL y hy).1 (hL y hy).2)
    omega
  have hsF := sum_bd HF9
  have hs1 := sum_one L
  have HST : Hid (sumK L (Maps.has D) (fun _ => 1) = 0 ∧ sumK L (Maps.has D) F = 0) := ⟨sumK_start hD _, sumK_start hD _⟩
  have HBD : Hid (∀ left, 0 ≤ sumK L left (fun _ => 1) ∧ sumK L left (fun _ => 1) ≤ 6000 ∧ 0 ≤ sumK L left F ∧ sumK L left F ≤ 12582912000) := fun left => by
    have e1 := sumK_bd (L := L) (left := left) (F := fun _ => (1 : Int)) (fun _ => by omega)
    have e2 := sumK_bd (L := L) (left := left) (F := F) HF0
    have : (L.length : Int) * 2097152 ≤ 6000 * 2097152 := Int.mul_le_mul_of_nonneg_right (by omega) (by omega)
    omega
  have HFF : Hid (∀ y ∈ L, 0 ≤ F y ∧ F y ≤ 2097152) := fun y hy => ⟨HF0 y, HF9 y hy⟩
  obtain ⟨tot, Htot⟩ : ∃ tot, Hid ((L.map F).sum = tot) := ⟨_, rfl⟩
  obtain ⟨len, Hlen⟩ : ∃ len : Nat, Hid (L.length = len) := ⟨_, rfl⟩
  rw [Htot.out, Hlen.out]
  rw [Hlen.out] at hLl hL1
  obtain ⟨R, HR⟩ : ∃ R : Int, Hid (tot.tdiv (len : Int) = R) := ⟨_, rfl⟩
  rw [HR.out]
  have H7 : Hid (∀ c, room c ≤ 7) := h7
  have Hfill : Hid (FillsP k = FillsP k ∧ ∀ ls, FillsP k ls) := ⟨rfl, fills_any k h8⟩
  clear hL hD h7 HF0 HF9 hsF hs1 er
  obtain ⟨ua, um, uc, rfl⟩ : ∃ a m c, u = .slice a m c := by obtain ⟨a, c, e, _⟩ := hu; exact ⟨a, _, c, e⟩
  go_enter Try.func49, Try.ntmps49
  go_wp2_with (first
    | (at_range; refine wpList_range_own _ rfl _ 52 rfl 75 3 keyed75 und52k _ B n _ rfl hown ?_; intro w0 hrg0 hg0 hs0)
    | go_in)
  try go_frame
  go_loopw [5, 6] (fun a b wr => ∃ (left : Lit → Bool) (cnt : Nat), wr.ranges Try.prog 75 (plainElem Try.prog 3) B w.heap.size n D left cnt ∧ a = .int .i64 (sumK L left (fun _ => 1)) ∧ b = .int .i64 (sumK L left F) ∧ Below w.heap.size w wr)
    (fun _ _ wr => wr.rangeLeft B w.heap.size)
  case atStart =>
    exact ⟨_, _, hrg0, by rw [HST.out.1], by rw [HST.out.2], (Below.refl _ _).grown hg0 (Nat.le_refl _) (fun j hj => by cases hj)⟩
  case round =>
    clear HST hrg0 hg0 hs0
    obtain ⟨left, cnt, hrg, rfl, rfl, hnx⟩ := hrel
    obtain ⟨t, Ht⟩ : ∃ t, Hid (sumK L left (fun _ => 1) = t) := ⟨_, rfl⟩
    obtain ⟨s, Hs⟩ : ∃ s, Hid (sumK L left F = s) := ⟨_, rfl⟩
    obtain ⟨hb1, hb2, hb3, hb4⟩ := HBD.out left
    rw [Ht.out] at hb1 hb2
    rw [Hs.out] at hb3 hb4
    rw [Ht.out, Hs.out]
    go_wp2_with (first
      | (at_next; refine wpList_next_ranges _ rfl _ rfl 75 keyed75 (plainElem Try.prog 3) (fun v : Value => v) (Value.int .i64) (fun key kl _ => ⟨key, rfl⟩) (fun v y hv => by obtain ⟨c, rfl, _⟩ := plainElem_int_inv und3 hv; exact ⟨c, rfl⟩) B w.heap.size n _ _ _ rfl hrg ?_ ?_)
      | go_in)
    · intro hc0 hl0
      have e1 : t = (len : Int) := by rw [← Ht.out, sumK_all hl0, sum_one, Hlen.out]
      have e2 : s = tot := by rw [← Hs.out, sumK_all hl0, Htot.out]
      have HRR : Hid (s / t = R) := by
        show s / t = R
        rw [← HR.out, ← e1, ← e2, Int.tdiv_eq_ediv_of_nonneg (by omega)]
      have hRb : R ≤ s := by rw [← HRR.out]; exact Int.ediv_le_self _ (by omega)
      have hR0 : 0 ≤ R := by rw [← HRR.out]; exact Int.ediv_nonneg (by omega) (by omega)
      have ht0 : t ≠ 0 := by omega
      have hRR := HRR.out
      clear e1 e2 hl0
      go_wp2
      go_ret
      exact ⟨ret_int hRR, hnx⟩
    · intro key c kl yd yp w1 cnt1 hkey hlk hv hat hrg1 hlt hg1 hs1 hen
      obtain ⟨x, hxL, ekl⟩ := HD.out.has kl (has_true_of_atKey hat)
      subst ekl
      obtain ⟨hxs, hx7⟩ := HL.out x hxL
      have ek : key = mv x := keyed75.inj hkey (keyK_of hxs)
      subst ek
      obtain ⟨c', ec, ey, hwc⟩ := plainElem_int_inv und3 hv
      cases ec
      have hcx : c = (L.count x : Int) := by
        have h1 := hat (.lit (.int .i64 0))
        have ey1 : yd = .lit (.int .i64 c) := (Prod.mk.inj ey).1
        rw [HD.out.at_ x hxL, ey1] at h1
        simp only [DataW.lit.injEq, Lit.int.injEq, true_and] at h1
        exact h1.symm
      have hc1 : 1 ≤ c := by
        have := List.count_pos_iff.2 hxL
        omega
      have hc2 : c ≤ 6000 := by
        have := List.count_le_length (a := x) (l := L)
        rw [Hlen.out] at this
        omega
      have hnx1 : Below w.heap.size w w1 := hnx.grown hg1 hnx.size (fun j hj => by cases hj; omega)
      have hsize1 : w.heap.size < w1.heap.size := hrg1.lt
      unfold mv at hen ⊢
      obtain ⟨G, HG⟩ : ∃ G : Nat → Int, Hid ((fun j => (x.getD j 0 : Int)) = G) := ⟨_, rfl⟩
      rw [HG.out] at hen ⊢
      have hk0 := MRow.made 75 w1 (fun _ => 0)
      have hB0 := balloc w1 (.cells (mrow fun _ => 0) 75)
      have hk1 := hk0.whole G
      have hB1 : Below w1.heap.size w1 ((w1.alloc (.cells (mrow fun _ => 0) 75)).setRow w1.heap.size (mrow G)) := bsetRow hB0 (Nat.le_refl _) _
      have hCl := fun W => lengths_any x W hxs
      unfold mv at hCl
      rw [HG.out] at hCl
      obtain ⟨ls, Hls⟩ : ∃ ls, Hid (desc x 7 = ls) := ⟨_, rfl⟩
      have hfx := HFF.out x hxL
      have hls7 := desc_len7 hxs hx7
      have hlsm : ∀ v ∈ desc x 7, v ≤ 7 := fun v hv => desc_mem hv
      have hFx := HFe.out x
      rw [Hls.out] at hCl hls7 hlsm hFx
      obtain ⟨f, Hf⟩ : ∃ f : Nat, Hid (fillsN k ls room = f) := ⟨_, rfl⟩
      rw [Hf.out] at hFx
      rw [hFx] at hfx
      have hC3 := fun (g rc : Nat) (lv : Value) (W : World) (hl : LenIs W g lv ls) (ho : Own W g k (fun c => (room c : Int))) => Hfill.out.2 ls room g rc lv W hls7 hlsm H7.out hl ho
      rw [Hf.out] at hC3
      have hmb : 0 ≤ c * (f : Int) ∧ c * (f : Int) ≤ 6000 * 2097152 := ⟨Int.mul_nonneg (by omega) (by omega), Int.mul_le_mul hc2 hfx.2 (by omega) (by omega)⟩
      obtain ⟨m, Hm⟩ : ∃ m, Hid (c * (f : Int) = m) := ⟨_, rfl⟩
      have hmf := Hm.out
      rw [hmf] at hmb
      have hrg2 := hrg1.kept (grown_of_below hB1) (by simp) (by simp)
      rw [← mrow_zero] at hk0
      have HX : Hid (sumK L (fun z => left z && !z.sameKey (keyK x)) (fun _ => 1) = t + c ∧ sumK L (fun z => left z && !z.sameKey (keyK x)) F = s + m) := by
        refine ⟨?_, ?_⟩
        · rw [sumK_strike hxs hlk _ HL'.out, Ht.out, Int.mul_one, hcx]
        · rw [sumK_strike hxs hlk _ HL'.out, Hs.out, ← hcx, hFx, hmf]
      clear hkey hlk hv hat ey hwc hxs hcx hxL hs1 hFx hls7 hlsm
      go_wp2_with (first
        | (refine wpList_store_row rfl 75 _ _ rfl w1.heap.size _ rfl rfl 75 _ hk0 (inf75 _) (by simp) (mrow_one _) ?_; rw [mrow_zero])
        | (refine wpList_load_row rfl 75 _ rfl w1.heap.size rfl 75 _ (0, 0) _ hk1 und75 rfl (inf75 _) ?_)
        | (go_at_call 69; refine (hCl _).mono ?_; rintro e w3 ⟨lv, rfl, hlv, b3⟩; have hrg3 := hrg2.kept (grown_of_below b3) (by simp) (by simp); have hnx3 := Below.trans hnx1 ((Below.next hB1 b3).mono hnx1.size); obtain ⟨la, lm, lc, rfl⟩ := ownsRow_slice hlv; have hC2 := HC w3 hnx3)
        | (go_at_call 70; refine hC2.mono ?_; rintro e w4 ⟨⟨g, cap, rfl, hg, hO⟩, b4⟩; have hrg4 := hrg3.kept (grown_of_below b4) (by simp) (by simp); have hC4 := hC3 g cap _ w4 (lenIs_of_own hlv b4 hg) hO)
        | (go_at_call 68; refine hC4.mono ?_; rintro e w5 ⟨rfl, _, hOn⟩)
        | go_in)
      have hl3 := hrg3.lt
      have hrg5 := hrg4.kept hOn.grown (fun e => by have := Option.some.inj e; omega) (fun e => by have := Option.some.inj e; omega)
      have hnx4 := hnx3.trans (b4.mono hnx3.size)
      have hnx5 : Below w.heap.size w w5 := hnx4.trans (hOn.1.mono (by have := hnx3.size; omega))
      go_roundw
      case rel =>
        exact ⟨_, cnt1, hrg5, by rw [HX.out.1], by rw [HX.out.2], hnx5⟩
      case measure => rw [hrg5.left_eq, hrg.left_eq]; exact hlt

end Go.Proofs.Ytmaplmgecohjbaa

namespace Go.Proofs.Ytmaplmgecohjbaa
open Go.RowKit Go.Maps

theorem conF_ok {n : Nat} {l : List Int} (h : conF n l = 0) : ∃ many : List Nat, l = many.map Int.ofNat ∧ many.length ≤ 8 ∧ (∀ c, many.getD c 0 ≤ n) ∧ many.sum = n := by
  unfold conF at h
  by_cases h1 : 8 < l.length
  · rw [if_pos h1] at h; omega
  · rw [if_neg h1] at h
    by_cases h2 : badI n l = true
    · rw [if_pos h2] at h; omega
    · rw [if_neg h2] at h
      by_cases h3 : l.sum = (n : Int)
      · have h4 : ∀ x ∈ l, 0 ≤ x ∧ x ≤ (n : Int) := fun x hx => by
          unfold badI at h2
          rw [List.any_eq_true] at h2
          have : ¬ (x < 0 ∨ (n : Int) < x) := fun q => h2 ⟨x, hx, by simpa using q⟩
          omega
        have e : l = (l.map Int.toNat).map Int.ofNat := by
          rw [List.map_map]
          have : l.map (Int.ofNat ∘ Int.toNat) = l.map id := List.map_congr_left fun x hx => by
            have := (h4 x hx).1
            simp [Function.comp]
            omega
          rw [this, List.map_id]
        refine ⟨l.map Int.toNat, e, by rw [List.length_map]; omega, fun c => ?_, ?_⟩
        · by_cases hc : c < l.length
          · have := (h4 l[c] (List.getElem_mem hc)).2
            simp [hc]
            omega
          · simp [List.getD_eq_getElem?_getD, hc]
        · have hs : ∀ L : List Nat, (L.map Int.ofNat).sum = (L.sum : Int) := by
            intro L
            induction L with
            | nil => rfl
            | cons a L ih => rw [List.map_cons, List.sum_cons, List.sum_cons, ih, Int.natCast_add]; rfl
          have h5 := hs (l.map Int.toNat)
          rw [← e, h3] at h5
          omega
      · rw [if_neg h3] at h; omega
theorem sR_many (many : List Nat) : sR (fun c => many.getD c 0) many.length = many.sum := by
  rw [← sR_list]
  congr 1
  refine List.ext_getElem (by simp) fun i h1 h2 => by simp [h2]
theorem one_le_of_sum {many : List Nat} (h : 1 ≤ many.sum) : 1 ≤ many.length := by
  cases many with
  | nil => simp at h
  | cons a l => simp

set_option maxRecDepth 100000 in
set_option maxHeartbeats 1000000 in
theorem Content_ok (n : Nat) (ms : List (List Nat)) (many : List Nat) (v u : Value) (w : World) (h : Mk n ms v w) (hu : Sl w u (many.map Int.ofNat)) (hc : conF n (many.map Int.ofNat) = 0) :
    Calls Try.prog 22 #[.int .i64 (n : Int), v, u] w fun e w' => e = .returned (.tuple #[.int .i64 (conG n many.length ms many : Int), .int .i64 0]) ∧ Below w.heap.size w w' := by
  have hn7 := h.n7
  have hn1 := h.n1
  have hbd := gen_bound h.isP hn7 (els_nodup n (Gen n ms)) (fun a => (gen_grp h.isP).mem)
  obtain ⟨many', e1, h8, hmn, hsum⟩ := conF_ok hc
  obtain rfl : many = many' := by
    exact (List.map_inj_right (f := Int.ofNat) (fun x y h => Int.ofNat.inj h)).1 e1
  have hm1 : 1 ≤ many.length := one_le_of_sum (by omega)
  have C0 := h.check
  have C1 := fun W (b : Below w.heap.size w W) => kindsOf_any n ms v W (h.below b)
  have C8 := fun W (b : Below w.heap.size w W) => checkContent_any n (many.map Int.ofNat) u W hn7 (hu.below b) (by rw [List.length_map]; unfold maxLen; omega)
  rw [hc] at C8
  have hdiv : ∀ L : List (List Nat), L.Perm ((els n (Gen n ms)).map (kd n)) → (L.map fun y => (fillsN many.length (desc y 7) (fun c => many.getD c 0) : Int)).sum.tdiv (L.length : Int) = (conG n many.length ms many : Int) := fun L hp => by
    rw [int_perm_sum hp, hp.length_eq, List.length_map]
    have e := fills_sum (n := n) (k := many.length) (ms := ms) (many := many) hn7 (by omega) h.isP rfl (by rw [sR_many, hsum])
    have e2 : (((els n (Gen n ms)).map (kd n)).map fun y => (fillsN many.length (desc y 7) (fun c => many.getD c 0) : Int)).sum = ((conG n many.length ms many * (els n (Gen n ms)).length : Nat) : Int) := by
      rw [← e, natcast_sum, List.map_map, List.map_map, List.map_map]
      rfl
    rw [e2, Int.natCast_mul, Int.mul_tdiv_cancel _ (by omega)]
  have C3 := fun (L : List (List Nat)) (hp : L.Perm ((els n (Gen n ms)).map (kd n))) (B m : Nat) (D : DataW Unit) (W : World) (b : Below w.heap.size w W) (ho : W.ownsMap Try.prog 75 (plainElem Try.prog 3) B m D) (hD : KindsIs D L) =>
    filled_any B m D L many u W ho hD (kinds_sm hn7 hp) (by rw [hp.length_eq, List.length_map]; omega) (by rw [hp.length_eq, List.length_map]; omega) (hu.below b) hm1 h8 (fun c => Nat.le_trans (hmn c) hn7)
  obtain ⟨ua, uc, rfl, _⟩ := id hu
  have HDIV : Hid (∀ L : List (List Nat), L.Perm ((els n (Gen n ms)).map (kd n)) → (L.map fun y => (fillsN many.length (desc y 7) (fun c => many.getD c 0) : Int)).sum.tdiv (L.length : Int) = (conG n many.length ms many : Int)) := hdiv
  obtain ⟨len, Hlen⟩ : ∃ len, Hid ((many.map Int.ofNat).length = len) := ⟨_, rfl⟩
  rw [Hlen.out] at C8 C3 ⊢
  obtain ⟨z, Hz⟩ : ∃ z, Hid (conG n many.length ms many = z) := ⟨_, rfl⟩
  rw [Hz.out] at HDIV ⊢
  have HC3 : Hid (∀ (L : List (List Nat)) (hp : L.Perm ((els n (Gen n ms)).map (kd n))) (B m : Nat) (D : DataW Unit) (W : World) (b : Below w.heap.size w W) (ho : W.ownsMap Try.prog 75 (plainElem Try.prog 3) B m D) (hD : KindsIs D L), _) := C3
  clear hdiv hc e1 hmn hsum hbd h8 hm1 C3 hn7 hn1 h hu
  go_enter Try.func22, Try.ntmps22
  go_wp2_with (first
    | (go_at_call 34; refine C0.mono ?_; rintro e w1 ⟨rfl, b1⟩)
    | (go_at_call 48; refine (C8 _ b1).mono ?_; rintro e w2 ⟨rfl, hw⟩; replace hw := hw.symm; subst hw)
    | (go_at_call 35; refine (C1 _ b1).mono ?_; rintro e w2 ⟨B, m, D, L, rfl, hwB, hm, hown, hD, hp, b2⟩; have b2' := Below.next b1 b2; have C4 := HC3.out L hp B m D w2 b2' hown hD; rw [HDIV.out L hp] at C4; clear hp hD)
    | (go_at_call 49; refine C4.mono ?_; rintro e w4 ⟨rfl, b4⟩))
  go_ret2
  exact ⟨rfl, Below.next b2' b4⟩

set_option maxHeartbeats 400000 in
theorem Content_far (n : Nat) (l : List Int) (ms : List (List Nat)) (v u : Value) (w : World) (h : Mk n ms v w) (hu : Sl w u l) (hl : l.length ≤ maxLen) (hc : conF n l ≠ 0) :
    Calls Try.prog 22 #[.int .i64 (n : Int), v, u] w fun e w' => e = .returned (.tuple #[.int .i64 0, .int .i64 (conF n l)]) ∧ Below w.heap.size w w' := by
  have C0 := h.check
  have C8 := fun W (b : Below w.heap.size w W) => checkContent_any n l u W h.n7 (hu.below b) hl
  obtain ⟨z, Hz⟩ : ∃ z, Hid (conF n l = z) := ⟨_, rfl⟩
  rw [Hz.out] at C8 hc ⊢
  have hzb : (z == 0) = false := by simpa using hc
  obtain ⟨ua, uc, rfl, _⟩ := id hu
  go_enter Try.func22, Try.ntmps22
  go_wp2_with (first
    | (go_at_call 34; refine C0.mono ?_; rintro e w1 ⟨rfl, b1⟩)
    | (go_at_call 48; refine (C8 _ b1).mono ?_; rintro e w2 ⟨rfl, hw⟩; replace hw := hw.symm; subst hw))
  go_ret2
  exact ⟨rfl, b1⟩

set_option maxHeartbeats 400000 in
theorem Content_bad (n z : Int) (l : List Int) (v u : Value) (w : World) (C0 : Calls Try.prog 34 #[.int .i64 n, v] w fun e w' => e = .returned (.int .i64 z) ∧ Below w.heap.size w w') (hz : z ≠ 0) (hu : Sl w u l) :
    Calls Try.prog 22 #[.int .i64 n, v, u] w fun e w' => e = .returned (.tuple #[.int .i64 0, .int .i64 z]) ∧ Below w.heap.size w w' := by
  have hzb : (z == 0) = false := by simpa using hz
  obtain ⟨ua, uc, rfl, _⟩ := id hu
  go_enter Try.func22, Try.ntmps22
  go_wp2_with (go_at_call 34; refine C0.mono ?_; rintro e w1 ⟨rfl, b1⟩)
  go_ret2
  exact ⟨rfl, b1⟩

end Go.Proofs.Ytmaplmgecohjbaa

namespace Go.Proofs.Ytmaplmgecohjbaa
open Go.RowKit

set_option maxRecDepth 100000 in
set_option maxHeartbeats 4000000 in
theorem law5_bad (n : Int) (ls : List (List Int)) (l : List Int) (v u : Value) (w : World) (hv : Came ls v w) (hu : Sl w u l) (h0 : gF n ls ≠ 0) :
    Calls Try.prog 5 #[.int .i64 n, v, u] w fun e w' => e = .returned (.bool true) ∧ Below w.heap.size w w' := by
  obtain ⟨z, Hz⟩ : ∃ z, Hid (gF n ls = z) := ⟨_, rfl⟩
  have hz : z ≠ 0 := by rw [← Hz.out]; exact h0
  have C9 := GroupFault_any n ls v w hv.sls hv.each hv.len
  have CG := fun W (h : Below w.heap.size w W) => GCheck_any n ls v W (hv.below h).sls hv.each hv.len
  rw [Hz.out] at C9 CG
  have C22 := fun W (h : Below w.heap.size w W) => Content_bad n z l v u W (CG W h) hz (hu.below h)
  have hzd : (z == 0) = false := by simpa using hz
  obtain ⟨ua, uc, rfl, _⟩ := id hu
  obtain ⟨r, Hr⟩ : ∃ r, Hid (l.length = r) := ⟨_, rfl⟩
  rw [Hr.out] at C22 ⊢
  have hzn : (z != 0) = true := by simpa using hz
  clear hv h0 hu CG
  go_enter Try.func5, Try.ntmps5
  go_wp2_with (go_at_call 14; refine C9.mono ?_; rintro e w1 ⟨rfl, b1⟩)
  go_loopw [7, 8, 9] (fun e s i wr => e = .int .i64 z ∧ s = .int .i64 0 ∧ i = .int .i64 0 ∧ wr = w1) (fun _ _ _ _ => 0)
  case atStart => exact ⟨rfl, rfl, rfl, rfl⟩
  case round =>
    obtain ⟨rfl, rfl, rfl, rfl⟩ := hrel
    by_cases hr : 0 < r
    · have hd : decide ((0 : Int) < (r : Int)) = true := by simp; omega
      go_wp2_with (go_at_call 22; refine (C22 _ b1).mono ?_; rintro e w2 ⟨rfl, b2⟩)
      go_ret
      exact ⟨rfl, Below.next b1 b2⟩
    · have hd : decide ((0 : Int) < (r : Int)) = false := by simp; omega
      go_wp2_with (go_at_call 22; refine (C22 _ b1).mono ?_; rintro e w2 ⟨rfl, b2⟩)
      go_ret
      exact ⟨rfl, Below.next b1 b2⟩

set_option maxRecDepth 100000 in
set_option maxHeartbeats 4000000 in
theorem law5_full (n : Nat) (ms : List (List Nat)) (l : List Int) (v u : Value) (w : World) (hM : Mk n ms v w) (hu : Sl w u l) (hl : l.length ≤ maxLen) (h8 : 8 < l.length) :
    Calls Try.prog 5 #[.int .i64 (n : Int), v, u] w fun e w' => e = .returned (.bool true) ∧ Below w.heap.size w w' := by
  have hc : conF n l = 3 := by unfold conF; rw [if_pos h8]
  have C9 := GroupFault_any n _ v w hM.sl.sls (hM.each) (hM.lenI)
  rw [gF_isP hM.n1 hM.n7 hM.len hM.isP] at C9
  have C22 := fun W (h : Below w.heap.size w W) => Content_far n l ms v u W (hM.below h) (hu.below h) hl (by rw [hc]; omega)
  rw [hc] at C22
  obtain ⟨ua, uc, rfl, _⟩ := id hu
  obtain ⟨r, Hr⟩ : ∃ r, Hid (l.length = r) := ⟨_, rfl⟩
  rw [Hr.out] at C22 h8 ⊢
  have hd8 : decide ((8 : Int) < (r : Int)) = true := by simp; omega
  have hd : decide ((0 : Int) < (r : Int)) = true := by simp; omega
  clear hM hu hl hc
  go_enter Try.func5, Try.ntmps5
  go_wp2_with (go_at_call 14; refine C9.mono ?_; rintro e w1 ⟨rfl, b1⟩)
  go_loopw [7, 8, 9] (fun e s i wr => e = .int .i64 3 ∧ s = .int .i64 0 ∧ i = .int .i64 0 ∧ wr = w1) (fun _ _ _ _ => 0)
  case atStart => exact ⟨rfl, rfl, rfl, rfl⟩
  case round =>
    obtain ⟨rfl, rfl, rfl, rfl⟩ := hrel
    go_wp2_with (go_at_call 22; refine (C22 _ b1).mono ?_; rintro e w2 ⟨rfl, b2⟩)
    go_ret
    exact ⟨rfl, Below.next b1 b2⟩

set_option maxRecDepth 100000 in
set_option maxHeartbeats 4000000 in
theorem law5_range (n : Nat) (ms : List (List Nat)) (l : List Int) (v u : Value) (w : World) (hM : Mk n ms v w) (hu : Sl w u l) (hl : l.length ≤ maxLen) (h8 : ¬ 8 < l.length) (hb : badI n l = true) :
    Calls Try.prog 5 #[.int .i64 (n : Int), v, u] w fun e w' => e = .returned (.bool true) ∧ Below w.heap.size w w' := by
  have hc : conF n l = 1 := by unfold conF; rw [if_neg h8, if_pos hb]
  have hn7 := hM.n7
  have C9 := GroupFault_any n _ v w hM.sl.sls (hM.each) (hM.lenI)
  rw [gF_isP hM.n1 hM.n7 hM.len hM.isP] at C9
  have C22 := fun W (h : Below w.heap.size w W) => Content_far n l ms v u W (hM.below h) (hu.below h) hl (by rw [hc]; omega)
  rw [hc] at C22
  have hU := fun W (h : Below w.heap.size w W) => hu.below h
  obtain ⟨ua, uc, rfl, _⟩ := id hu
  obtain ⟨r, Hr⟩ : ∃ r, Hid (l.length = r) := ⟨_, rfl⟩
  have HU : Hid (∀ W, Below w.heap.size w W → ∀ j, j < r → ∃ b off, ua = some ⟨b, off, none⟩ ∧ W.cell? ⟨b, off + j, none⟩ = some (.int .i64 (l.getD j 0))) := fun W b j hj => by
    obtain ⟨a', c', e1, h1⟩ := hU W b
    simp only [Value.slice.injEq] at e1
    obtain ⟨rfl, _, _⟩ := e1
    exact h1 j (by rw [Hr.out]; exact hj)
  rw [Hr.out] at C22 h8 ⊢
  have hd8 : decide ((8 : Int) < (r : Int)) = false := by simp; omega
  have HB : Hid (badI n l = true) := hb
  clear hM hu hl hc hU hb
  go_enter Try.func5, Try.ntmps5
  go_wp2_with (go_at_call 14; refine C9.mono ?_; rintro e w1 ⟨rfl, b1⟩)
  go_loopw [7, 8, 9] (fun e s i wr => wr = w1 ∧ ((∃ (j : Nat) (t : Int), e = .int .i64 0 ∧ i = .int .i64 (j : Int) ∧ j ≤ r ∧ s = .int .i64 t ∧ 0 ≤ t ∧ t ≤ 7 * j ∧ Hid ((l.take j).sum = t ∧ badI n (l.take j) = false)) ∨ (∃ (t : Int) (j : Nat), e = .int .i64 1 ∧ s = .int .i64 t ∧ i = .int .i64 (j : Int) ∧ j ≤ r))) (fun e _ i _ => if intOf e = 0 then (r - intOf i).toNat + 1 else 0)
  case atStart => exact ⟨rfl, .inl ⟨0, 0, rfl, rfl, by omega, rfl, by omega, by omega, (by simp [badI] : (l.take 0).sum = 0 ∧ badI n (l.take 0) = false)⟩⟩
  case round =>
    obtain ⟨rfl, (⟨j, t, rfl, rfl, hj, rfl, ht0, ht7, HT⟩ | ⟨t, j, rfl, rfl, rfl, hj⟩)⟩ := hrel
    · by_cases hlt : j < r
      · have hji : (j : Int) < r := by omega
        have hj0 : (0 : Int) ≤ (j : Int) := by omega
        have hdec : decide ((j : Int) < r) = true := by simp; omega
        obtain ⟨b, off, rfl, hcj⟩ := HU.out _ b1 j hlt
        have hjl : j < l.length := by rw [Hr.out]; exact hlt
        have hsum := sum_take hjl
        have hbad := badI_take (n := n) hjl
        obtain ⟨x, Hx⟩ : ∃ x, Hid (l.getD j 0 = x) := ⟨_, rfl⟩
        rw [Hx.out] at hcj hsum hbad
        by_cases hx0 : x < 0
        · have hd0 : decide (x < 0) = true := by simpa using hx0
          clear hsum hbad
          go_wp2
          go_roundw
          case rel => exact ⟨trivial, .inr ⟨_, j + 1, rfl, rfl, by go_num, by omega⟩⟩
          case measure => simp [intOf]
        · have hd0 : decide (x < 0) = false := by simpa using hx0
          by_cases hxn : (n : Int) < x
          · have hd1 : decide ((n : Int) < x) = true := by simpa using hxn
            clear hsum hbad
            go_wp2
            go_roundw
            case rel => exact ⟨trivial, .inr ⟨_, j + 1, rfl, rfl, by go_num, by omega⟩⟩
            case measure => simp [intOf]
          · have hd1 : decide ((n : Int) < x) = false := by simpa using hxn
            rw [HT.out.1] at hsum
            rw [HT.out.2, Bool.false_or] at hbad
            have HT' : Hid ((l.take (j + 1)).sum = t + x ∧ badI n (l.take (j + 1)) = false) := ⟨hsum, by rw [hbad]; simp; omega⟩
            clear hsum hbad
            go_wp2
            go_roundw
            case rel => exact ⟨trivial, .inl ⟨j + 1, t + x, rfl, by go_num, by omega, rfl, by omega, by omega, HT'⟩⟩
            case measure => simp [intOf]; omega
      · obtain rfl : r = j := by omega
        have hT := HT.out.2
        rw [List.take_of_length_le (by rw [Hr.out]; omega), HB.out] at hT
        cases hT
    · by_cases hlt : j < r
      · have hdec : decide ((j : Int) < r) = true := by simp; omega
        go_wp2_with (go_at_call 22; refine (C22 _ b1).mono ?_; rintro e w2 ⟨rfl, b2⟩)
        go_ret
        exact ⟨rfl, Below.next b1 b2⟩
      · have hdec : decide ((j : Int) < r) = false := by simp; omega
        go_wp2_with (go_at_call 22; refine (C22 _ b1).mono ?_; rintro e w2 ⟨rfl, b2⟩)
        go_ret
        exact ⟨rfl, Below.next b1 b2⟩

set_option maxRecDepth 100000 in
set_option maxHeartbeats 4000000 in
theorem law5_rest (n : Nat) (ms : List (List Nat)) (l : List Int) (v u : Value) (w : World) (hM : Mk n ms v w) (hu : Sl w u l) (hl : l.length ≤ maxLen) (h8 : ¬ 8 < l.length) (hb : badI n l = false) :
    Calls Try.prog 5 #[.int .i64 (n : Int), v, u] w fun e w' => e = .returned (.bool true) ∧ Below w.heap.size w w' := by
  have hn7 := hM.n7
  have hn1 := hM.n1
  have C9 := GroupFault_any n _ v w hM.sl.sls (hM.each) (hM.lenI)
  rw [gF_isP hM.n1 hM.n7 hM.len hM.isP] at C9
  have hU := fun W (h : Below w.heap.size w W) => hu.below h
  obtain ⟨r, Hr⟩ : ∃ r, Hid (l.length = r) := ⟨_, rfl⟩
  have C22a : l.sum = (n : Int) → ∃ c : Nat, (∀ W, Below w.heap.size w W → Calls Try.prog 22 #[.int .i64 (n : Int), v, u] W fun e w' => e = .returned (.tuple #[.int .i64 (c : Int), .int .i64 0]) ∧ Below W.heap.size W w') ∧ (r ≤ 3 → ∀ W, Below w.heap.size w W → Calls Try.prog 23 #[.int .i64 (n : Int), v, u] W fun e w' => e = .returned (.int .i64 (c : Int)) ∧ Below W.heap.size W w') := fun hs => by
    have hc : conF n l = 0 := by unfold conF; rw [if_neg h8, hb, if_neg (by simp), if_pos hs]
    obtain ⟨many, e1, _, _, hms⟩ := conF_ok hc
    have hm1 : 1 ≤ many.length := one_le_of_sum (by omega)
    refine ⟨conG n many.length ms many, fun W b => Content_ok n ms many v u W (hM.below b) (by rw [← e1]; exact hU W b) (by rw [← e1]; exact hc), fun h3 W b => ?_⟩
    refine ContentOf_any n many.length ms many v u W (hM.below b) hm1 ?_ (by rw [← e1]; exact hU W b) rfl
    have := Hr.out
    rw [e1, List.length_map] at this
    omega
  have C22b : l.sum ≠ (n : Int) → ∀ W, Below w.heap.size w W → Calls Try.prog 22 #[.int .i64 (n : Int), v, u] W fun e w' => e = .returned (.tuple #[.int .i64 0, .int .i64 2]) ∧ Below W.heap.size W w' := fun hs W b => by
    have hc : conF n l = 2 := by unfold conF; rw [if_neg h8, hb, if_neg (by simp), if_neg hs]
    have := Content_far n l ms v u W (hM.below b) (hU W b) hl (by rw [hc]; omega)
    rw [hc] at this
    exact this
  obtain ⟨ua, uc, rfl, _⟩ := id hu
  have HU : Hid (∀ W, Below w.heap.size w W → ∀ j, j < r → ∃ b off, ua = some ⟨b, off, none⟩ ∧ W.cell? ⟨b, off + j, none⟩ = some (.int .i64 (l.getD j 0))) := fun W b j hj => by
    obtain ⟨a', c', e1, h1⟩ := hU W b
    simp only [Value.slice.injEq] at e1
    obtain ⟨rfl, _, _⟩ := e1
    exact h1 j (by rw [Hr.out]; exact hj)
  rw [Hr.out] at C22a C22b h8 ⊢
  have hd8 : decide ((8 : Int) < (r : Int)) = false := by simp; omega
  have HB : Hid (badI n l = false) := hb
  have HA : Hid (_ ∧ _) := ⟨C22a, C22b⟩
  clear hM hu hl hU hb C22a C22b
  go_enter Try.func5, Try.ntmps5
  go_wp2_with (go_at_call 14; refine C9.mono ?_; rintro e w1 ⟨rfl, b1⟩)
  go_loopw [7, 8, 9] (fun e s i wr => wr = w1 ∧ e = .int .i64 0 ∧ ∃ (j : Nat) (t : Int), i = .int .i64 (j : Int) ∧ j ≤ r ∧ s = .int .i64 t ∧ 0 ≤ t ∧ t ≤ 7 * j ∧ Hid ((l.take j).sum = t)) (fun _ _ i _ => (r - intOf i).toNat)
  case atStart => exact ⟨rfl, rfl, 0, 0, rfl, by omega, rfl, by omega, by omega, (by simp : (l.take 0).sum = 0)⟩
  case round =>
    obtain ⟨rfl, rfl, j, t, rfl, hj, rfl, ht0, ht7, HT⟩ := hrel
    by_cases hlt : j < r
    · have hji : (j : Int) < r := by omega
      have hj0 : (0 : Int) ≤ (j : Int) := by omega
      have hdec : decide ((j : Int) < r) = true := by simp; omega
      obtain ⟨b, off, rfl, hcj⟩ := HU.out _ b1 j hlt
      have hjl : j < l.length := by rw [Hr.out]; exact hlt
      have hsum := sum_take hjl
      have hxb : ¬ (l.getD j 0 < 0 ∨ (n : Int) < l.getD j 0) := fun q => by have := badI_at hjl q; rw [HB.out] at this; cases this
      obtain ⟨x, Hx⟩ : ∃ x, Hid (l.getD j 0 = x) := ⟨_, rfl⟩
      rw [Hx.out] at hcj hsum hxb
      have hd0 : decide (x < 0) = false := by simp; omega
      have hd1 : decide ((n : Int) < x) = false := by simp; omega
      have hx1 : 0 ≤ x := by omega
      have hx2 : x ≤ n := by omega
      rw [HT.out] at hsum
      have HT' : Hid ((l.take (j + 1)).sum = t + x) := hsum
      clear hsum hxb
      go_wp2
      go_roundw
      case rel => exact ⟨trivial, rfl, j + 1, t + x, by go_num, by omega, rfl, by omega, by omega, HT'⟩
      case measure => simp [intOf]; omega
    · have hdec : decide ((j : Int) < r) = false := by simp; omega
      obtain rfl : r = j := by omega
      have hT : l.sum = t := by
        have := HT.out
        rwa [List.take_of_length_le (by rw [Hr.out]; omega)] at this
      by_cases htn : t = (n : Int)
      · have hb : (t == (n : Int)) = true := by simpa using htn
        obtain ⟨c, C22, C23⟩ := HA.out.1 (by rw [hT, htn])
        clear hT HA
        by_cases h3 : 3 < r
        · have hd3 : decide ((3 : Int) < (r : Int)) = true := by simp; omega
          go_wp2_with (go_at_call 22; refine (C22 _ b1).mono ?_; rintro e w2 ⟨rfl, b2⟩)
          go_ret
          exact ⟨rfl, Below.next b1 b2⟩
        · have hd3 : decide ((3 : Int) < (r : Int)) = false := by simp; omega
          replace C23 := C23 (by omega)
          go_wp2_with (first
            | (go_at_call 22; refine (C22 _ b1).mono ?_; rintro e w2 ⟨rfl, b2⟩; replace b2 := Below.next b1 b2)
            | (go_at_call 23; refine (C23 _ b2).mono ?_; rintro e w3 ⟨rfl, b3⟩))
          go_ret
          exact ⟨rfl, Below.next b2 b3⟩
      · have hb : (t == (n : Int)) = false := by simpa using htn
        have C22 := HA.out.2 (by rw [hT]; exact htn)
        clear hT HA
        go_wp2_with (go_at_call 22; refine (C22 _ b1).mono ?_; rintro e w2 ⟨rfl, b2⟩)
        go_ret
        exact ⟨rfl, Below.next b1 b2⟩

theorem CountContent_law (n : Int) (ls : List (List Int)) (l : List Int) (v u : Value) (w : World) (_h : (Lit.int .i64 n).wf = true) (hv : Came ls v w) (hu : Sl w u l) (hl : l.length ≤ maxLen) :
    Calls Try.prog 5 #[.int .i64 n, v, u] w fun e w' => e = .returned (.bool true) ∧ Below w.heap.size w w' := by
  by_cases h0 : gF n ls = 0
  · obtain ⟨k, ms, rfl, hM, _⟩ := hv.mk' h0
    by_cases h8 : 8 < l.length
    · exact law5_full k ms l v u w hM hu hl h8
    · cases hb : badI k l with
      | true => exact law5_range k ms l v u w hM hu hl h8 hb
      | false => exact law5_rest k ms l v u w hM hu hl h8 hb
  · exact law5_bad n ls l v u w hv hu h0

end Go.Proofs.Ytmaplmgecohjbaa
