/- The program's parts, walked. -/
import Derived.Test.YtgkfddcmngodgaaN13
import Derived.Test.YtgkfddcmngodgaaN15
import Derived.Test.YtgkfddcmngodgaaTsS
namespace Go.Proofs.Ytgkfddcmngodgaa
open Go.RowKit Go.Shelf

/-- The library's Sort of a piece of a row. -/
theorem Sort_at (T : List Nat) (m f n g base : Nat) (F : Nat → Int) (w : World) (ho : Own w g n F) (hT : T.length = m) (hF : ∀ j, j < m → F (f + j) = ((T.getD j 0 : Nat) : Int)) (hfm : f + m ≤ n) (hm9 : m ≤ 99) (hbg : base ≤ g) (hbw : base ≤ w.heap.size) :
    Calls Try.prog 44 #[.slice (some ⟨g, f, none⟩) m m] w fun e w' => e = .returned (.tuple #[]) ∧ (∃ (s : List Nat) (F' : Nat → Int), s.Perm T ∧ s.Pairwise (· ≤ ·) ∧ Own w' g n F' ∧ (∀ j, j < n → ¬ (f ≤ j ∧ j < f + m) → F' j = F j) ∧ ∀ j, j < m → F' (f + j) = ((s.getD j 0 : Nat) : Int)) ∧ (∀ b, b < w.heap.size → b ≠ g → w'.heap[b]? = w.heap[b]?) ∧ Below base w w' := by
  have hTl : (T.map Int.ofNat).length = m := by rw [List.length_map]; exact hT
  have hget : ∀ (L : List Nat) (j : Nat), j < L.length → ((L.map Int.ofNat).toArray[j]!) = ((L.getD j 0 : Nat) : Int) := fun L j hj => by
    have h1 : j < (L.map Int.ofNat).toArray.size := by simpa using hj
    rw [getElem!_pos (L.map Int.ofNat).toArray j h1]
    simp [List.getD_eq_getElem?_getD, List.getElem?_eq_getElem hj]
  have hH : Go.Sort.Holds (Value.int .i64) w g f (T.map Int.ofNat).toArray := ho.holds (by simp [hT]; omega) fun j hj => by
    have hj' : j < m := by simpa [hT] using hj
    rw [hget T j (by omega), hF j hj']
  obtain ⟨s, hs, hsp, hsl⟩ := ord_nat T
  have C := Any.slices_Sort_int sortI g f m (T.map Int.ofNat) w hH ho.lt (by rw [hTl]; omega)
  rw [hTl] at C
  change Calls Try.prog 44 _ _ _ at C
  refine C.mono ?_
  rintro e w' ⟨rfl, q, os, rfl⟩
  have hs' : ((T.map Int.ofNat).mergeSort fun x y => decide (x ≤ y)) = s.map Int.ofNat := hs
  rw [hs']
  change _ ∧ _ ∧ (∀ b, b < w.heap.size → b ≠ g → (sortWorld (Value.int .i64) w g f q (s.map Int.ofNat).toArray os).heap[b]? = w.heap[b]?) ∧ Below base w (sortWorld (Value.int .i64) w g f q (s.map Int.ofNat).toArray os)
  have hsm : s.length = m := by rw [hsp.length_eq, hT]
  have hsz : (s.map Int.ofNat).toArray.size = m := by simp [hsm]
  refine ⟨rfl, ⟨s, fun j => if f ≤ j ∧ j < f + m then ((s.getD (j - f) 0 : Nat) : Int) else F j, hsp, hsl, ?_, fun j _ hno => if_neg hno, fun j hj => ?_⟩, fun b hb hn => sw_other hb hn, sw_below hbg hbw⟩
  · refine Own.sorted (enc := Value.int .i64) (off := f) (m := q) (d := (s.map Int.ofNat).toArray) (os := os) ho (fun j hj => ?_) (fun j _ hno => if_neg (by rw [hsz] at hno; exact hno))
    rw [hsz] at hj
    rw [hget s j (by omega), if_pos ⟨by omega, by omega⟩, show f + j - f = j by omega]
  · show (if f ≤ f + j ∧ f + j < f + m then ((s.getD (f + j - f) 0 : Nat) : Int) else F (f + j)) = _
    rw [if_pos ⟨by omega, by omega⟩, show f + j - f = j by omega]
/-- The parts so far, in one row. -/
def PRw (w : World) (base g : Nat) (v : Value) (Ps : List (List Nat)) (F : Nat → Int) (f : Nat) : Prop := ∃ vals : List Value, w.ownsRow base 22 1 v Ps.length vals ∧ ∀ (i : Nat) (u : Value) (M : List Nat), vals[i]? = some u → Ps[i]? = some M → ∃ c, u = .slice (some ⟨g, c, none⟩) M.length M.length ∧ c + M.length ≤ f ∧ ∀ t, t < M.length → F (c + t) = ((M.getD t 0 : Nat) : Int)
theorem PRw.rw {w : World} {base g n f : Nat} {v : Value} {Ps : List (List Nat)} {F : Nat → Int} (h : PRw w base g v Ps F f) (ho : Own w g n F) (hf : f ≤ n) : Rw w v (toZ Ps) := by
  obtain ⟨vals, h1, h2⟩ := h
  have hz : (toZ Ps).length = Ps.length := by simp [toZ]
  obtain ⟨h3, ⟨rfl, h4⟩ | ⟨gb, cap, cur, rfl, h6, h7, h8, h9, h10, ht⟩⟩ := h1
  · refine ⟨none, 0, by rw [hz, h4], by rw [hz, h4]; exact Nat.le_refl 0, fun i l hl => ?_⟩
    have : toZ Ps = [] := List.length_eq_zero_iff.1 (by rw [hz, h4])
    rw [this] at hl; simp at hl
  · refine ⟨_, cap, by rw [hz], by rw [hz]; omega, fun i l hl => ?_⟩
    obtain ⟨hi, e⟩ := List.getElem?_eq_some_iff.1 hl
    rw [hz] at hi
    have e2 : (cur.toList.take (Ps.length * 1))[i]? = vals[i]? := by rw [ht]
    rw [List.getElem?_take, if_pos (by omega)] at e2
    obtain ⟨u, hu⟩ : ∃ u, vals[i]? = some u := ⟨vals[i]'(by omega), by simp⟩
    refine ⟨gb, 0, u, rfl, ?_, ?_⟩
    · rw [cell_of_row w gb _ _ _ _ h7, Nat.zero_add, ← Array.getElem?_toList, e2, hu]
    · obtain ⟨c, rfl, hc, hct⟩ := h2 i u Ps[i] hu (List.getElem?_eq_getElem hi)
      have el : l = Ps[i].map Int.ofNat := by rw [← e]; simp [toZ]
      rw [el]
      refine ⟨_, _, by rw [List.length_map], fun j hj => ⟨g, c, rfl, ?_⟩⟩
      have hj' : j < Ps[i].length := by simpa using hj
      rw [ho.cell (c + j) (by omega), hct j hj']
      congr 2
      rw [List.getD_eq_getElem?_getD, List.getD_eq_getElem?_getD, List.getElem?_map, List.getElem?_eq_getElem hj']
      rfl
theorem own_sl' {w : World} {g n : Nat} {L : List Nat} (h : Own w g n (fun j => (L.getD j 0 : Nat))) (hl : L.length = n) : Sl w (.slice (some ⟨g, 0, none⟩) n n) (L.map Int.ofNat) := by
  have k := h.sl n
  have e : ((List.range n).map fun j => ((L.getD j 0 : Nat) : Int)) = L.map Int.ofNat := by
    refine List.ext_getElem (by simp [hl]) fun j h1 h2 => ?_
    simp at h2
    simp [List.getD_eq_getElem?_getD, List.getElem?_eq_getElem h2]
  rw [e] at k
  exact k
theorem scT_fall {t : Nat → Nat → Bool} {n : Nat} {O : List Nat} (h : Ordr n (scT t n) O) : O.Pairwise fun x y => scN n t y ≤ scN n t x := by
  refine List.Pairwise.imp_of_mem (fun {a b} ha hb hab => ?_) h.fall
  have e1 := List.mem_range.1 (h.perm.mem_iff.1 ha)
  have e2 := List.mem_range.1 (h.perm.mem_iff.1 hb)
  rw [scT_at e1, scT_at e2] at hab
  exact hab
theorem take_sum {n : Nat} {t : Nat → Nat → Bool} {O : List Nat} {k : Nat} (hk : k < O.length) : sumL ((O.take (k + 1)).map (scN n t)) = sumL ((O.take k).map (scN n t)) + scN n t (O.getD k 0) := by
  rw [List.take_add_one, List.getElem?_eq_getElem hk, List.map_append, sumL_append, List.getD_eq_getElem?_getD, List.getElem?_eq_getElem hk]
  simp [sumL]
set_option maxRecDepth 100000 in
set_option maxHeartbeats 16000000 in
theorem parts_any {n : Nat} {l : List Int} (hg : GoodT n l) (v : Value) (w : World) (hv : Sl w v l) :
    Calls Try.prog 34 #[.agg #[.int .i64 (n : Int), v]] w fun e w' => (∃ y, e = .returned y ∧ Rw w' y (toZ (ptL n (reB n (tB n l))))) ∧ Below w.heap.size w w' := by
  obtain ⟨i22, ri, rz0, rz1, rz2⟩ := info36
  have hn9 := hg.le
  have hn1 := hg.one
  have hT := hg.trn
  have hI := hg.irr
  have HS : Hid (∀ W, Below w.heap.size w W → Calls Try.prog 31 #[.agg #[.int .i64 (n : Int), v]] W fun e w' => (∃ g, W.heap.size ≤ g ∧ e = .returned (.slice (some ⟨g, 0, none⟩) n n) ∧ Own w' g n (fun j => ((scT (tB n l) n).getD j 0 : Nat))) ∧ Below W.heap.size W w') := fun W bW => scores_any hg v W (hv.below bW)
  obtain ⟨t, Ht⟩ : ∃ t, Hid (tB n l = t) := ⟨_, rfl⟩
  rw [Ht.out] at HS hT hI ⊢
  obtain ⟨R, HR⟩ : ∃ R, Hid (reB n t = R) := ⟨_, rfl⟩
  rw [HR.out]
  have b1 := balloc w (.cells #[.int .i64 (n : Int), v] 24)
  have HX := sq_cells (n : Int) v w
  obtain ⟨w0, Hw0⟩ : ∃ w0, Hid (w.alloc (.cells #[.int .i64 (n : Int), v] 24) = w0) := ⟨_, rfl⟩
  rw [Hw0.out] at b1 HX
  have HX2 : Hid (∀ W, Below w0.heap.size w0 W → W.cell? ⟨w.heap.size, 0, none⟩ = some (.int .i64 (n : Int)) ∧ W.cell? ⟨w.heap.size, 1, none⟩ = some v) := HX
  obtain ⟨x0, x1⟩ := HX2.out w0 (Below.refl _ _)
  have C1 := HS.out w0 b1
  have hsz0 : w.heap.size < w0.heap.size := by rw [← Hw0.out]; simp
  rw [← Hw0.out] at x0 x1
  have HW : Hid ((scT t n).length = n ∧ ∀ j, (scT t n).getD j 0 ≤ 99) := ⟨scT_len t n, fun j => by
    by_cases h : j < n
    · rw [scT_at h]
      have := List.countP_le_length (p := t j) (l := List.range n)
      rw [List.length_range] at this
      omega
    · rw [List.getD_eq_getElem?_getD, List.getElem?_eq_none (by rw [scT_len]; omega)]; simp⟩
  clear HX hv
  go_enter Try.func34, Try.ntmps34
  go_wp2_with (first
    | (go_at_call 31; (try rw [Hw0.out]); refine C1.mono ?_; rintro e w1 ⟨⟨gw, hgw, rfl, hwo⟩, hb1⟩; clear C1; have hB1 := Below.next b1 hb1; obtain ⟨y0, y1⟩ := HX2.out w1 hb1; have C2 := byScore_any (scT t n) n _ w1 hn1 hn9 HW.out.1 HW.out.2 (own_sl' hwo HW.out.1))
    | (go_at_call 42; refine C2.mono ?_; rintro e w2 ⟨⟨g, O, hgg, rfl, hO, hoo⟩, hb2⟩; clear C2)
    | go_in)
  have hOl : O.length = n := by rw [hO.perm.length_eq, List.length_range]
  have HOL : Hid (∀ k, k < n → O.getD k 0 < n) := fun k hk => List.mem_range.1 (hO.perm.mem_iff.1 (by rw [List.getD_eq_getElem?_getD, List.getElem?_eq_getElem (by omega)]; exact List.getElem_mem _))
  have hfall := scT_fall hO
  obtain ⟨S, HSS⟩ : ∃ S : Nat → Nat, Hid (S = fun k => sumL ((O.take k).map (scN n t))) := ⟨_, rfl⟩
  have HS0 : Hid (S 0 = 0) := by show _ = _; rw [HSS.out]; rfl
  have HSM : Hid (∀ k, k < n → S (k + 1) = S k + scN n t (O.getD k 0)) := fun k hk => by rw [HSS.out]; exact take_sum (by omega)
  have HCT : Hid (∀ e, cutB n t O e = (S e == prN e + e * (n - e))) := fun e => by rw [HSS.out]; rfl
  have HSC : Hid (∀ p, scN n t p ≤ 9) := fun p => by
    unfold scN
    have := List.countP_le_length (p := t p) (l := List.range n)
    rw [List.length_range] at this
    omega
  have HSTEP : Hid (∀ f e, f < e → e ≤ n → cutB n t O f = true → cutB n t O e = true → (∀ g, f < g → g < e → cutB n t O g = false) → psF n R e = psF n R f ++ [(List.range n).filter fun x => (sgL O f e).contains x]) := fun f e h1 h2 h3 h4 h5 => by
    rw [← HR.out]
    exact cut_step hT hI hO.perm hfall h1 h2 h3 h4 h5
  have HSG : Hid (∀ (f e : Nat) (s : List Nat), s.Perm (sgL O f e) → s.Pairwise (· ≤ ·) → s = (List.range n).filter fun x => (sgL O f e).contains x) := fun f e s h1 h2 => sg_sorted hO.perm h1 h2
  have HALL : Hid (cutB n t O n = true) := cutB_all hT hI hO.perm
  have HC0 : Hid (cutB n t O 0 = true) := cutB_zero O
  have HSL : Hid (∀ f e, f < e → e ≤ n → (sgL O f e).length = e - f ∧ ∀ j, j < e - f → (sgL O f e).getD j 0 = O.getD (f + j) 0) := fun f e h1 h2 => by
    unfold sgL
    refine ⟨by rw [List.length_take, List.length_drop]; omega, fun j hj => ?_⟩
    rw [List.getD_eq_getElem?_getD, List.getElem?_take, if_pos hj, List.getElem?_drop, List.getD_eq_getElem?_getD]
  have HPL : Hid (∀ f, f ≤ n → (psF n R f).length ≤ 81) := fun f hf => by
    have h1 := psF_len n R f
    have h2 : n * f ≤ 9 * 9 := Nat.mul_le_mul hn9 (by omega)
    omega
  have hg2 := hoo.lt
  have hgwl := hwo.lt
  have HKC : Hid (∀ W : World, (∀ b, b < w2.heap.size → b ≠ g → W.heap[b]? = w2.heap[b]?) → W.cell? ⟨w.heap.size, 0, none⟩ = some (.int .i64 (n : Int)) ∧ ∀ p, p < n → W.cell? ⟨gw, p, none⟩ = some (.int .i64 (scN n t p : Int))) := fun W hW => by
    have hz1 := hb1.size
    have hz2 := hb2.size
    refine ⟨?_, fun p hp => ?_⟩
    · rw [World.cell?_of_block (a := ⟨w.heap.size, 0, none⟩) (hW w.heap.size (by omega) (by omega))]
      exact (HX2.out w2 (Below.next hb1 hb2)).1
    · rw [World.cell?_of_block (a := ⟨gw, p, none⟩) (hW gw (by omega) (by omega)), World.cell?_of_block (a := ⟨gw, p, none⟩) (hb2.block gw hgwl), hwo.cell p hp, scT_at hp]
      rfl
  have HCP : Hid (∀ k : Nat, k ≤ 99 → ∀ W, Calls Try.prog 43 #[.int .i64 (k : Int)] W fun e w' => e = .returned (.int .i64 (prN k : Int)) ∧ w' = W) := fun k hk W => pairs_any k hk W
  have hB2 := Below.next hB1 hb2
  have hwg : w.heap.size ≤ g := by have := hB1.size; omega
  have hps0 : psF n R 0 = [] := rfl
  clear hwo hT hI hfall hO hOl HS HX2 y0 y1 HW HSS hb1 hb2 hgw hgg b1 hB1
  go_loopw [5, 6, 7, 18] (fun ov fv sv kv wr => ∃ (k f q m : Nat) (oa : Option Addr) (oc : Nat) (F : Nat → Int), kv = .int .i64 (k : Int) ∧ fv = .int .i64 (f : Int) ∧ sv = .int .i64 (q : Int) ∧ ov = .slice oa m oc ∧ k ≤ n ∧ f ≤ k ∧ q ≤ 9 * k ∧ Hid (S k = q) ∧ Hid ((psF n R f).length = m) ∧ Hid (cutB n t O f = true) ∧ Hid (∀ g, f < g → g ≤ k → cutB n t O g = false) ∧ Own wr g n F ∧ Hid (∀ j, f ≤ j → j < n → F j = ((O.getD j 0 : Nat) : Int)) ∧ PRw wr w2.heap.size g (.slice oa m oc) (psF n R f) F f ∧ Hid (∀ b, b < w2.heap.size → b ≠ g → wr.heap[b]? = w2.heap[b]?) ∧ w2.heap.size ≤ wr.heap.size ∧ Below w.heap.size w wr) (fun _ _ _ kv _ => (n - intOf kv).toNat)
  case atStart => exact ⟨0, 0, 0, 0, none, 0, _, rfl, rfl, rfl, rfl, by omega, by omega, by omega, HS0.out, by show _ = _; rw [hps0]; rfl, HC0.out, (show ∀ g, 0 < g → g ≤ 0 → _ from fun g a b => by omega), hoo, (show ∀ j, 0 ≤ j → j < n → _ from fun j _ _ => rfl), ⟨[], by rw [hps0]; exact World.ownsRow_nil _ _ _ _, fun i u M a _ => by simp at a⟩, (show ∀ b, b < w2.heap.size → b ≠ g → _ from fun _ _ _ => rfl), Nat.le_refl _, hB2⟩
  case round =>
    clear x0 x1 hoo hB2
    obtain ⟨k, f, q, m, oa, oc, F, rfl, rfl, rfl, rfl, hk, hf, hq, HQ, HM, HCF, HNC, ho, HF, hpr, HKG, hsz, hB⟩ := hrel
    have hm81 : m ≤ 81 := by rw [← HM.out]; exact HPL.out f (by omega)
    by_cases hlk : k < n
    · have hdk : decide ((k : Int) < (n : Int)) = true := by simp; omega
      have hkk : (k : Int) < (n : Int) := by omega
      obtain ⟨x0, hcw⟩ := HKC.out wr HKG.out
      have hcO := ho.cell k hlk
      rw [HF.out k hf hlk] at hcO
      have hpn := HOL.out k hlk
      have hsm := HSM.out k hlk
      obtain ⟨p, Hp⟩ : ∃ p, Hid (O.getD k 0 = p) := ⟨_, rfl⟩
      rw [Hp.out] at hcO hpn hsm
      have hpi : (p : Int) < (n : Int) := by omega
      have hcs := hcw p hpn
      have hs9 := HSC.out p
      obtain ⟨s, Hs⟩ : ∃ s, Hid (scN n t p = s) := ⟨_, rfl⟩
      rw [Hs.out] at hcs hs9 hsm
      rw [HQ.out] at hsm
      obtain ⟨q2, Hq2⟩ : ∃ q2, Hid (q + s = q2) := ⟨_, rfl⟩
      rw [Hq2.out] at hsm
      have eq2 : (q : Int) + (s : Int) = (q2 : Int) := by rw [← Hq2.out]; simp
      have wq2 : IntKind.i64.wrap (q2 : Int) = (q2 : Int) := IntWalk.i64_in _ (by have := Hq2.out; omega)
      obtain ⟨e, He⟩ : ∃ e, Hid (k + 1 = e) := ⟨_, rfl⟩
      have ee : (k : Int) + 1 = (e : Int) := by rw [← He.out]; simp
      have we : IntKind.i64.wrap (e : Int) = (e : Int) := IntWalk.i64_in _ (by have := He.out; omega)
      rw [He.out] at hsm
      have hct := HCT.out e
      rw [hsm] at hct
      have C3 := HCP.out e (by have := He.out; omega)
      obtain ⟨P, HP⟩ : ∃ P, Hid (prN e = P) := ⟨_, rfl⟩
      have hP99 : P ≤ 99 := by
        rw [← HP.out]
        unfold prN
        have h1 : e * (e - 1) ≤ 9 * 9 := Nat.mul_le_mul (by have := He.out; omega) (by have := He.out; omega)
        omega
      rw [HP.out] at hct C3
      obtain ⟨d, Hd⟩ : ∃ d, Hid (n - e = d) := ⟨_, rfl⟩
      rw [Hd.out] at hct
      have ed : (n : Int) - (e : Int) = (d : Int) := by have := Hd.out; have := He.out; omega
      have wd : IntKind.i64.wrap (d : Int) = (d : Int) := IntWalk.i64_in _ (by have := Hd.out; omega)
      obtain ⟨r, Hr⟩ : ∃ r, Hid (e * d = r) := ⟨_, rfl⟩
      have hr81 : r ≤ 81 := by
        rw [← Hr.out]
        have h1 : e * d ≤ 9 * 9 := Nat.mul_le_mul (by have := He.out; omega) (by have := Hd.out; omega)
        omega
      rw [Hr.out] at hct
      have er : (e : Int) * (d : Int) = (r : Int) := by rw [← Hr.out]; simp
      have wr0 : IntKind.i64.wrap (r : Int) = (r : Int) := IntWalk.i64_in _ (by omega)
      obtain ⟨z, Hz⟩ : ∃ z, Hid (P + r = z) := ⟨_, rfl⟩
      rw [Hz.out] at hct
      have ez : (P : Int) + (r : Int) = (z : Int) := by rw [← Hz.out]; simp
      have wz : IntKind.i64.wrap (z : Int) = (z : Int) := IntWalk.i64_in _ (by have := Hz.out; omega)
      obtain ⟨c, Hc⟩ : ∃ c, Hid (cutB n t O e = c) := ⟨_, rfl⟩
      rw [Hc.out] at hct
      have hqz : ((q2 : Int) == (z : Int)) = c := by rw [hct, Bool.eq_iff_iff, beq_iff_eq, beq_iff_eq]; omega
      have hSA : wr.drew.cell? ⟨w.heap.size, 0, none⟩ = some (.int .i64 (n : Int)) := x0
      clear hcw hct
      cases c with
      | false =>
        go_wp2
        go_region_held3 (fun W : World => W.cell? ⟨w.heap.size, 0, none⟩ = some (.int .i64 (n : Int))) (first | assumption) (first
          | (go_at_call 43; refine (C3 _).mono ?_; rintro e w3 ⟨rfl, hw3⟩; replace hw3 := hw3.symm; subst hw3))
        go_wp2
        have HNC2 : Hid (∀ g, f < g → g ≤ e → cutB n t O g = false) := fun g h1 h2 => by
          by_cases h : g = e
          · rw [h]; exact Hc.out
          · exact HNC.out g h1 (by have := He.out; omega)
        have hek := He.out
        exact ⟨⟨e, f, q2, m, oa, oc, F, rfl, rfl, rfl, rfl, by omega, by omega, by have := Hq2.out; omega, hsm, HM, HCF, HNC2, ho, HF, hpr, HKG, hsz, hB.drew⟩, by simp [intOf]; omega⟩
      | true =>
        go_wp2
        go_region_held3 (fun W : World => W.cell? ⟨w.heap.size, 0, none⟩ = some (.int .i64 (n : Int))) (first | assumption) (first
          | (go_at_call 43; refine (C3 _).mono ?_; rintro e w3 ⟨rfl, hw3⟩; replace hw3 := hw3.symm; subst hw3))
        have hf0 : (0 : Int) ≤ (f : Int) := by omega
        have hfe : (f : Int) ≤ (e : Int) := by have := He.out; omega
        have hen : (e : Int) ≤ (n : Int) := by have := He.out; omega
        have hek := He.out
        obtain ⟨hsl1, hsl2⟩ := HSL.out f e (by omega) (by omega)
        have C4 := Sort_at (sgL O f e) (e - f) f n g w.heap.size F wr.drew ho.drew hsl1 (fun j hj => by rw [HF.out (f + j) (by omega) (by omega), hsl2 j hj]) (by omega) (by omega) hwg hB.size
        obtain ⟨vals, hv1, hv2⟩ := hpr
        rw [HM.out] at hv1
        have HV2 : Hid (∀ (i : Nat) (u : Value) (M : List Nat), vals[i]? = some u → (psF n R f)[i]? = some M → ∃ c, u = .slice (some ⟨g, c, none⟩) M.length M.length ∧ c + M.length ≤ f ∧ ∀ t, t < M.length → F (c + t) = ((M.getD t 0 : Nat) : Int)) := hv2
        have HVL : Hid (vals.length = m) := by have := hv1.1; show _ = _; simpa using this
        clear hsl1 hsl2 hv2
        go_wp2_with (first
          | (go_at_call 44; refine C4.mono ?_; rintro e' w6 ⟨rfl, ⟨s6, F6, hsp6, hsl6, ho6, hF6, hFs6⟩, hk6, hb6⟩; clear C4; have hz6 := hb6.size; have hv6 : w6.ownsRow w2.heap.size 22 1 (.slice oa m oc) m vals := own_keep hv1 (fun b hb1 hb2 => hk6 b hb2 (by omega)))
          | (at_builtin; refine wpList_append_own _ rfl _ _ 31 rfl w2.heap.size 22 i22 (.slice none 0 0) 1 24 undR ri rz0 rz1 rz2 rfl (by decide) _ _ _ rfl (hv6.alloc _) ⟨w6.heap.size, 0, none⟩ 1 1 [.slice (some ⟨g, f, none⟩) (e - f) (e - f)] rfl rfl ?c1 ?c2 ?c3 ?c4 ?c5 ?_)
          | go_in)
        case c1 =>
          intro j u hj
          match j, hj with
          | 0, hj => simp at hj; subst hj; simp [Addr.add]
        case c2 => intro u hu; simp at hu; subst hu; rfl
        case c3 => unfold maxLen; omega
        case c4 => omega
        case c5 =>
          have hz7 : wr.drew.heap.size ≤ w6.heap.size := hz6
          have hz8 : wr.drew.heap.size = wr.heap.size := rfl
          simp; omega
        · intro v' w7 hown' hgrow _
          have hz7 : wr.heap.size ≤ w6.heap.size := hz6
          have hob : ∀ b, (.slice oa m oc : Value).ownBlock = some b → w2.heap.size ≤ b := fun b hb => (hv6.lt b hb).1
          have hkeep : ∀ b, b < w2.heap.size → w7.heap[b]? = w6.heap[b]? := fun b hb => (hgrow.block b (by simp; omega) (fun h => by have := hob b h.symm; omega)).trans (Below.heap_alloc _ _ _ (by omega))
          have hSF := HSG.out f e s6 hsp6 hsl6
          have hst := HSTEP.out f e (by omega) (by omega) HCF.out Hc.out (fun g' h1 h2 => HNC.out g' h1 (by omega))
          rw [← hSF] at hst
          have hs6l : s6.length = e - f := by rw [hsp6.length_eq]; exact (HSL.out f e (by omega) (by omega)).1
          have HM2 : Hid ((psF n R e).length = m + 1) := by show _ = _; rw [hst, List.length_append, HM.out]; rfl
          have ho7 : Own w7 g n F6 := by
            obtain ⟨cur, h1, h2⟩ := ho6
            exact ⟨cur, (hkeep g hg2).trans h1, h2⟩
          have HKG2 : Hid (∀ b, b < w2.heap.size → b ≠ g → w7.heap[b]? = w2.heap[b]?) := fun b hb hn => (hkeep b hb).trans ((hk6 b (show b < wr.heap.size by omega) hn).trans (HKG.out b hb hn))
          have HF2 : Hid (∀ j, e ≤ j → j < n → F6 j = ((O.getD j 0 : Nat) : Int)) := fun j h1 h2 => by rw [hF6 j h2 (by omega)]; exact HF.out j (by omega) h2
          have hb7 : Below w.heap.size w w7 := by
            refine ((hB.drew.trans hb6).alloc (by have := hB.size; omega) _).grown hgrow (by have := hB.size; simp; omega) (fun b hb => ?_)
            have := hob b hb
            have := hwg
            omega
          obtain ⟨xa, xc, rfl⟩ := own_form hown'
          have hpr2 : PRw w7 w2.heap.size g (.slice xa (m + 1) xc) (psF n R e) F6 e := by
            refine ⟨vals ++ [.slice (some ⟨g, f, none⟩) (e - f) (e - f)], by rw [HM2.out]; exact hown', fun i u M h1 h2 => ?_⟩
            rw [hst] at h2
            by_cases hi : i < m
            · rw [List.getElem?_append_left (by rw [HVL.out]; exact hi)] at h1
              rw [List.getElem?_append_left (by rw [HM.out]; exact hi)] at h2
              obtain ⟨c, e1, e2, e3⟩ := HV2.out i u M h1 h2
              exact ⟨c, e1, by omega, fun t ht => by rw [hF6 (c + t) (by omega) (by omega)]; exact e3 t ht⟩
            · rw [List.getElem?_append_right (by rw [HVL.out]; omega), HVL.out] at h1
              rw [List.getElem?_append_right (by rw [HM.out]; omega), HM.out] at h2
              have hi0 : i - m = 0 := by
                rcases Nat.eq_zero_or_pos (i - m) with h | h
                · exact h
                · rw [List.getElem?_eq_none (by simp; omega)] at h1; cases h1
              rw [hi0] at h1 h2
              simp only [List.getElem?_cons_zero, Option.some.injEq] at h1 h2
              subst h1
              subst h2
              exact ⟨f, by rw [hs6l], by rw [hs6l]; omega, fun t ht => hFs6 t (by rw [← hs6l]; exact ht)⟩
          clear hkeep hob hF6 hFs6 hSF hst hsp6 hsl6
          go_wp2
          go_roundw
          case rel => exact ⟨e, e, q2, m + 1, xa, xc, F6, rfl, rfl, rfl, rfl, by omega, by omega, by have := Hq2.out; omega, hsm, HM2, Hc, (show ∀ g, e < g → g ≤ e → _ from fun g h1 h2 => by omega), ho7, HF2, hpr2, HKG2, by have := hgrow.size; simp at this; omega, hb7⟩
          case measure => simp [intOf]; omega
    · have hdk : decide ((k : Int) < (n : Int)) = false := by simp; omega
      have hdkn : decide (k < n) = false := by simp; omega
      obtain rfl : k = n := by omega
      obtain rfl : f = k := by
        rcases Nat.lt_or_ge f k with h | h
        · have := HNC.out k h (Nat.le_refl _)
          rw [HALL.out] at this
          cases this
        · omega
      have hrw : Rw wr (.slice oa m oc) (toZ (ptL f R)) := hpr.rw ho (Nat.le_refl _)
      go_wp2
      go_ret
      exact ⟨⟨_, rfl, hrw⟩, hB⟩
end Go.Proofs.Ytgkfddcmngodgaa
