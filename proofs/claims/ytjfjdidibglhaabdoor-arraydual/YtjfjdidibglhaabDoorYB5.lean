/- The walk of the room's normal. -/
import Derived.Test.YtjfjdidibglhaabDoorYB4
import Derived.WalkMore
namespace Go.Proofs.YtjfjdidibglhaabDoor
open Go.RowKit

/-- The normal rows of the columns ahead of c. -/
def nrP (ng : Nat → Nat) (n : Nat) (X : List (List Nat)) (c : Nat) : List (List Nat) := ((List.range c).filter (freB X)).map fun c => ofF n (nrF ng c X)
theorem nrP_all (ng : Nat → Nat) (n : Nat) (X : List (List Nat)) : nrP ng n X n = nrms ng n X := rfl
theorem nrP_yes {ng : Nat → Nat} {n : Nat} {X : List (List Nat)} {c : Nat} (h : freB X c = true) : nrP ng n X (c + 1) = nrP ng n X c ++ [ofF n (nrF ng c X)] := by
  unfold nrP
  rw [List.range_succ, List.filter_append, List.map_append]
  simp [h]
theorem nrP_no {ng : Nat → Nat} {n : Nat} {X : List (List Nat)} {c : Nat} (h : freB X c = false) : nrP ng n X (c + 1) = nrP ng n X c := by
  unfold nrP
  rw [List.range_succ, List.filter_append, List.map_append]
  simp [h]
theorem nrP_len (ng : Nat → Nat) (n : Nat) (X : List (List Nat)) (c : Nat) : (nrP ng n X c).length ≤ c := by
  unfold nrP
  rw [List.length_map]
  have := List.length_filter_le (freB X) (List.range c)
  rwa [List.length_range] at this
/-- What normal answers. -/
def NoA (q : Nat) (ad mu : Nat → Nat → Nat) (n : Nat) (S : List (List Nat)) (e : Ending) (w' : World) : Prop := ∃ x ls, e = .returned x ∧ BasIs q ad mu n (Nrm q ad mu n S) ls ∧ Rw w' x (toZ ls)
theorem orow_form {w : World} {base : Nat} {x : Value} {l : List Nat} (h : ORow w base x l) : ∃ a n c, x = .slice a n c := by
  obtain ⟨_, ⟨rfl, _⟩ | ⟨g, cap, cur, rfl, _⟩⟩ := h
  · exact ⟨_, _, _, rfl⟩
  · exact ⟨_, _, _, rfl⟩
theorem inc_len : ∀ (l : List Nat) (k n : Nat), l.Pairwise (· < ·) → (∀ x ∈ l, k ≤ x ∧ x < n) → k ≤ n → l.length + k ≤ n
  | [], k, n, _, _, h => by simpa using h
  | x :: l, k, n, hp, hb, h => by
    have h1 := List.pairwise_cons.1 hp
    have h2 := hb x (by simp)
    have := inc_len l (x + 1) n h1.2 (fun y hy => ⟨h1.1 y hy, (hb y (by simp [hy])).2⟩) (by omega)
    simp only [List.length_cons]
    omega
theorem rref_le {q n : Nat} {X : List (List Nat)} (h : Rref q n X) : X.length ≤ n := by
  have := inc_len (X.map ldV) 0 n (List.pairwise_map.2 h.inc) (fun x hx => by obtain ⟨r, hr, rfl⟩ := List.mem_map.1 hx; exact ⟨Nat.zero_le _, (h.one r hr).1⟩) (Nat.zero_le _)
  rw [List.length_map] at this
  omega
set_option maxRecDepth 100000 in
set_option maxHeartbeats 16000000 in
theorem normal_any (P K n : Nat) (l : List Int) (v u : Value) (S : List (List Nat)) (w : World) (hF : Fld P K l v w) (hu : Rw w u (toZ S)) (hS : Rws (P ^ K) n S) (h1 : 1 ≤ n) (hn : n ≤ 6) (hR : S.length ≤ 24) :
    Calls Tryd.prog 24 #[rmV P K v n, u] w fun e w' => NoA (P ^ K) (adF P K) (muF P K l) n S e w' ∧ Below w.heap.size w w' := by
  have hfq := hF.fqr
  obtain ⟨i22, ti, tz0, tz1, tz2⟩ := info36
  have b1 := balloc w (.cells #[.int .i64 (P : Int), .int .i64 (K : Int), v, .int .i64 (n : Int)] 53)
  have hr0 : RmB (w.alloc (.cells #[.int .i64 (P : Int), .int .i64 (K : Int), v, .int .i64 (n : Int)] 53)) w.heap.size (P : Int) (K : Int) v (n : Int) := heap_alloc_new w _
  have C1 := basis_any P K n l v u S _ (hF.below b1) (hu.below b1) hS h1 hn hR
  have HBas : Hid (∀ (W : World) (y : Value) (Y : List (List Nat)), Below w.heap.size w W → Rw W y (toZ Y) → Rws (P ^ K) n Y → Y.length ≤ 24 → Calls Tryd.prog 39 #[rmV P K v n, y] W fun e w' => BaA (P ^ K) (adF P K) (muF P K l) n Y e w' ∧ Below W.heap.size W w') := fun W y Y b hy hY hl => basis_any P K n l v y Y W (hF.below b) hy hY h1 hn hl
  have HRow : Hid (∀ (W : World) (y : Value) (Y : List (List Nat)) (c : Nat), Below w.heap.size w W → Rw W y (toZ Y) → Rref (P ^ K) n Y → c < n → Calls Tryd.prog 52 #[rmV P K v n, y, .int .i64 (c : Int)] W fun e w' => ∃ x, e = .returned x ∧ ORow w' W.heap.size x (ofF n (nrF (ngF P K) c Y)) ∧ Below W.heap.size W w') := fun W y Y c b hy hY hc => normalRow_any P K n c l v y Y W (hF.below b) hy hY hc hn (by have := rref_le hY; omega)
  have HFin : Hid (∀ X U, BasIs (P ^ K) (adF P K) (muF P K l) n (Spn (P ^ K) (adF P K) (muF P K l) n S) X → BasIs (P ^ K) (adF P K) (muF P K l) n (Spn (P ^ K) (adF P K) (muF P K l) n (nrms (ngF P K) n X)) U → BasIs (P ^ K) (adF P K) (muF P K l) n (Nrm (P ^ K) (adF P K) (muF P K l) n S) U) := fun X U hX hU => nrm_basis hfq hS hX hU
  have HNr : Hid (∀ X, Rref (P ^ K) n X → Rws (P ^ K) n (nrms (ngF P K) n X)) := fun X hX => nrms_rws hfq hX.rws
  have b1s := b1.size
  obtain ⟨mu, Hmu⟩ : ∃ mu, Hid (muF P K l = mu) := ⟨_, rfl⟩
  obtain ⟨ad, Had⟩ : ∃ ad, Hid (adF P K = ad) := ⟨_, rfl⟩
  obtain ⟨ng, Hng⟩ : ∃ ng, Hid (ngF P K = ng) := ⟨_, rfl⟩
  obtain ⟨q, Hq⟩ : ∃ q, Hid (P ^ K = q) := ⟨_, rfl⟩
  rw [Hmu.out, Had.out, Hq.out] at C1 HBas HFin ⊢
  rw [Hng.out] at HRow HFin HNr
  rw [Hq.out] at HRow HNr
  obtain ⟨fa, fn, fc, rfl⟩ : ∃ fa fn fc, v = .slice fa fn fc := by obtain ⟨a, c, e, _⟩ := hF.sl; exact ⟨a, _, c, e⟩
  obtain ⟨w1, Hw1⟩ : ∃ w1, Hid (w.alloc (.cells #[.int .i64 (P : Int), .int .i64 (K : Int), .slice fa fn fc, .int .i64 (n : Int)] 53) = w1) := ⟨_, rfl⟩
  obtain ⟨x0, x1, x2, x3⟩ := hr0.cells
  have HR1 : Hid (RmB w1 w.heap.size (P : Int) (K : Int) (.slice fa fn fc) (n : Int)) := by rw [← Hw1.out]; exact hr0
  have HB1 : Hid (Below w.heap.size w w1) := by rw [← Hw1.out]; exact b1
  obtain ⟨a, ac, rfl, _⟩ := id hu
  clear hF hu hS hfq b1 hr0
  go_enter Tryd.func24, Tryd.ntmps24
  go_wp2_with fail
  go_step3
  go_wp2_with (go_at_call 39; refine C1.mono ?_; rintro e w2 ⟨⟨bv, X, rfl, hXb, hbv⟩, b2⟩; rw [Hw1.out] at b2; obtain ⟨y0, y1, y2, y3⟩ := (HR1.out.below b2).cells; clear C1 x0 x1 x2 x3)
  go_step3
  go_wp2_with fail
  have hB2 := Below.next HB1.out b2
  have HXb : Hid (BasIs q ad mu n (Spn q ad mu n S) X) := hXb
  have HXr : Hid (Rref q n X) := hXb.rref
  have hXl := rref_le hXb.rref
  have HR2 : Hid (∀ W, Below w2.heap.size w2 W → RmB W w.heap.size (P : Int) (K : Int) (.slice fa fn fc) (n : Int)) := fun W b => HR1.out.below (Below.next b2 b)
  have HBV : Hid (∀ W, Below w2.heap.size w2 W → Rw W bv (toZ X)) := fun W b => hbv.below b
  have HB2 : Hid (∀ W, Below w2.heap.size w2 W → Below w.heap.size w W) := fun W b => Below.next hB2 b
  obtain ⟨ba, bc, rfl, _⟩ := id hbv
  obtain ⟨t, Ht⟩ : ∃ t, Hid (X.length = t) := ⟨_, rfl⟩
  have hzl : (toZ X).length = t := by rw [← Ht.out]; simp [toZ]
  rw [hzl] at HBV ⊢
  rw [Ht.out] at hXl
  have HAt : Hid (∀ i, i < t → ∃ s, X[i]? = some s ∧ (toZ X)[i]? = some (s.map Int.ofNat) ∧ Vc q n s ∧ ldV s < n) := fun i hi => by
    have hi' : i < X.length := by rw [Ht.out]; exact hi
    have hm := List.getElem_mem hi'
    exact ⟨X[i], by simp, by simp [toZ, hi'], HXr.out.rws _ hm, (HXr.out.one _ hm).1⟩
  clear hXb hbv hB2 b2 HR1 HB1 y0 y1 y2 hzl
  go_loopw [6, 7, 9, 15, 20] (fun ov _ _ cv _ wr => ∃ c m oa oc : Nat, ∃ og : Option Addr, cv = .int .i64 (c : Int) ∧ c ≤ n ∧ ov = .slice og m oc ∧ Hid ((nrP ng n X c).length = m) ∧ m ≤ c ∧ oa = 0 ∧ OR wr w2.heap.size (.slice og m oc) (nrP ng n X c) ∧ Below w2.heap.size w2 wr) (fun _ _ _ cv _ _ => (n - intOf cv).toNat)
  case atStart => exact ⟨0, 0, 0, 0, none, rfl, by omega, rfl, rfl, by omega, rfl, OR.nil _ _, Below.refl _ _⟩
  case round =>
    clear y3
    obtain ⟨c, m, oa, oc, og, rfl, hc, rfl, Hm, hmc, hoa, hO, hB⟩ := hrel
    have hwb : w2.heap.size ≤ wr.heap.size := hB.size
    by_cases hlt : c < n
    · have hci : (c : Int) < (n : Int) := by omega
      have hdc : decide ((c : Int) < (n : Int)) = true := by simp; omega
      go_wp2
      go_loopw [9, 20] (fun _ iv wr' => ∃ i : Nat, iv = .int .i64 (i : Int) ∧ i ≤ t ∧ Hid (∀ j r, j < i → X[j]? = some r → ldV r ≠ c) ∧ wr' = wr) (fun _ iv _ => (t - intOf iv).toNat)
      case atStart => exact ⟨0, rfl, by omega, (fun j r h => by omega : ∀ j r, j < 0 → _), rfl⟩
      case round =>
        obtain ⟨i, rfl, hi, HI, hw⟩ := hrel
        replace hw := hw.symm
        subst hw
        by_cases hit : i < t
        · have hii : (i : Int) < (t : Int) := by omega
          have hdi : decide ((i : Int) < (t : Int)) = true := by simp; omega
          obtain ⟨s, hXi, hsi, hsv, hsl⟩ := HAt.out i hit
          obtain ⟨a', ac', e', hr'⟩ := HBV.out wr hB
          obtain ⟨rfl, rfl⟩ : ba = a' ∧ bc = ac' := by
            simp only [Value.slice.injEq] at e'
            exact ⟨e'.1, e'.2.2⟩
          obtain ⟨b, off, x, rfl, hcj, hs⟩ := hr' i _ hsi
          have CD := lead_any s x wr hs (by rw [hsv.len]; exact hsl) (by rw [hsv.len]; omega)
          obtain ⟨d, Hd⟩ : ∃ d, Hid (ldV s = d) := ⟨_, rfl⟩
          rw [Hd.out] at CD
          have hdn : d < n := by rw [← Hd.out]; exact hsl
          obtain ⟨xa, xc, rfl, _⟩ := id hs
          obtain ⟨xl, Hxl⟩ : ∃ xl, Hid ((s.map Int.ofNat).length = xl) := ⟨_, rfl⟩
          rw [Hxl.out] at CD hcj
          have HXi : Hid (X[i]? = some s) := hXi
          clear hr' hs hsi hXi e' hsv hsl
          by_cases hdc2 : d = c
          · have hde : ((d : Int) == (c : Int)) = true := by simp; omega
            have HF : Hid (freB X c = false) := by
              show _ = _
              rw [Bool.eq_false_iff]
              intro h
              exact freB_iff.1 h s (List.mem_of_getElem? HXi.out) (by rw [Hd.out, hdc2])
            have hO2 : OR wr w2.heap.size (.slice og m oc) (nrP ng n X (c + 1)) := by rw [nrP_no HF.out]; exact hO
            have Hm2 : Hid ((nrP ng n X (c + 1)).length = m) := by rw [nrP_no HF.out]; exact Hm
            clear hO Hm HF
            go_wp2_with (go_at_call 51; refine CD.mono ?_; rintro e w3 ⟨rfl, h3⟩; replace h3 := h3.symm; subst h3; clear CD)
            go_roundw
            case rel => exact ⟨c + 1, m, 0, oc, og, by go_num, by omega, rfl, Hm2, by omega, rfl, hO2, hB⟩
            case measure => simp [intOf]; omega
          · have hde : ((d : Int) == (c : Int)) = false := by simp; omega
            have HI2 : Hid (∀ j r, j < i + 1 → X[j]? = some r → ldV r ≠ c) := fun j r hj hr => by
              by_cases e : j = i
              · subst e
                have := HXi.out.symm.trans hr
                cases this
                rw [Hd.out]; exact hdc2
              · exact HI.out j r (by omega) hr
            clear HI
            go_wp2_with (go_at_call 51; refine CD.mono ?_; rintro e w3 ⟨rfl, h3⟩; replace h3 := h3.symm; subst h3; clear CD)
            go_roundw
            case rel => exact ⟨i + 1, by go_num, by omega, HI2, by first | rfl | trivial⟩
            case measure => simp [intOf]; omega
        · have hdi : decide ((i : Int) < (t : Int)) = false := by simp; omega
          obtain rfl : t = i := by omega
          have HF : Hid (freB X c = true) := freB_iff.2 fun r hr => by
            obtain ⟨j, hj, e⟩ := List.getElem_of_mem hr
            exact HI.out j r (by rw [← Ht.out]; exact hj) (by rw [List.getElem?_eq_getElem hj, e])
          have C := HRow.out wr _ X c (HB2.out wr hB) (HBV.out wr hB) HXr.out hlt
          obtain ⟨y0, y1, y2, y3⟩ := (HR2.out wr hB).cells
          obtain ⟨vals, ho1, ho2⟩ := hO
          have HO1 : Hid (wr.ownsRow w2.heap.size 22 1 (.slice og m oc) (nrP ng n X c).length vals) := ho1
          have HO2 : Hid (∀ (i : Nat) (u : Value) (l : List Nat), vals[i]? = some u → (nrP ng n X c)[i]? = some l → ORow wr w2.heap.size u l) := ho2
          have HLow : Hid (∀ (i : Nat) (u : Value), Below wr.heap.size wr wr → True) := fun _ _ _ => trivial
          rw [Hm.out] at ho1
          have HFin2 : Hid (∀ (w3 : World) (x v' : Value) (w5 : World), Below wr.heap.size wr w3 → ORow w3 wr.heap.size x (ofF n (nrF ng c X)) → w5.ownsRow w2.heap.size 22 1 v' (m + 1) (vals ++ [x]) → (w3.alloc (.cells #[x] 22)).grownBy w5 (Value.slice og m oc).ownBlock → (∃ og' oc', v' = .slice og' (m + 1) oc') ∧ OR w5 w2.heap.size v' (nrP ng n X (c + 1)) ∧ Hid ((nrP ng n X (c + 1)).length = m + 1) ∧ Below w2.heap.size w2 w5) := fun w3 x v' w5 b3 hx h5 hg => by
            have bal := balloc w3 (.cells #[x] 22)
            have b34 := Below.next b3 bal
            have hx' : ORow (w3.alloc (.cells #[x] 22)) w2.heap.size x (ofF n (nrF ng c X)) := (show ORow w3 w2.heap.size x _ from ⟨hx.1, hx.2.imp id fun ⟨g', c', cur, e, hb, r⟩ => ⟨g', c', cur, e, Nat.le_trans hwb hb, r⟩⟩).below bal
            have hm5 : OR w5 w2.heap.size v' (nrP ng n X c ++ [ofF n (nrF ng c X)]) := OR.more (own_keep HO1.out fun b _ hb => b34.block b hb) (fun i u l e1 e2 => (HO2.out i u l e1 e2).below b34) hx' (by rw [Hm.out]; exact h5) hg
            refine ⟨?_, by rw [nrP_yes HF.out]; exact hm5, by show _ = _; rw [nrP_yes HF.out, List.length_append, Hm.out]; rfl, (Below.next hB b34).grown hg (by rw [World.size_alloc]; have := b3.size; omega) (fun k hk => (HO1.out.lt k hk).1)⟩
            obtain ⟨_, ⟨rfl, h6⟩ | ⟨g', cap, cur, rfl, _⟩⟩ := h5
            · omega
            · exact ⟨_, _, rfl⟩
          clear ho2 HI HLow
          go_wp2_with (first
            | (go_at_call 52; refine C.mono ?_; rintro e w3 ⟨x, rfl, hx, b3⟩; obtain ⟨xa, xn, xc, rfl⟩ := orow_form hx; clear C)
            | (at_builtin; refine wpList_append_own _ rfl _ _ 25 rfl w2.heap.size 22 i22 (.slice none 0 0) 1 24 undR ti tz0 tz1 tz2 rfl (by decide) _ _ _ rfl ((own_keep ho1 fun b _ hb => b3.block b hb).alloc _) ⟨w3.heap.size, 0, none⟩ 1 1 [.slice xa xn xc] rfl rfl (fun j u hj => by (match j, hj with | 0, hj => simp at hj; subst hj; simp [Addr.add])) (fun u hu => by (simp at hu; subst hu; rfl)) (by (unfold maxLen; omega)) (by omega) (by (simp; have := b3.size; omega)) ?_; intro v' w5 h5 hg _; obtain ⟨⟨og', oc', rfl⟩, n1, n2, n3⟩ := HFin2.out w3 _ v' w5 b3 hx h5 hg; clear HFin2 ho1 h5 hg)
            | go_in)
          go_roundw
          case rel => exact ⟨c + 1, m + 1, 0, oc', og', by go_num, by omega, rfl, n2, by omega, rfl, n1, n3⟩
          case measure => simp [intOf]; omega
    · have hdc : decide ((c : Int) < (n : Int)) = false := by simp; omega
      obtain rfl : n = c := by omega
      rw [nrP_all] at hO
      have C := HBas.out wr _ (nrms ng n X) (HB2.out wr hB) hO.rw (HNr.out X HXr.out) (by rw [← nrP_all, Hm.out]; omega)
      obtain ⟨y0, y1, y2, y3⟩ := (HR2.out wr hB).cells
      have hBw := HB2.out wr hB
      clear hO
      go_wp2_with (go_at_call 39; refine C.mono ?_; rintro e w3 ⟨⟨xv, U, rfl, hU, hxv⟩, b3⟩; clear C)
      first
        | (go_ret; exact ⟨⟨_, _, rfl, HFin.out X U HXb.out hU, hxv⟩, Below.next hBw b3⟩)
        | (rw [Exit.noGoto_ret]; go_ret; exact ⟨⟨_, _, rfl, HFin.out X U HXb.out hU, hxv⟩, Below.next hBw b3⟩)
end Go.Proofs.YtjfjdidibglhaabDoor
