/- Rows of 13 numbers; the walks of kindOf, divisor, order, sign. -/
import Derived.Test.YtgpkhfpejopacabGreatDoorZPCyc
import Derived.Test.YtgpkhfpejopacabGreatDoorZGB
import Derived.Test.YtgpkhfpejopacabGreatDoorZPRank
import Derived.Deep.QuietTactic
import Derived.BigQuiet
/- The walk of cycles. -/
namespace Go.Proofs.YtgpkhfpejopacabGreatDoor.Gc
open Go.RowKit

set_option maxRecDepth 100000 in
set_option maxHeartbeats 2000000 in
theorem cycles_any (n : Nat) (f : Nat → Nat) (v : Value) (w : World) (hn : n ≤ 12) (hv : Sl w v (pl n f)) (P : Pm n f) :
    Calls Tryz.prog 105 #[v] w fun e w' => ∃ x, e = .returned x ∧ CycR w' (w.heap.size + 1) x (cycs n f n) ∧ Below w.heap.size w w' := by
  obtain ⟨i3, hi, hz0, hz1, hz2⟩ := info3
  obtain ⟨i22, hi', hz0', hz1', hz2'⟩ := info22
  obtain ⟨a, ca, rfl, hcv⟩ := hv
  rw [pl_len] at hcv ⊢
  have HV : Hid (∀ j, j < n → ∃ B off, a = some ⟨B, off, none⟩ ∧ w.cell? ⟨B, off + j, none⟩ = some (.int .i64 (f j : Int))) := fun j hj => by
    have := hcv j hj; rw [pl_at f hj] at this; exact this
  have HP : Hid (Pm n f) := P
  clear hcv P
  have hb0 := BRow.made0 w
  have hB0 : Below w.heap.size w (w.alloc (.cells #[.bool false, .bool false, .bool false, .bool false, .bool false, .bool false, .bool false, .bool false, .bool false, .bool false, .bool false, .bool false] 188)) := balloc w _
  have hS0 : (w.alloc (.cells #[.bool false, .bool false, .bool false, .bool false, .bool false, .bool false, .bool false, .bool false, .bool false, .bool false, .bool false, .bool false] 188)).heap.size = w.heap.size + 1 := by simp
  go_enter Tryz.func105, Tryz.ntmps105
  go_wp2
  go_loopw [3, 10] (fun o i wr => ∃ (k : Nat) (m : Nat → Bool), i = .int .i64 k ∧ k ≤ n ∧ BRow wr w.heap.size m ∧ Hid (∀ x : Nat, x < n → (m x = true ↔ ∃ i j, i < k ∧ itr f j i = x)) ∧ CycR wr (w.heap.size + 1) o (cycs n f k) ∧ w.heap.size + 1 ≤ wr.heap.size ∧ Below w.heap.size w wr) (fun _ i _ => (n - intOf i).toNat)
  case atStart => exact ⟨0, _, rfl, by omega, hb0, (fun x _ => ⟨fun h => by simp at h, fun ⟨i, j, h, _⟩ => by omega⟩ : ∀ x : Nat, x < n → _), CycR.nil _ _, by omega, hB0⟩
  case round =>
    clear hb0 hB0 hS0
    obtain ⟨k, m, rfl, hk, hbr, HM, hR, hsz, hB⟩ := hrel
    by_cases hlt : k < n
    · have hki : (k : Int) < n := by omega
      have hk12 : (k : Int) < 12 := by omega
      have hdec : decide ((k : Int) < n) = true := by simp; omega
      have hmk := met_zero HM.out HP.out hlt
      have hcs := cycs_succ n f k
      cases hl : leadB n f k with
      | false =>
        rw [hl] at hmk hcs
        have hck := hbr.cell k (by omega)
        rw [hmk] at hck
        simp only [Bool.not_false] at hck
        rw [if_neg (by simp), List.append_nil] at hcs
        have HCS : Hid (cycs n f (k + 1) = cycs n f k) := hcs
        clear hcs
        go_wp2
        refine wp_loop_rounds 1 ?_
        rw [rounds_succ]
        go_wp2
        go_roundw
        case rel =>
          refine ⟨k + 1, m, by go_num, by omega, hbr, ?_, by rw [HCS.out]; exact hR, hsz, hB⟩
          intro x hx
          rw [HM.out x hx]
          constructor
          · rintro ⟨i, j, h1, h2⟩; exact ⟨i, j, by omega, h2⟩
          · rintro ⟨i, j, h1, h2⟩
            by_cases e : i = k
            · subst e
              obtain ⟨i', j', h3, h4⟩ := (HM.out i hlt).1 hmk
              exact ⟨i', j + j', h3, by rw [itr_add, h4, h2]⟩
            · exact ⟨i, j, by omega, h2⟩
        case measure => simp [intOf]; omega
      | true =>
        rw [hl, if_pos rfl] at hcs
        have HCS : Hid (cycs n f (k + 1) = cycs n f k ++ [cycL f k]) := hcs
        have HL : Hid (leadB n f k = true) := hl
        obtain ⟨p, Hp⟩ : ∃ p, Hid (per f k = p) := ⟨_, rfl⟩
        have hper := (HP.out.per hlt).1
        rw [Hp.out] at hper
        have hp1 : 1 ≤ p := hper.1
        have hp2 : p ≤ n := hper.2.1
        have HR : Hid (itr f p k = k) := hper.2.2
        clear hper hcs hl hmk
        go_wp2
        obtain ⟨wo, rfl⟩ : ∃ wo, wo = wr := ⟨_, rfl⟩
        go_loopw [6, 7] (fun c x wr => ∃ (q t : Nat) (m' : Nat → Bool), x = .int .i64 t ∧ q ≤ p ∧ Hid (t = itr f q k) ∧ t < n ∧ wr.ownsRow wo.heap.size 3 1 c q ((pl q fun j => itr f j k).map (Value.int .i64)) ∧ BRow wr w.heap.size m' ∧ Hid (∀ x : Nat, x < n → (m' x = true ↔ m x = true ∨ ∃ j, j < q ∧ itr f j k = x)) ∧ Kp w.heap.size wo wr ∧ Below w.heap.size w wr) (fun c _ _ => p - sliceLen c)
        case atStart => exact ⟨0, k, m, rfl, by omega, (rfl : k = itr f 0 k), hlt, World.ownsRow_nil _ _ _ _, hbr, (fun x _ => ⟨fun h => .inl h, fun h => h.elim id (fun ⟨j, h, _⟩ => by omega)⟩ : ∀ x : Nat, x < n → _), Kp.refl _ _, hB⟩
        case round =>
          clear hB hbr
          obtain ⟨q, t, m', rfl, hq, HT, htn, hown, hbr, HM', hK, hB⟩ := hrel
          have ht12 : (t : Int) < 12 := by omega
          have htni : (t : Int) < n := by omega
          have hct := hbr.cell t (by omega)
          have hft := hbr.frozen t
          have hKs := hK.1
          by_cases hqp : q < p
          · have hmt : m' t = false := by
              rw [Bool.eq_false_iff]
              intro h
              rcases (HM'.out t htn).1 h with h1 | ⟨j, h1, h2⟩
              · rw [HT.out] at h1
                exact met_in HP.out hlt HL.out ((HM.out _ (HP.out.itr_lt hlt q)).1 h1)
              · rw [HT.out] at h2
                have := HP.out.itr_ne hlt (by rw [Hp.out]; omega) (by rw [Hp.out]; exact hqp) h2
                omega
            rw [hmt] at hct
            obtain ⟨B, off, rfl, hca⟩ := HV.out t htn
            obtain ⟨t', Ht'⟩ : ∃ t', Hid (f t = t') := ⟨_, rfl⟩
            rw [Ht'.out] at hca
            have ht'n : t' < n := by rw [← Ht'.out]; exact HP.out.lt t htn
            have hBw : B < w.heap.size := by simpa using block_lt_of_cell hca
            have hbr2 := hbr.set t
            have hK2 : Kp w.heap.size wo (wr.setCell ⟨w.heap.size, t, none⟩ (.bool true)) := hK.trans (Kp.set _ _ _ _)
            have hB2 : Below w.heap.size w (wr.setCell ⟨w.heap.size, t, none⟩ (.bool true)) := hB.setCell (p := ⟨w.heap.size, t, none⟩) (Nat.le_refl _) _
            have hown2 := own_other hown ⟨w.heap.size, t, none⟩ (.bool true) (by simp; omega)
            have hs2 : (wr.setCell ⟨w.heap.size, t, none⟩ (.bool true)).heap.size = wr.heap.size := by simp
            clear hown hbr hB hK
            go_wp2_with (first
              | (at_builtin; refine wpList_append_own _ rfl _ _ 29 rfl wo.heap.size 3 i3 (.int .i64 0) 1 8 und22 hi hz0 hz1 hz2 rfl (by decide) _ _ _ rfl (hown2.alloc _) ⟨wr.heap.size, 0, none⟩ 1 1 [.int .i64 (t : Int)] rfl rfl ?c1 ?c2 ?c3 ?c4 ?c5 ?_)
              | go_in)
            case c1 =>
              intro j u hj
              match j, hj with
              | 0, hj => simp at hj; subst hj; exact cell_new _ _ _ _ hs2
            case c2 => intro u hu; simp at hu; subst hu; rfl
            case c3 => unfold maxLen; omega
            case c4 => omega
            case c5 => simp; omega
            intro v' w1 hown' hgrow _
            have hU : Below wo.heap.size (wr.setCell ⟨w.heap.size, t, none⟩ (.bool true)) w1 := ((Below.refl _ _).alloc (by omega) _).grown hgrow (by simp; omega) (fun k hk => (hown2.lt k hk).1)
            have hK3 := hK2.under (Nat.le_refl _) hU
            have hB3 : Below w.heap.size w w1 := hB2.trans (hU.mono (by omega))
            have hbr3 : BRow w1 w.heap.size (updB m' t) := (hU.block w.heap.size (by omega)).trans hbr2
            have hca3 := (hB3.cell (p := ⟨B, off + t, none⟩) hBw).trans hca
            clear hU hgrow hK2 hB2 hbr2 hct
            go_wp2
            go_roundw
            case rel =>
              refine ⟨q + 1, t', updB m' t, rfl, by omega, ?_, ht'n, ?_, hbr3, ?_, hK3, hB3⟩
              · show t' = f (itr f q k)
                rw [← HT.out, Ht'.out]
              · rw [pl_succ, List.map_append]
                rw [HT.out] at hown'
                exact hown'
              · intro x hx
                unfold updB
                by_cases e : x = t
                · subst e
                  rw [if_pos rfl]
                  exact ⟨fun _ => .inr ⟨q, by omega, HT.out.symm⟩, fun _ => rfl⟩
                · rw [if_neg e, HM'.out x hx]
                  constructor
                  · rintro (h | ⟨j, h1, h2⟩)
                    · exact .inl h
                    · exact .inr ⟨j, by omega, h2⟩
                  · rintro (h | ⟨j, h1, h2⟩)
                    · exact .inl h
                    · refine .inr ⟨j, ?_, h2⟩
                      have : j ≠ q := fun e' => e (by rw [← h2, e', HT.out])
                      omega
            case measure =>
              have e1 := sliceLen_own hown'
              have e2 := sliceLen_own hown2
              rw [e1, e2]; omega
          · obtain rfl : q = p := by omega
            obtain rfl : t = k := by rw [HT.out, HR.out]
            have hmt : m' t = true := (HM'.out t htn).2 (.inr ⟨0, by omega, rfl⟩)
            rw [hmt] at hct
            obtain ⟨g, cap, rfl, hgg, hO⟩ := Own.of (l := pl q fun j => itr f j t) hown (by omega)
            obtain ⟨vals, hv1, hv2⟩ := hR.kp hK (by omega)
            have hqi : (0 : Int) < q := by omega
            have hrow : RowIs wr (w.heap.size + 1) (.slice (some ⟨g, 0, none⟩) (cycL f t).length cap) (cycL f t) := by
              refine ⟨g, cap, rfl, by omega, ?_⟩
              rw [cycL_length, Hp.out]
              refine hO.congr fun j hj => ?_
              rw [pl_at _ hj]
              simp [cycL, Hp.out, hj]
            rw [cycL_length, Hp.out] at hrow
            have hsw := hB.size
            have hcl : (cycs n f t).length ≤ t := by unfold cycs leads; rw [List.length_map]; have := List.length_filter_le (leadB n f) (List.range t); rwa [List.length_range] at this
            go_wp2_with (first
              | (at_builtin; refine wpList_append_own _ rfl _ _ 22 rfl _ 29 i22 (.slice none 0 0) 1 24 und54 hi' hz0' hz1' hz2' rfl (by decide) _ _ _ rfl (hv1.alloc _) ⟨wr.heap.size, 0, none⟩ 1 1 [.slice (some ⟨g, 0, none⟩) q cap] rfl rfl ?c1 ?c2 ?c3 ?c4 ?c5 ?_)
              | go_in)
            case c1 =>
              intro j u hj
              match j, hj with
              | 0, hj => simp at hj; subst hj; simp [Addr.add]
            case c2 => intro u hu; simp at hu; subst hu; rfl
            case c3 => unfold maxLen; omega
            case c4 => omega
            case c5 => simp; omega
            intro v' w8 hown8 hgrow8 _
            have hB8 : Below w.heap.size w w8 := (hB.alloc hsw _).grown hgrow8 (by simp; omega) (fun k hk => by have := (hv1.lt k hk).1; omega)
            have hU8 : Below (w.heap.size + 1) wr w8 := ((Below.refl _ _).alloc (by omega) _).grown hgrow8 (by simp; omega) (fun k hk => (hv1.lt k hk).1)
            have hka : Kp w.heap.size wr (wr.alloc (.cells #[.slice (some ⟨g, 0, none⟩) q cap] 29)) := Kp.below (balloc wr _)
            have hR8 := CycR.more (l := cycL f t) (hv1.alloc _) (fun i u l h1 h2 => (hv2 i u l h1 h2).kp hka (by omega)) (hrow.kp hka (by omega)) hown8 hgrow8
            have hbr8 : BRow w8 w.heap.size m' := (hU8.block w.heap.size (by omega)).trans hbr
            have hsz8 := hU8.size
            go_wp2
            go_roundw
            case rel =>
              refine ⟨t + 1, m', by go_num, by omega, hbr8, ?_, by rw [HCS.out]; exact hR8, by omega, hB8⟩
              intro x hx
              rw [HM'.out x hx, HM.out x hx]
              constructor
              · rintro (⟨i, j, h1, h2⟩ | ⟨j, h1, h2⟩)
                · exact ⟨i, j, by omega, h2⟩
                · exact ⟨t, j, by omega, h2⟩
              · rintro ⟨i, j, h1, h2⟩
                by_cases e : i = t
                · subst e
                  refine .inr ⟨j % q, Nat.mod_lt _ (by omega), ?_⟩
                  rw [← itr_mod_of HR.out]; exact h2
                · exact .inl ⟨i, j, by omega, h2⟩
            case measure => simp [intOf]; omega
    · obtain rfl : k = n := by omega
      have hkd : decide ((k : Int) < (k : Int)) = false := by simp
      go_wp2
      go_ret
      exact ⟨_, rfl, hR, hB⟩

end Go.Proofs.YtgpkhfpejopacabGreatDoor.Gc

namespace Go.Proofs.YtgpkhfpejopacabGreatDoor.Gc
open Go.RowKit

/-- A row of 13 numbers. -/
def krow (f : Nat → Int) : Array Value := ((List.range 13).map fun j => Value.int .i64 (f j)).toArray
@[simp] theorem krow_size (f : Nat → Int) : (krow f).size = 13 := by simp [krow]
theorem krow_at (f : Nat → Int) (j : Nat) (h : j < 13) : (krow f)[j]? = some (.int .i64 (f j)) := by simp [krow, h]
theorem krow_set (f : Nat → Int) (i : Nat) (v : Int) : (krow f).setIfInBounds i (.int .i64 v) = krow (upd f i v) := by
  apply Array.ext_getElem?
  intro j
  rw [Array.getElem?_setIfInBounds]
  by_cases hj : j < 13
  · rw [krow_at _ _ hj]
    by_cases e : i = j
    · subst e; rw [if_pos rfl, krow_at _ _ hj, if_pos (by simpa using hj)]; simp [upd]
    · rw [if_neg e, krow_at _ _ hj]; simp [upd, Ne.symm e]
  · simp [krow, hj]; omega
theorem krow_congr {f g : Nat → Int} (h : ∀ j, j < 13 → f j = g j) : krow f = krow g := by
  unfold krow
  congr 1
  apply List.map_congr_left
  intro j hj
  rw [h j (by simpa using hj)]
/-- Block g holds the row f. -/
def KRow (w : World) (g : Nat) (f : Nat → Int) : Prop := w.heap[g]? = some (.cells (krow f) 101 (0, 0))
theorem KRow.lt {w : World} {g : Nat} {f : Nat → Int} (h : KRow w g f) : g < w.heap.size := (Array.getElem?_eq_some_iff.1 h).1
theorem KRow.cell {w : World} {g : Nat} {f : Nat → Int} (h : KRow w g f) (j : Nat) (hj : j < 13) : w.cell? ⟨g, j, none⟩ = some (.int .i64 (f j)) := by
  rw [cell_of_row w g j _ _ _ h, krow_at _ _ hj]
theorem KRow.frozen {w : World} {g : Nat} {f : Nat → Int} (h : KRow w g f) (j : Nat) : w.frozen? ⟨g, j, none⟩ = false := frozen_of_row w g j _ _ h
theorem KRow.set {w : World} {g : Nat} {f : Nat → Int} (h : KRow w g f) (i : Nat) (v : Int) : KRow (w.setCell ⟨g, i, none⟩ (.int .i64 v)) g (upd f i v) := by
  unfold KRow
  rw [heap_setCell_same w g i _ _ _ h, krow_set]
theorem KRow.other {w : World} {g : Nat} {f : Nat → Int} (h : KRow w g f) (a : Addr) (v : Value) (hne : g ≠ a.block) : KRow (w.setCell a v) g f := by
  unfold KRow
  rw [heap_setCell_other w a g v hne]; exact h
theorem KRow.below {w w' : World} {g : Nat} {f : Nat → Int} (h : KRow w g f) (hb : Below w.heap.size w w') : KRow w' g f := (hb.block g h.lt).trans h
theorem KRow.congr {w : World} {g : Nat} {f f' : Nat → Int} (h : KRow w g f) (e : ∀ j, j < 13 → f j = f' j) : KRow w g f' := by
  unfold KRow; rw [← krow_congr e]; exact h
theorem KRow.whole {w : World} {g : Nat} {f : Nat → Int} (h : KRow w g f) (f' : Nat → Int) : KRow (w.setRow g (krow f')) g f' := setRow_heap w g _ _ _ _ h
theorem KRow.made (w : World) (f : Nat → Int) : KRow (w.alloc (.cells (krow f) 101)) w.heap.size f := heap_alloc_new w _
theorem krow_one (f : Nat → Int) : (krow f).all (·.oneCell') = true := by
  rw [Array.all_eq_true]
  intro i hi
  have h := krow_at f i (by simpa using hi)
  rw [Array.getElem?_eq_getElem hi] at h
  rw [Option.some.inj h]; rfl
set_option maxRecDepth 100000 in
theorem und46 : Tryz.prog.underlying 101 = some (.array 13 3) := by kernel_rfl
set_option maxRecDepth 100000 in
theorem inf46 (f : Nat → Int) : (Tryz.prog.info? 101).map (·.size) = some (krow f).size := by rw [krow_size]; kernel_rfl
set_option maxRecDepth 100000 in
theorem post_krow {fn : Func} {R : Ending → World → Prop} {a : Act} {w : World} {g : Nat} {f : Nat → Int} (slot : Tmp) (hres : fn.results = #[.cell slot 101])
    (hp : a.tmps.getD slot undef = .pointer (some ⟨g, 0, none⟩)) (hr : KRow w g f) (hd : a.defers = []) (hR : R (.returned (.agg (krow f))) w) : bodyPost Tryz.prog fn R .ret a w :=
  bodyPost_ret (results_cell_row hres a.tmps w g 101 (krow f) (0, 0) _ hp hr und46 rfl (inf46 f)) hd hR
theorem Pm.cycs_mem {n : Nat} {f : Nat → Nat} (P : Pm n f) {l : List Nat} (h : l ∈ cycs n f n) : 1 ≤ l.length ∧ l.length ≤ n := by
  refine P.lens_mem ?_
  rw [← cycs_lens]
  exact List.mem_map.2 ⟨l, h, rfl⟩
theorem cycs_len_le (n : Nat) (f : Nat → Nat) (k : Nat) : (cycs n f k).length ≤ k := by
  unfold cycs leads; rw [List.length_map]; have := List.length_filter_le (leadB n f) (List.range k); rwa [List.length_range] at this
theorem take_succ_map {ls : List (List Nat)} {k : Nat} {l : List Nat} (h : ls[k]? = some l) : (ls.take (k + 1)).map List.length = (ls.take k).map List.length ++ [l.length] := by
  rw [List.take_add_one, h]; simp

set_option maxRecDepth 100000 in
set_option maxHeartbeats 1000000 in
theorem kindOf_any (n : Nat) (f : Nat → Nat) (v : Value) (w : World) (hn : n ≤ 12) (hv : Sl w v (pl n f)) (P : Pm n f) :
    Calls Tryz.prog 54 #[v] w fun e w' => e = .returned (.agg (krow fun L => ((lens n f).count L : Int))) ∧ Below w.heap.size w w' := by
  have hv2 : Sl ((w.alloc (.cells #[.int .i64 0, .int .i64 0, .int .i64 0, .int .i64 0, .int .i64 0, .int .i64 0, .int .i64 0, .int .i64 0, .int .i64 0, .int .i64 0, .int .i64 0, .int .i64 0, .int .i64 0] 101)).alloc (.cells #[.int .i64 0, .int .i64 0, .int .i64 0, .int .i64 0, .int .i64 0, .int .i64 0, .int .i64 0, .int .i64 0, .int .i64 0, .int .i64 0, .int .i64 0, .int .i64 0, .int .i64 0] 101)) v (pl n f) := (hv.alloc _).alloc _
  have C := fun W (h : Sl W v (pl n f)) => cycles_any n f v W hn h P
  obtain ⟨ls, Hls⟩ : ∃ ls, Hid (cycs n f n = ls) := ⟨_, rfl⟩
  have HB : Hid (∀ l, l ∈ ls → 1 ≤ l.length ∧ l.length ≤ n) := by rw [← Hls.out]; exact fun l h => P.cycs_mem h
  have HE : Hid (ls.map List.length = lens n f) := by rw [← Hls.out]; exact cycs_lens n f
  obtain ⟨r, Hr⟩ : ∃ r, Hid (ls.length = r) := ⟨_, rfl⟩
  have hr12 : r ≤ 12 := by rw [← Hr.out, ← Hls.out]; have := cycs_len_le n f n; omega
  rw [Hls.out] at C
  have hk1 : KRow ((w.alloc (.cells #[.int .i64 0, .int .i64 0, .int .i64 0, .int .i64 0, .int .i64 0, .int .i64 0, .int .i64 0, .int .i64 0, .int .i64 0, .int .i64 0, .int .i64 0, .int .i64 0, .int .i64 0] 101)).alloc (.cells #[.int .i64 0, .int .i64 0, .int .i64 0, .int .i64 0, .int .i64 0, .int .i64 0, .int .i64 0, .int .i64 0, .int .i64 0, .int .i64 0, .int .i64 0, .int .i64 0, .int .i64 0] 101)) w.heap.size (fun _ => 0) := (KRow.made w (fun _ => 0)).below (balloc _ _)
  have hk2 : KRow ((w.alloc (.cells #[.int .i64 0, .int .i64 0, .int .i64 0, .int .i64 0, .int .i64 0, .int .i64 0, .int .i64 0, .int .i64 0, .int .i64 0, .int .i64 0, .int .i64 0, .int .i64 0, .int .i64 0] 101)).alloc (.cells #[.int .i64 0, .int .i64 0, .int .i64 0, .int .i64 0, .int .i64 0, .int .i64 0, .int .i64 0, .int .i64 0, .int .i64 0, .int .i64 0, .int .i64 0, .int .i64 0, .int .i64 0] 101)) (w.heap.size + 1) (fun _ => 0) := by
    have h := KRow.made (w.alloc (.cells #[.int .i64 0, .int .i64 0, .int .i64 0, .int .i64 0, .int .i64 0, .int .i64 0, .int .i64 0, .int .i64 0, .int .i64 0, .int .i64 0, .int .i64 0, .int .i64 0, .int .i64 0] 101)) (fun _ => 0)
    rw [World.size_alloc] at h; exact h
  have hB0 : Below w.heap.size w ((w.alloc (.cells #[.int .i64 0, .int .i64 0, .int .i64 0, .int .i64 0, .int .i64 0, .int .i64 0, .int .i64 0, .int .i64 0, .int .i64 0, .int .i64 0, .int .i64 0, .int .i64 0, .int .i64 0] 101)).alloc (.cells #[.int .i64 0, .int .i64 0, .int .i64 0, .int .i64 0, .int .i64 0, .int .i64 0, .int .i64 0, .int .i64 0, .int .i64 0, .int .i64 0, .int .i64 0, .int .i64 0, .int .i64 0] 101)) := (balloc w _).alloc (by simp) _
  have hs0 : ((w.alloc (.cells #[.int .i64 0, .int .i64 0, .int .i64 0, .int .i64 0, .int .i64 0, .int .i64 0, .int .i64 0, .int .i64 0, .int .i64 0, .int .i64 0, .int .i64 0, .int .i64 0, .int .i64 0] 101)).alloc (.cells #[.int .i64 0, .int .i64 0, .int .i64 0, .int .i64 0, .int .i64 0, .int .i64 0, .int .i64 0, .int .i64 0, .int .i64 0, .int .i64 0, .int .i64 0, .int .i64 0, .int .i64 0] 101)).heap.size = w.heap.size + 2 := by simp
  obtain ⟨a, ca, rfl, _⟩ := id hv
  rw [pl_len] at *
  clear hv P
  go_enter Tryz.func54, Tryz.ntmps54
  go_wp2_with (first
    | (go_at_call 105; refine (C _ hv2).mono ?_; rintro e w1 ⟨x, rfl, hss, hb1⟩; obtain ⟨xa, xc, rfl⟩ := hss.form; rw [Hr.out] at hss ⊢))
  have hs1 := hb1.size
  rw [hs0] at hss
  have hK1 := hk1.below hb1
  have hK2 := hk2.below hb1
  have hB1 : Below w.heap.size w w1 := Below.next hB0 (by rw [hs0] at hb1 ⊢; exact hb1)
  rw [hs0] at hs1
  clear hk1 hk2 hB0 hs0 hb1 C hv2
  go_loopw [9] (fun i wr => ∃ (k : Nat) (q : Nat → Int), i = .int .i64 k ∧ k ≤ r ∧ KRow wr w.heap.size (fun _ => 0) ∧ KRow wr (w.heap.size + 1) q ∧ Hid (∀ L, q L = ((((ls.take k).map List.length).count L : Nat) : Int)) ∧ CycR wr (w.heap.size + 2 + 1) (.slice xa r xc) ls ∧ Below w.heap.size w wr) (fun i _ => (r - intOf i).toNat)
  case atStart => exact ⟨0, _, rfl, by omega, hK1, hK2, (fun L => by simp : ∀ L, _), hss, hB1⟩
  case round =>
    clear hK1 hK2 hB1 hss
    obtain ⟨k, q, rfl, hk, hK1, hK2, HQ, hss, hB⟩ := hrel
    by_cases hlt : k < r
    · have hki : (k : Int) < r := by omega
      have hdec : decide ((k : Int) < r) = true := by simp; omega
      obtain ⟨l, hl⟩ : ∃ l, ls[k]? = some l := ⟨ls[k]'(by have := Hr.out; omega), by simp⟩
      have hlm := HB.out l (List.mem_of_getElem? hl)
      obtain ⟨p, Hp⟩ : ∃ p, Hid (l.length = p) := ⟨_, rfl⟩
      obtain ⟨b, off, u, rfl, hbw, hcu, hsu⟩ := hss.at hl
      obtain ⟨ua, uc, rfl, _⟩ := hsu
      rw [List.length_map, Hp.out] at hcu
      rw [Hp.out] at hlm
      have hp13 : (p : Int) < 13 := by omega
      have hcp := hK2.cell p (by omega)
      have hfp := hK2.frozen p
      have hts := take_succ_map hl
      rw [Hp.out] at hts
      have HTS : Hid ((ls.take (k + 1)).map List.length = (ls.take k).map List.length ++ [p]) := hts
      have hqb : 0 ≤ q p ∧ q p ≤ 12 := by
        rw [HQ.out p]
        have h1 := List.count_le_length (a := p) (l := (ls.take k).map List.length)
        rw [List.length_map, List.length_take] at h1
        omega
      obtain ⟨z, Hz⟩ : ∃ z, Hid (q p = z) := ⟨_, rfl⟩
      rw [Hz.out] at hcp hqb
      clear hts hl
      go_wp2
      go_roundw
      case rel =>
        refine ⟨k + 1, upd q p (z + 1), by go_num, by omega, hK1.other _ _ (by simp), hK2.set p (z + 1), (fun L => ?_ : ∀ L, _), hss.kp (Kp.set _ _ _ _) (by omega), hB.setCell (p := ⟨w.heap.size + 1, p, none⟩) (by simp) _⟩
        rw [HTS.out, List.count_append, List.count_singleton]
        unfold upd
        by_cases e : L = p
        · subst e
          rw [if_pos rfl, ← Hz.out, HQ.out L]
          simp
        · rw [if_neg e, HQ.out L]
          simp [Ne.symm e]
      case measure => simp [intOf]; omega
    · obtain rfl : k = r := by omega
      have hkd : decide ((k : Int) < (k : Int)) = false := by simp
      have hK3 : KRow wr (w.heap.size + 1) (fun L => ((lens n f).count L : Int)) := hK2.congr fun L _ => by
        rw [HQ.out L, List.take_of_length_le (by rw [Hr.out]; exact Nat.le_refl _), HE.out]
      clear hK2
      go_wp2_with (first
        | (refine wpList_load_row rfl 101 _ rfl (w.heap.size + 1) rfl 101 _ (0, 0) _ hK3 und46 rfl (inf46 _) ?_)
        | (refine wpList_store_row rfl 101 _ _ rfl w.heap.size _ rfl rfl 101 _ hK1 (inf46 _) (by simp) (krow_one _) ?_))
      exact post_krow 2 rfl rfl (hK1.whole _) rfl ⟨rfl, bsetRow hB (Nat.le_refl _) _⟩

end Go.Proofs.YtgpkhfpejopacabGreatDoor.Gc
