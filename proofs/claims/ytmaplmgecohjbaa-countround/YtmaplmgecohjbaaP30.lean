/- Rows of 13 numbers; the walks of kindOf, divisor, order, sign. -/
import Derived.Test.YtmaplmgecohjbaaP39
import Derived.Test.YtmaplmgecohjbaaGB
import Derived.Test.YtmaplmgecohjbaaPSign
import Derived.Deep.QuietTactic
import Derived.BigQuiet
namespace Go.Proofs.Ytmaplmgecohjbaa
open Go.RowKit

/-- A row of 13 numbers. -/
def krow (f : Nat → Int) : Array Value := ((List.range 13).map fun j => Value.int .i64 (f j)).toArray
@[simp] theorem krow_size (f : Nat → Int) : (krow f).size = 13 := by simp [krow]
theorem krow_at (f : Nat → Int) (j : Nat) (h : j < 13) : (krow f)[j]? = some (.int .i64 (f j)) := by simp [krow, h]
theorem krow_set (f : Nat → Int) (i : Nat) (v : Int) : (krow f).setIfInBounds i (.int .i64 v) = krow (upd f i v) := by
  apply Array.ext_getElem?
  intro j
  rw [Array.getElem?_setIfInBounds]
  by_cases hj : j < 13
  · rw [krow_at _ _ hj]
    by_cases e : i = j
    · subst e; rw [if_pos rfl, krow_at _ _ hj, if_pos (by simpa using hj)]; simp [upd]
    · rw [if_neg e, krow_at _ _ hj]; simp [upd, Ne.symm e]
  · simp [krow, hj]; omega
theorem krow_congr {f g : Nat → Int} (h : ∀ j, j < 13 → f j = g j) : krow f = krow g := by
  unfold krow
  congr 1
  apply List.map_congr_left
  intro j hj
  rw [h j (by simpa using hj)]
/-- Block g holds the row f. -/
def KRow (w : World) (g : Nat) (f : Nat → Int) : Prop := w.heap[g]? = some (.cells (krow f) 96 (0, 0))
theorem KRow.lt {w : World} {g : Nat} {f : Nat → Int} (h : KRow w g f) : g < w.heap.size := (Array.getElem?_eq_some_iff.1 h).1
theorem KRow.cell {w : World} {g : Nat} {f : Nat → Int} (h : KRow w g f) (j : Nat) (hj : j < 13) : w.cell? ⟨g, j, none⟩ = some (.int .i64 (f j)) := by
  rw [cell_of_row w g j _ _ _ h, krow_at _ _ hj]
theorem KRow.frozen {w : World} {g : Nat} {f : Nat → Int} (h : KRow w g f) (j : Nat) : w.frozen? ⟨g, j, none⟩ = false := frozen_of_row w g j _ _ h
theorem KRow.set {w : World} {g : Nat} {f : Nat → Int} (h : KRow w g f) (i : Nat) (v : Int) : KRow (w.setCell ⟨g, i, none⟩ (.int .i64 v)) g (upd f i v) := by
  unfold KRow
  rw [heap_setCell_same w g i _ _ _ h, krow_set]
theorem KRow.other {w : World} {g : Nat} {f : Nat → Int} (h : KRow w g f) (a : Addr) (v : Value) (hne : g ≠ a.block) : KRow (w.setCell a v) g f := by
  unfold KRow
  rw [heap_setCell_other w a g v hne]; exact h
theorem KRow.below {w w' : World} {g : Nat} {f : Nat → Int} (h : KRow w g f) (hb : Below w.heap.size w w') : KRow w' g f := (hb.block g h.lt).trans h
theorem KRow.congr {w : World} {g : Nat} {f f' : Nat → Int} (h : KRow w g f) (e : ∀ j, j < 13 → f j = f' j) : KRow w g f' := by
  unfold KRow; rw [← krow_congr e]; exact h
theorem KRow.whole {w : World} {g : Nat} {f : Nat → Int} (h : KRow w g f) (f' : Nat → Int) : KRow (w.setRow g (krow f')) g f' := setRow_heap w g _ _ _ _ h
theorem KRow.made (w : World) (f : Nat → Int) : KRow (w.alloc (.cells (krow f) 96)) w.heap.size f := heap_alloc_new w _
theorem krow_one (f : Nat → Int) : (krow f).all (·.oneCell') = true := by
  rw [Array.all_eq_true]
  intro i hi
  have h := krow_at f i (by simpa using hi)
  rw [Array.getElem?_eq_getElem hi] at h
  rw [Option.some.inj h]; rfl
theorem und46 : Try.prog.underlying 96 = some (.array 13 3) := by kernel_rfl
theorem inf46 (f : Nat → Int) : (Try.prog.info? 96).map (·.size) = some (krow f).size := by rw [krow_size]; kernel_rfl
theorem post_krow {fn : Func} {R : Ending → World → Prop} {a : Act} {w : World} {g : Nat} {f : Nat → Int} (slot : Tmp) (hres : fn.results = #[.cell slot 96])
    (hp : a.tmps.getD slot undef = .pointer (some ⟨g, 0, none⟩)) (hr : KRow w g f) (hd : a.defers = []) (hR : R (.returned (.agg (krow f))) w) : bodyPost Try.prog fn R .ret a w :=
  bodyPost_ret (results_cell_row hres a.tmps w g 96 (krow f) (0, 0) _ hp hr und46 rfl (inf46 f)) hd hR
theorem idx46 (f : Nat → Int) (k : Nat) (h : k < 13) (w : World) : (Instr.index 96 (.agg (krow f)) (.int .i64 (k : Int))).run Try.prog w = .ok (.int .i64 (f k)) w := by
  have : k = 0 ∨ k = 1 ∨ k = 2 ∨ k = 3 ∨ k = 4 ∨ k = 5 ∨ k = 6 ∨ k = 7 ∨ k = 8 ∨ k = 9 ∨ k = 10 ∨ k = 11 ∨ k = 12 := by omega
  rcases this with rfl | rfl | rfl | rfl | rfl | rfl | rfl | rfl | rfl | rfl | rfl | rfl | rfl <;> (change _ = _; kernel_rfl)

theorem Pm.cycs_mem {n : Nat} {f : Nat → Nat} (P : Pm n f) {l : List Nat} (h : l ∈ cycs n f n) : 1 ≤ l.length ∧ l.length ≤ n := by
  refine P.lens_mem ?_
  rw [← cycs_lens]
  exact List.mem_map.2 ⟨l, h, rfl⟩
theorem cycs_len_le (n : Nat) (f : Nat → Nat) (k : Nat) : (cycs n f k).length ≤ k := by
  unfold cycs leads; rw [List.length_map]; have := List.length_filter_le (leadB n f) (List.range k); rwa [List.length_range] at this
theorem take_succ_map {ls : List (List Nat)} {k : Nat} {l : List Nat} (h : ls[k]? = some l) : (ls.take (k + 1)).map List.length = (ls.take k).map List.length ++ [l.length] := by
  rw [List.take_add_one, h]; simp

set_option maxRecDepth 100000 in
set_option maxHeartbeats 1000000 in
theorem kindOf_any (n : Nat) (f : Nat → Nat) (v : Value) (w : World) (hn : n ≤ 12) (hv : Sl w v (pl n f)) (P : Pm n f) :
    Calls Try.prog 78 #[v] w fun e w' => e = .returned (.agg (krow fun L => ((lens n f).count L : Int))) ∧ Below w.heap.size w w' := by
  have hv2 : Sl ((w.alloc (.cells #[.int .i64 0, .int .i64 0, .int .i64 0, .int .i64 0, .int .i64 0, .int .i64 0, .int .i64 0, .int .i64 0, .int .i64 0, .int .i64 0, .int .i64 0, .int .i64 0, .int .i64 0] 96)).alloc (.cells #[.int .i64 0, .int .i64 0, .int .i64 0, .int .i64 0, .int .i64 0, .int .i64 0, .int .i64 0, .int .i64 0, .int .i64 0, .int .i64 0, .int .i64 0, .int .i64 0, .int .i64 0] 96)) v (pl n f) := (hv.alloc _).alloc _
  have C := fun W (h : Sl W v (pl n f)) => cycles_any n f v W hn h P
  obtain ⟨ls, Hls⟩ : ∃ ls, Hid (cycs n f n = ls) := ⟨_, rfl⟩
  have HB : Hid (∀ l, l ∈ ls → 1 ≤ l.length ∧ l.length ≤ n) := by rw [← Hls.out]; exact fun l h => P.cycs_mem h
  have HE : Hid (ls.map List.length = lens n f) := by rw [← Hls.out]; exact cycs_lens n f
  obtain ⟨r, Hr⟩ : ∃ r, Hid (ls.length = r) := ⟨_, rfl⟩
  have hr12 : r ≤ 12 := by rw [← Hr.out, ← Hls.out]; have := cycs_len_le n f n; omega
  rw [Hls.out] at C
  have hk1 : KRow ((w.alloc (.cells #[.int .i64 0, .int .i64 0, .int .i64 0, .int .i64 0, .int .i64 0, .int .i64 0, .int .i64 0, .int .i64 0, .int .i64 0, .int .i64 0, .int .i64 0, .int .i64 0, .int .i64 0] 96)).alloc (.cells #[.int .i64 0, .int .i64 0, .int .i64 0, .int .i64 0, .int .i64 0, .int .i64 0, .int .i64 0, .int .i64 0, .int .i64 0, .int .i64 0, .int .i64 0, .int .i64 0, .int .i64 0] 96)) w.heap.size (fun _ => 0) := (KRow.made w (fun _ => 0)).below (balloc _ _)
  have hk2 : KRow ((w.alloc (.cells #[.int .i64 0, .int .i64 0, .int .i64 0, .int .i64 0, .int .i64 0, .int .i64 0, .int .i64 0, .int .i64 0, .int .i64 0, .int .i64 0, .int .i64 0, .int .i64 0, .int .i64 0] 96)).alloc (.cells #[.int .i64 0, .int .i64 0, .int .i64 0, .int .i64 0, .int .i64 0, .int .i64 0, .int .i64 0, .int .i64 0, .int .i64 0, .int .i64 0, .int .i64 0, .int .i64 0, .int .i64 0] 96)) (w.heap.size + 1) (fun _ => 0) := by
    have h := KRow.made (w.alloc (.cells #[.int .i64 0, .int .i64 0, .int .i64 0, .int .i64 0, .int .i64 0, .int .i64 0, .int .i64 0, .int .i64 0, .int .i64 0, .int .i64 0, .int .i64 0, .int .i64 0, .int .i64 0] 96)) (fun _ => 0)
    rw [World.size_alloc] at h; exact h
  have hB0 : Below w.heap.size w ((w.alloc (.cells #[.int .i64 0, .int .i64 0, .int .i64 0, .int .i64 0, .int .i64 0, .int .i64 0, .int .i64 0, .int .i64 0, .int .i64 0, .int .i64 0, .int .i64 0, .int .i64 0, .int .i64 0] 96)).alloc (.cells #[.int .i64 0, .int .i64 0, .int .i64 0, .int .i64 0, .int .i64 0, .int .i64 0, .int .i64 0, .int .i64 0, .int .i64 0, .int .i64 0, .int .i64 0, .int .i64 0, .int .i64 0] 96)) := (balloc w _).alloc (by simp) _
  have hs0 : ((w.alloc (.cells #[.int .i64 0, .int .i64 0, .int .i64 0, .int .i64 0, .int .i64 0, .int .i64 0, .int .i64 0, .int .i64 0, .int .i64 0, .int .i64 0, .int .i64 0, .int .i64 0, .int .i64 0] 96)).alloc (.cells #[.int .i64 0, .int .i64 0, .int .i64 0, .int .i64 0, .int .i64 0, .int .i64 0, .int .i64 0, .int .i64 0, .int .i64 0, .int .i64 0, .int .i64 0, .int .i64 0, .int .i64 0] 96)).heap.size = w.heap.size + 2 := by simp
  obtain ⟨a, ca, rfl, _⟩ := id hv
  rw [pl_len] at *
  clear hv P
  go_enter Try.func78, Try.ntmps78
  go_wp2_with (first
    | (go_at_call 93; refine (C _ hv2).mono ?_; rintro e w1 ⟨x, rfl, hss, hb1⟩; obtain ⟨xa, xc, rfl⟩ := hss.form; rw [Hr.out] at hss ⊢))
  have hs1 := hb1.size
  rw [hs0] at hss
  have hK1 := hk1.below hb1
  have hK2 := hk2.below hb1
  have hB1 : Below w.heap.size w w1 := Below.next hB0 (by rw [hs0] at hb1 ⊢; exact hb1)
  rw [hs0] at hs1
  clear hk1 hk2 hB0 hs0 hb1 C hv2
  go_loopw [9] (fun i wr => ∃ (k : Nat) (q : Nat → Int), i = .int .i64 k ∧ k ≤ r ∧ KRow wr w.heap.size (fun _ => 0) ∧ KRow wr (w.heap.size + 1) q ∧ Hid (∀ L, q L = ((((ls.take k).map List.length).count L : Nat) : Int)) ∧ CycR wr (w.heap.size + 2 + 1) (.slice xa r xc) ls ∧ Below w.heap.size w wr) (fun i _ => (r - intOf i).toNat)
  case atStart => exact ⟨0, _, rfl, by omega, hK1, hK2, (fun L => by simp : ∀ L, _), hss, hB1⟩
  case round =>
    clear hK1 hK2 hB1 hss
    obtain ⟨k, q, rfl, hk, hK1, hK2, HQ, hss, hB⟩ := hrel
    by_cases hlt : k < r
    · have hki : (k : Int) < r := by omega
      have hdec : decide ((k : Int) < r) = true := by simp; omega
      obtain ⟨l, hl⟩ : ∃ l, ls[k]? = some l := ⟨ls[k]'(by have := Hr.out; omega), by simp⟩
      have hlm := HB.out l (List.mem_of_getElem? hl)
      obtain ⟨p, Hp⟩ : ∃ p, Hid (l.length = p) := ⟨_, rfl⟩
      obtain ⟨b, off, u, rfl, hbw, hcu, hsu⟩ := hss.at hl
      obtain ⟨ua, uc, rfl, _⟩ := hsu
      rw [List.length_map, Hp.out] at hcu
      rw [Hp.out] at hlm
      have hp13 : (p : Int) < 13 := by omega
      have hcp := hK2.cell p (by omega)
      have hfp := hK2.frozen p
      have hts := take_succ_map hl
      rw [Hp.out] at hts
      have HTS : Hid ((ls.take (k + 1)).map List.length = (ls.take k).map List.length ++ [p]) := hts
      have hqb : 0 ≤ q p ∧ q p ≤ 12 := by
        rw [HQ.out p]
        have h1 := List.count_le_length (a := p) (l := (ls.take k).map List.length)
        rw [List.length_map, List.length_take] at h1
        omega
      obtain ⟨z, Hz⟩ : ∃ z, Hid (q p = z) := ⟨_, rfl⟩
      rw [Hz.out] at hcp hqb
      clear hts hl
      go_wp2
      go_roundw
      case rel =>
        refine ⟨k + 1, upd q p (z + 1), by go_num, by omega, hK1.other _ _ (by simp), hK2.set p (z + 1), (fun L => ?_ : ∀ L, _), hss.kp (Kp.set _ _ _ _) (by omega), hB.setCell (p := ⟨w.heap.size + 1, p, none⟩) (by simp) _⟩
        rw [HTS.out, List.count_append, List.count_singleton]
        unfold upd
        by_cases e : L = p
        · subst e
          rw [if_pos rfl, ← Hz.out, HQ.out L]
          simp
        · rw [if_neg e, HQ.out L]
          simp [Ne.symm e]
      case measure => simp [intOf]; omega
    · obtain rfl : k = r := by omega
      have hkd : decide ((k : Int) < (k : Int)) = false := by simp
      have hK3 : KRow wr (w.heap.size + 1) (fun L => ((lens n f).count L : Int)) := hK2.congr fun L _ => by
        rw [HQ.out L, List.take_of_length_le (by rw [Hr.out]; exact Nat.le_refl _), HE.out]
      clear hK2
      go_wp2_with (first
        | (refine wpList_load_row rfl 96 _ rfl (w.heap.size + 1) rfl 96 _ (0, 0) _ hK3 und46 rfl (inf46 _) ?_)
        | (refine wpList_store_row rfl 96 _ _ rfl w.heap.size _ rfl rfl 96 _ hK1 (inf46 _) (by simp) (krow_one _) ?_))
      exact post_krow 2 rfl rfl (hK1.whole _) rfl ⟨rfl, bsetRow hB (Nat.le_refl _) _⟩

end Go.Proofs.Ytmaplmgecohjbaa
