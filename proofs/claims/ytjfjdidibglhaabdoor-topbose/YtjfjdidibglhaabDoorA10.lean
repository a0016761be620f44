/- The walk of arrayFact. -/
import Derived.Test.YtjfjdidibglhaabDoorDFa
import Derived.Test.YtjfjdidibglhaabDoorArF
import Derived.Maps.RangeWalk
import Derived.Maps.OwnSet
import Derived.DeepKeys4
import Derived.WideKeyEntry
import Derived.Test.YtjfjdidibglhaabDoorA3
import Derived.Test.YtjfjdidibglhaabDoorArT
/- Rows of 8 numbers; as keys of a map; 'm[k]++' at such a map, whichever is done first: the look-up, or the entry. -/
/- The walks of isLevels, isBelow, Check. -/
namespace Go.Proofs.YtjfjdidibglhaabDoor
open Go.RowKit

theorem isLevels_any (s : Int) (w : World) : Calls Tryd.prog 43 #[.int .i64 s] w fun e w' => e = .returned (.bool (levB s)) ∧ w' = w := by
  unfold levB
  by_cases h : 2 ≤ s
  · have hd : decide (2 ≤ s) = true := decide_eq_true h
    by_cases h2 : s ≤ 64
    · have hd2 : decide (s ≤ 64) = true := decide_eq_true h2
      go_enter Tryd.func43, Tryd.ntmps43
      go_wp2
      go_ret
      simp [hd, hd2]
    · have hd2 : decide (s ≤ 64) = false := decide_eq_false h2
      go_enter Tryd.func43, Tryd.ntmps43
      go_wp2
      go_ret
      simp
  · have hd : decide (2 ≤ s) = false := decide_eq_false h
    go_enter Tryd.func43, Tryd.ntmps43
    go_wp2
    go_ret
    simp
theorem isBelow_any (s x : Int) (w : World) : Calls Tryd.prog 44 #[.int .i64 s, .int .i64 x] w fun e w' => e = .returned (.bool (belB s x)) ∧ w' = w := by
  unfold belB
  by_cases h : 0 ≤ x
  · have hd : decide (0 ≤ x) = true := decide_eq_true h
    by_cases h2 : x < s
    · have hd2 : decide (x < s) = true := decide_eq_true h2
      go_enter Tryd.func44, Tryd.ntmps44
      go_wp2
      go_ret
      simp [hd, hd2]
    · have hd2 : decide (x < s) = false := decide_eq_false h2
      go_enter Tryd.func44, Tryd.ntmps44
      go_wp2
      go_ret
      simp
  · have hd : decide (0 ≤ x) = false := decide_eq_false h
    go_enter Tryd.func44, Tryd.ntmps44
    go_wp2
    go_ret
    simp
theorem Rw.at {w : World} {v : Value} {ls : List (List Int)} (h : Rw w v ls) {i : Nat} {l : List Int} (hi : ls[i]? = some l) {a : Option Addr} {n cap : Nat} (e : v = .slice a n cap) : ∃ b off u, a = some ⟨b, off, none⟩ ∧ w.cell? ⟨b, off + i, none⟩ = some u ∧ Sl w u l := by
  obtain ⟨a', cap', e', hr⟩ := h
  rw [e] at e'
  simp only [Value.slice.injEq] at e'
  obtain ⟨rfl, _, _⟩ := e'
  exact hr i l hi
set_option maxRecDepth 100000 in
set_option maxHeartbeats 16000000 in
theorem ACheck_any (s : Int) (ls : List (List Int)) (v : Value) (w : World) (hv : Rw w v ls) (hl : ls.length ≤ maxLen) (hll : ∀ l ∈ ls, l.length ≤ maxLen) :
    Calls Tryd.prog 21 #[.int .i64 s, v] w fun e w' => e = .returned (.int .i64 (aF s ls : Int)) ∧ w' = w := by
  have CL := isLevels_any s w
  obtain ⟨z, Hz⟩ : ∃ z, Hid (aF s ls = z) := ⟨_, rfl⟩
  rw [Hz.out]
  have HV : Hid (Rw w v ls) := hv
  have HLL : Hid (∀ l ∈ ls, l.length ≤ maxLen) := hll
  obtain ⟨n, Hn⟩ : ∃ n, Hid (ls.length = n) := ⟨_, rfl⟩
  obtain ⟨a, cap, rfl, -⟩ := hv
  rw [Hn.out] at hl ⊢
  have HV : Hid (Rw w (.slice a n cap) ls) := by rw [← Hn.out]; exact HV.out
  unfold maxLen at hl
  clear hll
  by_cases hs : levB s = false
  · obtain rfl : z = 1 := by rw [← Hz.out]; unfold aF; rw [if_pos hs]
    rw [hs] at CL
    go_enter Tryd.func21, Tryd.ntmps21
    go_wp2_with (go_at_call 43; refine CL.mono ?_; rintro e w1 ⟨rfl, h1⟩; replace h1 := h1.symm; subst h1)
    go_ret
    exact ⟨rfl, rfl⟩
  · have hs' : levB s = true := by simpa using hs
    rw [hs'] at CL
    by_cases h0 : n = 0
    · obtain rfl : z = 2 := by rw [← Hz.out]; unfold aF; rw [if_neg hs, if_pos (by rw [Hn.out]; exact h0)]
      subst h0
      go_enter Tryd.func21, Tryd.ntmps21
      go_wp2_with (go_at_call 43; refine CL.mono ?_; rintro e w1 ⟨rfl, h1⟩; replace h1 := h1.symm; subst h1)
      go_ret
      exact ⟨rfl, rfl⟩
    · have e0 : ((n : Int) == 0) = false := by rw [beq_eq_false_iff_ne]; omega
      have e0n : (n == 0) = false := by rw [beq_eq_false_iff_ne]; omega
      by_cases hb : 128 < n
      · obtain rfl : z = 3 := by rw [← Hz.out]; unfold aF; rw [Hn.out, if_neg hs, if_neg h0, if_pos hb]
        have e1 : decide ((128 : Int) < (n : Int)) = true := by simp; omega
        have e1n : decide (128 < n) = true := by simp; omega
        go_enter Tryd.func21, Tryd.ntmps21
        go_wp2_with (go_at_call 43; refine CL.mono ?_; rintro e w1 ⟨rfl, h1⟩; replace h1 := h1.symm; subst h1)
        go_ret
        exact ⟨rfl, rfl⟩
      · obtain ⟨r0, hr0⟩ : ∃ r0, ls[0]? = some r0 := ⟨_, List.getElem?_eq_getElem (by have := Hn.out; omega)⟩
        have hk0 : ls.headD [] = r0 := by cases ls with
          | nil => simp at hr0
          | cons x xs => simpa using hr0
        obtain ⟨b, off, u, rfl, hc0, hS0⟩ := HV.out.at hr0 rfl
        rw [Nat.add_zero] at hc0
        obtain ⟨ua, uc, rfl, -⟩ := id hS0
        have hk9 := HLL.out r0 (List.mem_of_getElem? hr0)
        unfold maxLen at hk9
        have e1 : decide ((128 : Int) < (n : Int)) = false := by simp; omega
        have e1n : decide (128 < n) = false := by simp; omega
        have hip : (0 : Int) < (n : Int) := by omega
        obtain ⟨k, Hk⟩ : ∃ k, Hid (r0.length = k) := ⟨_, rfl⟩
        rw [Hk.out] at hc0 hk9
        by_cases hw : k = 0 ∨ 8 < k
        · obtain rfl : z = 2 := by
            rw [← Hz.out]; unfold aF
            rw [Hn.out, if_neg hs, if_neg h0, if_neg hb, hk0, Hk.out, if_pos hw]
          clear hr0 hS0 hk0
          by_cases hk00 : k = 0
          · subst hk00
            go_enter Tryd.func21, Tryd.ntmps21
            go_wp2_with (go_at_call 43; refine CL.mono ?_; rintro e w1 ⟨rfl, h1⟩; replace h1 := h1.symm; subst h1)
            go_ret
            exact ⟨rfl, rfl⟩
          · have e2 : ((k : Int) == 0) = false := by rw [beq_eq_false_iff_ne]; omega
            have e2n : (k == 0) = false := by rw [beq_eq_false_iff_ne]; omega
            have e3 : decide ((8 : Int) < (k : Int)) = true := by simp; omega
            have e3n : decide (8 < k) = true := by simp; omega
            clear hw
            go_enter Tryd.func21, Tryd.ntmps21
            go_wp2_with (go_at_call 43; refine CL.mono ?_; rintro e w1 ⟨rfl, h1⟩; replace h1 := h1.symm; subst h1)
            go_ret
            exact ⟨rfl, rfl⟩
        · have hz : rsF s k ls = z := by
            rw [← Hz.out]; unfold aF
            rw [Hn.out, if_neg hs, if_neg h0, if_neg hb, hk0, Hk.out, if_neg hw]
          have e2 : ((k : Int) == 0) = false := by rw [beq_eq_false_iff_ne]; omega
          have e2n : (k == 0) = false := by rw [beq_eq_false_iff_ne]; omega
          have e3 : decide ((8 : Int) < (k : Int)) = false := by simp; omega
          have e3n : decide (8 < k) = false := by simp; omega
          have hk8 : k ≤ 8 := by omega
          have HZ1 : Hid (∀ i b, ls[i]? = some b → (∀ m c, m < i → ls[m]? = some c → ruF s k c = 0) → ruF s k b ≠ 0 → z = ruF s k b) := fun i b h1 h2 h3 => by rw [← hz]; exact rsF_at h1 h2 h3
          have HZ0 : Hid ((∀ (m : Nat) (c : List Int), ls[m]? = some c → ruF s k c = 0) → z = 0) := fun h => by rw [← hz]; exact rsF_none h
          have HAT : Hid (∀ i, i < n → ∃ b, ls[i]? = some b) := fun i hi => ⟨_, List.getElem?_eq_getElem (by rw [Hn.out]; exact hi)⟩
          have HLE : Hid (∀ i b, ls[i]? = some b → i < n) := fun i b h => by rw [← Hn.out]; exact (List.getElem?_eq_some_iff.1 h).1
          have HB : Hid (∀ x (W : World), Calls Tryd.prog 44 #[.int .i64 s, .int .i64 x] W fun e w' => e = .returned (.bool (belB s x)) ∧ w' = W) := fun x W => isBelow_any s x W
          have hn128 : n ≤ 128 := by omega
          clear hr0 hS0 hk0 hw hz hs h0 hb Hz
          go_enter Tryd.func21, Tryd.ntmps21
          go_wp2_with (go_at_call 43; refine CL.mono ?_; rintro e w1 ⟨rfl, h1⟩; replace h1 := h1.symm; subst h1; clear CL)
          go_loopw [7, 9, 31, 41] (fun _ _ iv _ wr => ∃ i : Nat, iv = .int .i64 (i : Int) ∧ i ≤ n ∧ Hid (∀ m c, m < i → ls[m]? = some c → ruF s k c = 0) ∧ wr = w) (fun _ _ iv _ _ => (n - intOf iv).toNat)
          case atStart => exact ⟨0, rfl, by omega, (show ∀ m c, m < 0 → _ from fun m c h => by omega), rfl⟩
          case round =>
            obtain ⟨i, rfl, hi, HI, hw⟩ := hrel
            replace hw := hw.symm
            subst hw
            by_cases hlt : i < n
            · have hdi : decide ((i : Int) < (n : Int)) = true := by simp; omega
              have hii : (i : Int) < (n : Int) := by omega
              obtain ⟨r, hri⟩ := HAT.out i hlt
              have HRI : Hid (ls[i]? = some r) := hri
              have hrl := HLL.out r (List.mem_of_getElem? hri)
              unfold maxLen at hrl
              obtain ⟨b', off', x, eb, hci, hSi⟩ := HV.out.at hri rfl
              simp only [Option.some.injEq, Addr.mk.injEq, and_true] at eb
              obtain ⟨rfl, rfl⟩ := eb
              have HSI : Hid (Sl w x r) := hSi
              obtain ⟨xa, xc, rfl, -⟩ := hSi
              obtain ⟨m, Hm⟩ : ∃ m, Hid (r.length = m) := ⟨_, rfl⟩
              rw [Hm.out] at hrl hci
              have HSI : Hid (Sl w (.slice xa m xc) r) := by rw [← Hm.out]; exact HSI.out
              by_cases hmk : m = k
              · subst hmk
                have e4 : ((m : Int) != (m : Int)) = false := by simp
                clear hri
                go_wp2
                go_loopw [9, 41] (fun _ jv wr' => ∃ j : Nat, jv = .int .i64 (j : Int) ∧ j ≤ m ∧ Hid (∀ q, q < j → belB s (r.getD q 0) = true) ∧ wr' = w) (fun _ jv _ => (m - intOf jv).toNat)
                case atStart => exact ⟨0, rfl, by omega, (show ∀ q, q < 0 → _ from fun q h => by omega), rfl⟩
                case round =>
                  obtain ⟨j, rfl, hj, HJ, hw⟩ := hrel
                  replace hw := hw.symm
                  subst hw
                  by_cases hlj : j < m
                  · have hdj : decide ((j : Int) < (m : Int)) = true := by simp; omega
                    have hjj : (j : Int) < (m : Int) := by omega
                    obtain ⟨xb, xo, xc', exa, -, hcj0⟩ := HSI.out.form Hm.out (show 0 < m by omega)
                    simp only [Value.slice.injEq, true_and] at exa
                    obtain ⟨rfl, rfl⟩ := exa
                    have hcj := hcj0 j hlj
                    clear hcj0
                    obtain ⟨y, Hy⟩ : ∃ y, Hid (r.getD j 0 = y) := ⟨_, rfl⟩
                    rw [Hy.out] at hcj
                    have CB := HB.out y w
                    cases hq : belB s y with
                    | true =>
                      rw [hq] at CB
                      have HJ2 : Hid (∀ q, q < j + 1 → belB s (r.getD q 0) = true) := fun q hq' => by
                        by_cases e : q = j
                        · subst e; rw [Hy.out]; exact hq
                        · exact HJ.out q (by omega)
                      clear HJ hq
                      go_wp2_with (go_at_call 44; refine CB.mono ?_; rintro e w1 ⟨rfl, h1⟩; replace h1 := h1.symm; subst h1; clear CB)
                      go_roundw
                      case rel => exact ⟨j + 1, by go_num, by omega, HJ2, by first | rfl | trivial⟩
                      case measure => simp [intOf]; omega
                    | false =>
                      rw [hq] at CB
                      have h1 : ruF s m r = 1 := ruF_out Hm.out hlj (by rw [Hy.out]; exact hq)
                      obtain rfl : z = 1 := by rw [HZ1.out i r HRI.out HI.out (by omega), h1]
                      clear HJ hq h1
                      go_wp2_with (go_at_call 44; refine CB.mono ?_; rintro e w1 ⟨rfl, h1⟩; replace h1 := h1.symm; subst h1; clear CB)
                      go_ret
                      exact ⟨rfl, rfl⟩
                  · have hdj : decide ((j : Int) < (m : Int)) = false := by simp; omega
                    obtain rfl : j = m := by omega
                    have HI2 : Hid (∀ m c, m < i + 1 → ls[m]? = some c → ruF s j c = 0) := fun q c hq hc => by
                      by_cases e : q = i
                      · subst e
                        have := HRI.out.symm.trans hc
                        cases this
                        exact ruF_ok Hm.out HJ.out
                      · exact HI.out q c (by omega) hc
                    clear HI HJ
                    go_wp2
                    go_roundw
                    case rel => exact ⟨i + 1, by go_num, by omega, HI2, by first | rfl | trivial⟩
                    case measure => simp [intOf]; omega
              · have e4 : ((m : Int) != (k : Int)) = true := by simp; omega
                have h2 : ruF s k r = 2 := ruF_len (by rw [Hm.out]; exact hmk)
                obtain rfl : z = 2 := by rw [HZ1.out i r HRI.out HI.out (by omega), h2]
                clear hri h2
                go_wp2
                go_ret
                exact ⟨rfl, rfl⟩
            · have hdi : decide ((i : Int) < (n : Int)) = false := by simp; omega
              obtain rfl : i = n := by omega
              obtain rfl : z = 0 := HZ0.out fun m c hc => HI.out m c (HLE.out m c hc) hc
              go_wp2
              go_ret
              exact ⟨rfl, rfl⟩
end Go.Proofs.YtjfjdidibglhaabDoor

namespace Go.Proofs.YtjfjdidibglhaabDoor
open Go.RowKit Go.Maps Go.ChangeMaps Go.WideElems Go.MapKept

/-- A row of 8 numbers. -/
def erow (f : Nat → Int) : Array Value := ((List.range 8).map fun j => Value.int .i64 (f j)).toArray
@[simp] theorem erow_size (f : Nat → Int) : (erow f).size = 8 := by simp [erow]
theorem erow_at (f : Nat → Int) (j : Nat) (h : j < 8) : (erow f)[j]? = some (.int .i64 (f j)) := by simp [erow, h]
theorem erow_set (f : Nat → Int) (i : Nat) (v : Int) : (erow f).setIfInBounds i (.int .i64 v) = erow (upd f i v) := by
  apply Array.ext_getElem?
  intro j
  rw [Array.getElem?_setIfInBounds]
  by_cases hj : j < 8
  · rw [erow_at _ _ hj]
    by_cases e : i = j
    · subst e; rw [if_pos rfl, erow_at _ _ hj, if_pos (by simpa using hj)]; simp [upd]
    · rw [if_neg e, erow_at _ _ hj]; simp [upd, Ne.symm e]
  · simp [erow, hj]; omega
theorem erow_congr {f g : Nat → Int} (h : ∀ j, j < 8 → f j = g j) : erow f = erow g := by
  unfold erow
  congr 1
  apply List.map_congr_left
  intro j hj
  rw [h j (by simpa using hj)]
theorem erow_inj {f g : Nat → Int} (h : erow f = erow g) {j : Nat} (hj : j < 8) : f j = g j := by
  have h1 := erow_at f j hj
  rw [h, erow_at g j hj] at h1
  simpa using h1.symm
/-- Block g holds the row f, laid as type T. -/
def ERow (T : Nat) (w : World) (g : Nat) (f : Nat → Int) : Prop := w.heap[g]? = some (.cells (erow f) T (0, 0))
theorem ERow.lt {T : Nat} {w : World} {g : Nat} {f : Nat → Int} (h : ERow T w g f) : g < w.heap.size := (Array.getElem?_eq_some_iff.1 h).1
theorem ERow.cell {T : Nat} {w : World} {g : Nat} {f : Nat → Int} (h : ERow T w g f) (j : Nat) (hj : j < 8) : w.cell? ⟨g, j, none⟩ = some (.int .i64 (f j)) := by
  rw [cell_of_row w g j _ _ _ h, erow_at _ _ hj]
theorem ERow.frozen {T : Nat} {w : World} {g : Nat} {f : Nat → Int} (h : ERow T w g f) (j : Nat) : w.frozen? ⟨g, j, none⟩ = false := frozen_of_row w g j _ _ h
theorem ERow.set {T : Nat} {w : World} {g : Nat} {f : Nat → Int} (h : ERow T w g f) (i : Nat) (v : Int) : ERow T (w.setCell ⟨g, i, none⟩ (.int .i64 v)) g (upd f i v) := by
  unfold ERow
  rw [heap_setCell_same w g i _ _ _ h, erow_set]
theorem ERow.other {T : Nat} {w : World} {g : Nat} {f : Nat → Int} (h : ERow T w g f) (a : Addr) (v : Value) (hne : g ≠ a.block) : ERow T (w.setCell a v) g f := by
  unfold ERow
  rw [heap_setCell_other w a g v hne]; exact h
theorem ERow.below {T : Nat} {w w' : World} {g : Nat} {f : Nat → Int} (h : ERow T w g f) (hb : Below w.heap.size w w') : ERow T w' g f := (hb.block g h.lt).trans h
theorem ERow.congr {T : Nat} {w : World} {g : Nat} {f f' : Nat → Int} (h : ERow T w g f) (e : ∀ j, j < 8 → f j = f' j) : ERow T w g f' := by
  unfold ERow; rw [← erow_congr e]; exact h
theorem ERow.whole {T : Nat} {w : World} {g : Nat} {f : Nat → Int} (h : ERow T w g f) (f' : Nat → Int) : ERow T (w.setRow g (erow f')) g f' := setRow_heap w g _ _ _ _ h
theorem ERow.made (T : Nat) (w : World) (f : Nat → Int) : ERow T (w.alloc (.cells (erow f) T)) w.heap.size f := heap_alloc_new w _
theorem ERow.alloc {T : Nat} {w : World} {g : Nat} {f : Nat → Int} (h : ERow T w g f) (o : Obj) : ERow T (w.alloc o) g f := h.below (balloc _ _)
theorem bsetRw {B g : Nat} {w0 w : World} (hb : Below B w0 w) (hBg : B ≤ g) (cs : Array Value) : Below B w0 (w.setRow g cs) :=
  ⟨hb.os, hb.tape, hb.output, by simpa using hb.size, fun k hk => (setRow_other w g k cs (by omega)).trans (hb.block k hk)⟩
theorem erow_one (f : Nat → Int) : (erow f).all (·.oneCell') = true := by
  rw [Array.all_eq_true]
  intro i hi
  have h := erow_at f i (by simpa using hi)
  rw [Array.getElem?_eq_getElem hi] at h
  rw [Option.some.inj h]; rfl
/-- The row of noughts, as it is laid at first. -/
theorem erow_zero : (#[.int .i64 0, .int .i64 0, .int .i64 0, .int .i64 0, .int .i64 0, .int .i64 0, .int .i64 0, .int .i64 0] : Array Value) = erow fun _ => 0 := rfl
theorem ERow.made0 (T : Nat) (w : World) : ERow T (w.alloc (.cells #[.int .i64 0, .int .i64 0, .int .i64 0, .int .i64 0, .int .i64 0, .int .i64 0, .int .i64 0, .int .i64 0] T)) w.heap.size (fun _ => 0) := by rw [erow_zero]; exact ERow.made T w _
theorem und61 : Tryd.prog.underlying 127 = some (.array 8 3) := by kernel_rfl
theorem inf61 (f : Nat → Int) : (Tryd.prog.info? 127).map (·.size) = some (erow f).size := by rw [erow_size]; kernel_rfl
theorem post_erow {fn : Func} {R : Ending → World → Prop} {a : Act} {w : World} {g : Nat} {f : Nat → Int} (slot : Tmp) (hres : fn.results = #[.cell slot 127])
    (hp : a.tmps.getD slot undef = .pointer (some ⟨g, 0, none⟩)) (hr : ERow 127 w g f) (hd : a.defers = []) (hR : R (.returned (.agg (erow f))) w) : bodyPost Tryd.prog fn R .ret a w :=
  bodyPost_ret (results_cell_row hres a.tmps w g 127 (erow f) (0, 0) _ hp hr und61 rfl (inf61 f)) hd hR
theorem undE : Tryd.prog.underlying 125 = some (.map 127 3) := by kernel_rfl
theorem laidOutG : laidOutB Tryd.prog = true := by kernel_rfl
theorem keyLawE : Go.WideMaps.KeyLaw Tryd.prog 127 := deep_law_laid laidOutG (m := 2) (by omega) (of_decide_eq_true (by kernel_rfl)) (by kernel_rfl) (by rw [und61])
theorem keyedE : Keyed Tryd.prog 127 := Keyed.of_law keyLawE
theorem cells61 : Tryd.prog.cellsOf 127 = 8 := by kernel_rfl
theorem cells3' : Tryd.prog.cellsOf 3 = 1 := by kernel_rfl
theorem keyType61 : Tryd.prog.keyType 127 = true := by kernel_rfl
theorem types_pos : ∃ m, Tryd.prog.types.size = m + 1 := by
  have h : decide (0 < Tryd.prog.types.size) = true := by kernel_rfl
  have := of_decide_eq_true h
  exact ⟨Tryd.prog.types.size - 1, by omega⟩
theorem key_erow (f : Nat → Int) (hf : ∀ j, j < 8 → (Lit.int .i64 (f j)).wf = true) : ∃ kl, keyOf Tryd.prog 127 (.agg (erow f)) = some kl := by
  unfold keyOf
  rw [und61]
  have hfm : (Value.agg (erow f)).formed Tryd.prog 127 = true := by simp [Value.formed, cells61]
  simp only [keyType61, hfm, Bool.and_self, if_true]
  have h3 : ∀ (d : Nat) (n : Int), (Lit.int .i64 n).wf = true → Tryd.prog.keyLits (d + 1) 3 [.int .i64 n] = some [.int .i64 n] := by
    intro d n hn
    unfold Program.keyLits
    rw [und3]
    simp [hn]
  have hl : (Value.agg (erow f)).cells.toList = (List.range 8).map fun j => Value.int .i64 (f j) := by simp [Value.cells, erow]
  rw [hl]
  have hmain : ∀ m, Tryd.prog.keyLits (m + 1 + 1) 127 ((List.range 8).map fun j => Value.int .i64 (f j)) = some ((List.range 8).map fun j => Lit.int .i64 (f j)) := by
    intro m
    unfold Program.keyLits
    rw [und61]
    simp only [cells61, cells3', List.length_map, List.length_range, if_true]
    simp [List.range_succ, h3 _ _ (hf 0 (by omega)), h3 _ _ (hf 1 (by omega)), h3 _ _ (hf 2 (by omega)), h3 _ _ (hf 3 (by omega)), h3 _ _ (hf 4 (by omega)), h3 _ _ (hf 5 (by omega)), h3 _ _ (hf 6 (by omega)), h3 _ _ (hf 7 (by omega))]
  obtain ⟨m, hm⟩ := types_pos
  rw [hm, hmain m]
  exact ⟨_, rfl⟩
/-- Eight small numbers as a value, and as a key. -/
def eV (x : List Int) : Value := .agg (erow fun j => x.getD j 0)
def EOk (x : List Int) : Prop := x.length = 8 ∧ ∀ i, i < 8 → 0 ≤ x.getD i 0 ∧ x.getD i 0 < 64
theorem eV_inj {x y : List Int} (hx : x.length = 8) (hy : y.length = 8) (h : eV x = eV y) : x = y := by
  unfold eV at h
  simp only [Value.agg.injEq] at h
  refine List.ext_getElem (by omega) fun j h1 h2 => ?_
  have := erow_inj h (j := j) (by omega)
  rw [List.getD_eq_getElem?_getD, List.getD_eq_getElem?_getD, List.getElem?_eq_getElem h1, List.getElem?_eq_getElem h2] at this
  exact this
noncomputable def eK (x : List Int) : Lit := @Classical.epsilon Lit ⟨.bool false⟩ fun kl => keyOf Tryd.prog 127 (eV x) = some kl
theorem eK_of {x : List Int} (h : EOk x) : keyOf Tryd.prog 127 (eV x) = some (eK x) :=
  @Classical.epsilon_spec_aux Lit ⟨.bool false⟩ (fun kl => keyOf Tryd.prog 127 (eV x) = some kl) (key_erow _ fun j hj => WalkArith.wf_i64 (by have := h.2 j hj; omega))
theorem eK_lit {x : List Int} (h : EOk x) : WideAt.IsKeyLit (eK x) := keyedE.key (eK_of h)
theorem eK_inj {x y : List Int} (hx : EOk x) (hy : EOk y) (e : eK x = eK y) : x = y :=
  eV_inj hx.1 hy.1 (keyedE.inj (eK_of hx) (by rw [e]; exact eK_of hy))
/-- What a map reads as: each stands there as often. -/
def EntIs (D : DataW Unit) (T : List Int → Int) : Prop := ∀ c, EOk c → D.atKey (eK c) (.lit (.int .i64 0)) = .lit (.int .i64 (T c))
theorem EntIs.empty : EntIs (.map []) (fun _ => 0) := fun c _ => by simp [DataW.atKey]
theorem EntIs.look {D : DataW Unit} {T : List Int → Int} (h : EntIs D T) {c : List Int} (hc : EOk c) {x : Int} (hat : D.atKey (eK c) (.lit (.int .i64 0)) = .lit (.int .i64 x)) : x = T c := by
  rw [h c hc] at hat
  simp only [DataW.lit.injEq, Lit.int.injEq, true_and] at hat
  exact hat.symm
theorem EntIs.put {D : DataW Unit} {T T' : List Int → Int} (h : EntIs D T) (hD : IsMap D) {c : List Int} (hc : EOk c) {x : Int} (h1 : T' c = x) (h2 : ∀ d, d ≠ c → T' d = T d) : EntIs (D.put (eK c) (.lit (.int .i64 x))) T' := fun d hd => by
  by_cases e : d = c
  · subst e
    rw [atKey_put_same hD (eK_lit hc), h1]
  · rw [atKey_put_other (fun e1 => e (eK_inj hd hc e1)), h d hd, h2 d e]

theorem zero3' (u : World) : (zeroValue 3).run Tryd.prog u = .ok (.int .i64 0) u := by kernel_rfl
theorem entry_any {w : World} {b n : Nat} {D : DataW Unit} (hown : w.ownsMap Tryd.prog 127 (plainElem Tryd.prog 3) b n D) (hn : n < maxLen) {key : Value} {kl : Lit} (hkey : keyOf Tryd.prog 127 key = some kl) :
    ∃ (c : Int) (v0 : Value) (st : Nat) (w1 : World), D.atKey kl (.lit (.int .i64 0)) = .lit (.int .i64 c) ∧ (Instr.lookup 125 (.map (some b)) key false).run Tryd.prog w = .ok (.int .i64 c) w ∧
      (Instr.mapEntry 125 (.map (some b)) key).run Tryd.prog w = .ok (.tuple #[v0, goInt st]) w1 ∧ (Instr.lookup 125 (.map (some b)) key false).run Tryd.prog w1 = .ok (.int .i64 c) w1 ∧ w.grownBy w1 (some b) ∧ w1.heap.size = w.heap.size ∧
      ∀ val : Int, (Lit.int .i64 val).wf = true → ∃ w2, (Instr.entryStore 125 (.map (some b)) (goInt st) (.int .i64 val)).run Tryd.prog w1 = .ok () w2 ∧ w2.ownsMap Tryd.prog 127 (plainElem Tryd.prog 3) b (n + 1) (D.put kl (.lit (.int .i64 val))) ∧ w.grownBy w2 (some b) ∧ w2.heap.size = w.heap.size := by
  obtain ⟨c, hlook, hat, hwc⟩ := hown.lookup_int keyedE undE und3 (zero3' w) hkey
  obtain ⟨es, clock, hb, F, hs, hD⟩ := id hown
  obtain ⟨v0, st, es1, clock1, hrun, _, hst⟩ := entry_then_store keyLawE undE zero3' hb F hkey
  have hgrow : ∀ o, w.grownBy (setBlock w b o) (some b) := fun o => ⟨rfl, rfl, rfl, by simp [setBlock], fun i _ hi => heap_setBlock_other hb _ (fun e => hi (by rw [e]))⟩
  have hsame := heap_setBlock_same hb (.map es1 clock1)
  -- the look-up behind the entry
  have hlook2 : (Instr.lookup 125 (.map (some b)) key false).run Tryd.prog (setBlock w b (.map es1 clock1)) = .ok (.int .i64 c) (setBlock w b (.map es1 clock1)) := by
    rcases keyLawE.find w hkey es.toList F.keys with ⟨h1, h2⟩ | ⟨j, e0, h1, h2, h3⟩
    · have hr : (Instr.mapEntry 125 (.map (some b)) key).run Tryd.prog w = .ok (.tuple #[.int .i64 0, goInt clock]) (setBlock w b (.map (es.push ⟨key, .int .i64 0, clock⟩) (clock + 1))) := by
        simp [Instr.mapEntry, run_underlying undE, MapKept.run_getObj_map hb, keyLawE.check w false hkey, h1, MapKept.run_setObj_map _ hb, Result.andThen, setBlock]
      have hu : (Instr.mapUpdate 125 (.map (some b)) key (.int .i64 0)).run Tryd.prog w = .ok () (setBlock w b (.map (es.push ⟨key, .int .i64 0, clock⟩) (clock + 1))) := by
        simp [Instr.mapUpdate, run_underlying undE, MapKept.run_getObj_map hb, keyLawE.check w false hkey, h1, MapKept.run_setObj_map _ hb, Result.andThen, setBlock]
      rw [hrun] at hr
      have ew := (Result.ok.inj hr).2
      rw [ew]
      obtain ⟨w', hu', hown', _⟩ := hown.update keyedE undE hn hkey (plainElem_int (H := Unit) und3 (a := 0) (by decide))
      rw [hu] at hu'
      have ew' := (Result.ok.inj hu').2
      rw [← ew'] at hown'
      obtain ⟨c', hl', hat', _⟩ := hown'.lookup_int keyedE undE und3 (zero3' _) hkey
      rw [atKey_put_same hown.isMap (keyedE.key hkey)] at hat'
      have hc' : c' = 0 := by
        simp only [DataW.lit.injEq, Lit.int.injEq, true_and] at hat'
        exact hat'.symm
      have hc0 : c = 0 := by
        rcases Maps.fit_look false keyedE undE (zero3' w) hb F hkey with ⟨hl0, _, _⟩ | ⟨e0, y, he, hk, _⟩
        · rw [hlook] at hl0
          have := (Result.ok.inj hl0).1
          simpa using this
        · exact absurd hk (h2 e0 he)
      rw [hl', hc', hc0]
    · have hj : es[j]? = some e0 := by simpa using h2
      have hsm : es.modify j (fun e => { e with key := key }) = es := by
        apply Array.ext'
        rw [Array.toList_modify, modify_eq_set _ _ _ _ h2]
        have : ({ e0 with key := key } : MapEntry) = e0 := by rw [← h3]
        rw [this]
        exact set_self _ _ _ h2
      have hr : (Instr.mapEntry 125 (.map (some b)) key).run Tryd.prog w = .ok (.tuple #[e0.val, goInt e0.born]) (setBlock w b (.map es clock)) := by
        simp [Instr.mapEntry, run_underlying undE, MapKept.run_getObj_map hb, keyLawE.check w false hkey, h1, hj, h3, keyLawE.stays w hkey, hsm, MapKept.run_setObj_map _ hb, Result.andThen, setBlock]
      rw [hrun] at hr
      have ew := (Result.ok.inj hr).2
      rw [ew]
      have hown' : (setBlock w b (.map es clock)).ownsMap Tryd.prog 127 (plainElem Tryd.prog 3) b n D := ⟨es, clock, heap_setBlock_same hb _, F, hs, hD⟩
      obtain ⟨c', hl', hat', _⟩ := hown'.lookup_int keyedE undE und3 (zero3' _) hkey
      rw [hat] at hat'
      have hc' : c = c' := by
        simp only [DataW.lit.injEq, Lit.int.injEq, true_and] at hat'
        exact hat'
      rw [hl', hc']
  refine ⟨c, v0, st, _, hat, hlook, hrun, hlook2, hgrow _, by simp [setBlock], fun val hval => ?_⟩
  obtain ⟨es', clock', hr1, hr2⟩ := hst _ (.int .i64 val) hsame
  obtain ⟨w', hu', hown', _⟩ := hown.update keyedE undE hn hkey (plainElem_int (H := Unit) und3 hval)
  rw [hr2] at hu'
  have ew' := (Result.ok.inj hu').2
  rw [← ew'] at hown'
  have hss : setBlock (setBlock w b (.map es1 clock1)) b (.map es' clock') = setBlock w b (.map es' clock') := by simp [setBlock]
  rw [hss] at hr1
  exact ⟨_, hr1, hown', hgrow _, by simp [setBlock]⟩

end Go.Proofs.YtjfjdidibglhaabDoor

/- The walk of noneAbove. -/
/- The walk of what a run has in some columns. -/
namespace Go.Proofs.YtjfjdidibglhaabDoor
open Go.RowKit Go.Maps

/-- What a run has in some columns, and 0 elsewhere. -/
def enG (c : Nat) (l : List Int) (m i : Nat) : Int := if i < m ∧ c.testBit i = true then l.getD i 0 else 0
def enF (c : Nat) (l : List Int) : List Int := (List.range 8).map fun i => if c.testBit i = true then l.getD i 0 else 0
theorem enF_at (c : Nat) (l : List Int) {i : Nat} (hi : i < 8) : (enF c l).getD i 0 = if c.testBit i = true then l.getD i 0 else 0 := by
  unfold enF
  rw [List.getD_eq_getElem?_getD, List.getElem?_map, List.getElem?_range hi]
  rfl
theorem enF_row (c : Nat) (l : List Int) : eV (enF c l) = .agg (erow (enG c l l.length)) := by
  unfold eV
  congr 1
  refine erow_congr fun i hi => ?_
  rw [enF_at c l hi]
  unfold enG
  by_cases h : i < l.length
  · by_cases hb : c.testBit i = true
    · rw [if_pos hb, if_pos ⟨h, hb⟩]
    · rw [if_neg hb, if_neg fun k => hb k.2]
  · have e2 : (if i < l.length ∧ c.testBit i = true then l.getD i 0 else 0) = 0 := if_neg fun k => h k.1
    rw [e2, List.getD_eq_getElem?_getD, List.getElem?_eq_none (by omega)]
    split <;> rfl
theorem en_in (c : Nat) (l : List Int) {m i : Nat} (h : i < m) : enG c l m i = if c.testBit i = true then l.getD i 0 else 0 := by
  unfold enG
  by_cases hb : c.testBit i = true
  · rw [if_pos hb, if_pos ⟨h, hb⟩]
  · rw [if_neg hb, if_neg fun k => hb k.2]
theorem en_out (c : Nat) (l : List Int) {m i : Nat} (h : m ≤ i) : enG c l m i = 0 := if_neg fun k => by omega
theorem en_yes {c : Nat} (l : List Int) {j : Nat} (hj : c.testBit j = true) (i : Nat) : upd (enG c l j) j (l.getD j 0) i = enG c l (j + 1) i := by
  show (if i = j then l.getD j 0 else enG c l j i) = _
  by_cases e : i = j
  · subst e; rw [if_pos rfl, en_in c l (by omega), if_pos hj]
  · rw [if_neg e]
    rcases (show i < j ∨ j < i by omega) with k | k
    · rw [en_in c l k, en_in c l (by omega)]
    · rw [en_out c l (by omega), en_out c l (by omega)]
theorem en_no {c : Nat} (l : List Int) {j : Nat} (hj : c.testBit j = false) (i : Nat) : enG c l j i = enG c l (j + 1) i := by
  rcases (show i < j ∨ i = j ∨ j < i by omega) with k | k | k
  · rw [en_in c l k, en_in c l (by omega)]
  · subst k; rw [en_out c l (Nat.le_refl _), en_in c l (by omega), hj]; rfl
  · rw [en_out c l (by omega), en_out c l (by omega)]
theorem and64 {a b : Nat} (ha : a < 2 ^ 64) (hb : b < 2 ^ 64) : bits .and .u64 (a : Int) (b : Int) = ((a &&& b : Nat) : Int) := bits_and_u64_nat a b ha hb
theorem col_bit {x : Nat} (hx : x < 2 ^ 64) (b : Nat) : (bits .and .u64 ((x : Int) / 2 ^ b) 1 == 1) = x.testBit b := by
  have h1 : x / 2 ^ b < 2 ^ 64 := Nat.lt_of_le_of_lt (Nat.div_le_self _ _) hx
  have h0 : (x : Int) / 2 ^ b = ((x / 2 ^ b : Nat) : Int) := by simp
  rw [h0, show (1 : Int) = ((1 : Nat) : Int) from rfl, and64 h1 (by decide), Nat.and_one_is_mod]
  unfold Nat.testBit
  rw [Nat.one_and_eq_mod_two, Nat.shiftRight_eq_div_pow]
  have := Nat.mod_two_eq_zero_or_one (x / 2 ^ b)
  rcases this with e | e <;> rw [e] <;> rfl
theorem two_rows (w : World) : ERow 127 ((w.alloc (.cells #[.int .i64 0, .int .i64 0, .int .i64 0, .int .i64 0, .int .i64 0, .int .i64 0, .int .i64 0, .int .i64 0] 127)).alloc (.cells #[.int .i64 0, .int .i64 0, .int .i64 0, .int .i64 0, .int .i64 0, .int .i64 0, .int .i64 0, .int .i64 0] 127)) w.heap.size (fun _ => 0) ∧
    ERow 127 ((w.alloc (.cells #[.int .i64 0, .int .i64 0, .int .i64 0, .int .i64 0, .int .i64 0, .int .i64 0, .int .i64 0, .int .i64 0] 127)).alloc (.cells #[.int .i64 0, .int .i64 0, .int .i64 0, .int .i64 0, .int .i64 0, .int .i64 0, .int .i64 0, .int .i64 0] 127)) (w.heap.size + 1) (fun _ => 0) :=
  ⟨(ERow.made0 127 w).alloc _, by have := ERow.made0 127 (w.alloc (.cells #[.int .i64 0, .int .i64 0, .int .i64 0, .int .i64 0, .int .i64 0, .int .i64 0, .int .i64 0, .int .i64 0] 127)); simpa using this⟩
set_option maxRecDepth 100000 in
set_option maxHeartbeats 8000000 in
theorem of_any (c : Nat) (l : List Int) (v : Value) (w : World) (hc : c < 2 ^ 64) (hv : Sl w v l) (hl : l.length ≤ 8) :
    Calls Tryd.prog 86 #[.int .u64 (c : Int), v] w fun e w' => e = .returned (eV (enF c l)) ∧ Below w.heap.size w w' := by
  rw [enF_row c l]
  obtain ⟨h1, h2⟩ := two_rows w
  have hb0 : Below w.heap.size w ((w.alloc (.cells #[.int .i64 0, .int .i64 0, .int .i64 0, .int .i64 0, .int .i64 0, .int .i64 0, .int .i64 0, .int .i64 0] 127)).alloc (.cells #[.int .i64 0, .int .i64 0, .int .i64 0, .int .i64 0, .int .i64 0, .int .i64 0, .int .i64 0, .int .i64 0] 127)) := Below.next (balloc _ _) (balloc _ _)
  obtain ⟨m, Hm⟩ : ∃ m, Hid (l.length = m) := ⟨_, rfl⟩
  have HV : Hid (∀ W, Below w.heap.size w W → Sl W v l) := fun W b => hv.below b
  obtain ⟨a, cap, rfl, -⟩ := hv
  rw [Hm.out] at hl HV ⊢
  have HBIT : Hid (∀ j, (bits .and .u64 ((c : Int) / 2 ^ j) 1 == 1) = c.testBit j) := fun j => col_bit hc j
  obtain ⟨F, HF⟩ : ∃ F : Nat → Nat → Int, Hid (enG c l = F) := ⟨_, rfl⟩
  rw [HF.out]
  have H0 : Hid (∀ i, (0 : Int) = F 0 i) := fun i => by rw [← HF.out]; unfold enG; rw [if_neg (by omega)]
  have HY : Hid (∀ j, c.testBit j = true → ∀ i, upd (F j) j (l.getD j 0) i = F (j + 1) i) := fun j hj i => by rw [← HF.out]; exact en_yes l hj i
  have HNO : Hid (∀ j, c.testBit j = false → ∀ i, F j i = F (j + 1) i) := fun j hj i => by rw [← HF.out]; exact en_no l hj i
  clear hc
  go_enter Tryd.func86, Tryd.ntmps86
  go_wp2
  go_loopw [6, 7, 10] (fun _ _ iv wr => ∃ j : Nat, iv = .int .i64 (j : Int) ∧ j ≤ m ∧ ERow 127 wr (w.heap.size + 1) (F j) ∧ ERow 127 wr w.heap.size (fun _ => 0) ∧ Below w.heap.size w wr) (fun _ _ iv _ => (m - intOf iv).toNat)
  case atStart => exact ⟨0, rfl, by omega, h2.congr fun i _ => H0.out i, h1, hb0⟩
  case round =>
    clear h1 h2 hb0
    obtain ⟨j, rfl, hj, h2, h1, hB⟩ := hrel
    by_cases hlt : j < m
    · have hdj : decide ((j : Int) < (m : Int)) = true := by simp; omega
      have hjj : (j : Int) < (m : Int) := by omega
      obtain ⟨xb, xo, xc', exa, -, hcj0⟩ := (HV.out _ hB).form Hm.out (show 0 < m by omega)
      simp only [Value.slice.injEq, true_and] at exa
      obtain ⟨rfl, rfl⟩ := exa
      have hcj := hcj0 j hlt
      clear hcj0
      obtain ⟨y, Hy⟩ : ∃ y, Hid (l.getD j 0 = y) := ⟨_, rfl⟩
      rw [Hy.out] at hcj
      have hbit := HBIT.out j
      have hj8 : (j : Int) < 8 := by omega
      cases hq : c.testBit j with
      | true =>
        rw [hq] at hbit
        have hc2 := h2.cell j (by omega)
        have hfz := h2.frozen j
        have HF2 : Hid (∀ i, upd (F j) j y i = F (j + 1) i) := fun i => by rw [← Hy.out]; exact HY.out j hq i
        go_wp2
        go_roundw
        case rel => exact ⟨j + 1, by go_num, by omega, (h2.set j y).congr fun i _ => HF2.out i, h1.other _ _ (by simp), hB.setCell (by show w.heap.size ≤ w.heap.size + 1; omega) _⟩
        case measure => simp [intOf]; omega
      | false =>
        rw [hq] at hbit
        have HF2 : Hid (∀ i, F j i = F (j + 1) i) := fun i => HNO.out j hq i
        go_wp2
        go_roundw
        case rel => exact ⟨j + 1, by go_num, by omega, h2.congr fun i _ => HF2.out i, h1, hB⟩
        case measure => simp [intOf]; omega
    · have hdj : decide ((j : Int) < (m : Int)) = false := by simp; omega
      obtain rfl : j = m := by omega
      go_wp2_with (first
        | (refine wpList_load_row rfl 127 _ rfl (w.heap.size + 1) rfl 127 _ (0, 0) _ h2 und61 rfl (inf61 _) ?_)
        | (refine wpList_store_row rfl 127 _ _ rfl w.heap.size (erow (F j)) rfl rfl 127 _ h1 (inf61 _) (by simp) (erow_one _) ?_))
      exact post_erow 4 rfl rfl (h1.whole (F j)) rfl ⟨rfl, bsetRw hB (Nat.le_refl _) _⟩
end Go.Proofs.YtjfjdidibglhaabDoor

namespace Go.Proofs.YtjfjdidibglhaabDoor
open Go.RowKit Go.Maps Go.ChangeMaps Go.WideElems Go.MapKept

/-- A row of eight as cells. -/
def evL (x : List Int) : List Value := (List.range 8).map fun j => Value.int .i64 (x.getD j 0)
theorem evL_len (x : List Int) : (evL x).length = 8 := by simp [evL]
theorem eV_eq (x : List Int) : eV x = .agg (evL x).toArray := rfl
theorem inf61L (x : List Int) : (Tryd.prog.info? 127).map (·.size) = some (evL x).length := by rw [evL_len]; kernel_rfl
theorem grown_of_below {w w' : World} (h : Below w.heap.size w w') : w.grownBy w' none := ⟨h.os, h.tape, h.output, h.size, fun j hj _ => h.block j hj⟩
theorem ent_below {w w' : World} {B n : Nat} {D : DataW Unit} (h : w.ownsMap Tryd.prog 127 (plainElem Tryd.prog 3) B n D) (hb : Below w.heap.size w w') : w'.ownsMap Tryd.prog 127 (plainElem Tryd.prog 3) B n D := h.kept (grown_of_below hb) (by simp)
theorem range_blk {w w' : World} {b o : Nat} {cs : List Value} (h : w.rangeAt b o cs) (e : w'.heap[b]? = w.heap[b]?) : w'.rangeAt b o cs := fun j v hv => (World.cell?_of_block (w := w) (w' := w') (a := ⟨b, o + j, none⟩) e).trans (h j v hv)
/-- How often each has come. -/
def cntE (c : Nat) (ls : List (List Int)) (i : Nat) (x : List Int) : Int := (((ls.take i).map (enF c)).count x : Nat)
/-- Does none stand there more often? -/
def naB (c e : Nat) (ls : List (List Int)) : Bool := ls.all fun l => decide ((ls.map (enF c)).count (enF c l) ≤ e)
theorem cnt_same {c i : Nat} {ls : List (List Int)} {l : List Int} (h : ls[i]? = some l) : cntE c ls (i + 1) (enF c l) = cntE c ls i (enF c l) + 1 := by
  unfold cntE
  rw [List.take_add_one, h, List.map_append, List.count_append]
  simp
theorem cnt_other {c i : Nat} {ls : List (List Int)} {l : List Int} (h : ls[i]? = some l) {x : List Int} (hx : x ≠ enF c l) : cntE c ls (i + 1) x = cntE c ls i x := by
  unfold cntE
  rw [List.take_add_one, h, List.map_append, List.count_append]
  simp only [Option.toList_some, List.map_cons, List.map_nil]
  rw [List.count_cons_of_ne (Ne.symm hx)]
  simp
theorem cnt_le (c i : Nat) (ls : List (List Int)) (x : List Int) : cntE c ls i x ≤ ((ls.map (enF c)).count x : Nat) := by
  unfold cntE
  have : ls.map (enF c) = (ls.take i).map (enF c) ++ (ls.drop i).map (enF c) := by rw [← List.map_append, List.take_append_drop]
  rw [this, List.count_append]
  omega
theorem naB_yes {c e : Nat} {ls : List (List Int)} (h : ∀ x, cntE c ls ls.length x ≤ e) : naB c e ls = true := by
  unfold naB
  rw [List.all_eq_true]
  intro l _
  have := h (enF c l)
  unfold cntE at this
  rw [List.take_length] at this
  rw [decide_eq_true_eq]
  omega
theorem naB_no {c e i : Nat} {ls : List (List Int)} {l : List Int} (h : ls[i]? = some l) (hc : (e : Int) < cntE c ls (i + 1) (enF c l)) : naB c e ls = false := by
  unfold naB
  rw [List.all_eq_false]
  refine ⟨l, List.mem_of_getElem? h, ?_⟩
  have := cnt_le c (i + 1) ls (enF c l)
  rw [decide_eq_true_eq]
  omega
theorem enF_ok {c s k : Nat} {ls : List (List Int)} (h : GoodA s k ls) {l : List Int} (hl : l ∈ ls) : EOk (enF c l) := by
  refine ⟨by simp [enF], fun i hi => ?_⟩
  rw [enF_at c l hi]
  have h64 := h.s64
  split
  · by_cases hk : i < k
    · have := h.bel l hl i hk
      omega
    · rw [List.getD_eq_getElem?_getD, List.getElem?_eq_none (by rw [h.len l hl]; omega)]
      simp
  · omega
set_option maxRecDepth 100000 in
set_option maxHeartbeats 16000000 in
theorem noneAbove_any (c e s k : Nat) (ls : List (List Int)) (v : Value) (w : World) (hc : c < 2 ^ 64) (hv : Rw w v ls) (hG : GoodA s k ls) :
    Calls Tryd.prog 46 #[.int .u64 (c : Int), v, .int .i64 (e : Int)] w fun x w' => x = .returned (.bool (naB c e ls)) ∧ Below w.heap.size w w' := by
  have hmm := @run_makeMap Tryd.prog
  have hn128 := hG.n128
  have HG : Hid (GoodA s k ls) := hG
  obtain ⟨n, Hn⟩ : ∃ n, Hid (ls.length = n) := ⟨_, rfl⟩
  have HV : Hid (∀ W, Below w.heap.size w W → Rw W v ls) := fun W b => hv.below b
  obtain ⟨a, cap, rfl, -⟩ := hv
  rw [Hn.out] at hn128 HV ⊢
  have HOF : Hid (∀ (W : World) (u : Value) (l : List Int), l ∈ ls → Sl W u l → Calls Tryd.prog 86 #[.int .u64 (c : Int), u] W fun x w' => x = .returned (eV (enF c l)) ∧ Below W.heap.size W w') := fun W u l hl hu => of_any c l u W hc hu (by rw [hG.len l hl]; exact hG.k8)
  obtain ⟨z, Hz⟩ : ∃ z, Hid (naB c e ls = z) := ⟨_, rfl⟩
  rw [Hz.out]
  have HZ1 : Hid ((∀ x, cntE c ls n x ≤ e) → z = true) := fun h => by rw [← Hz.out]; exact naB_yes (by rw [Hn.out]; exact h)
  have HZ0 : Hid (∀ i l, ls[i]? = some l → (e : Int) < cntE c ls (i + 1) (enF c l) → z = false) := fun i l h1 h2 => by rw [← Hz.out]; exact naB_no h1 h2
  obtain ⟨T, HT⟩ : ∃ T, Hid (cntE c ls = T) := ⟨_, rfl⟩
  rw [HT.out] at HZ1 HZ0
  have HTS : Hid (∀ i l, ls[i]? = some l → T (i + 1) (enF c l) = T i (enF c l) + 1) := fun i l h => by rw [← HT.out]; exact cnt_same h
  have HTO : Hid (∀ i l, ls[i]? = some l → ∀ x, x ≠ enF c l → T (i + 1) x = T i x) := fun i l h x hx => by rw [← HT.out]; exact cnt_other h hx
  have HTL : Hid (∀ i x, i ≤ n → 0 ≤ T i x ∧ T i x ≤ n) := fun i x hi => by
    rw [← HT.out]
    unfold cntE
    have := List.count_le_length (a := x) (l := (ls.take i).map (enF c))
    rw [List.length_map, List.length_take] at this
    omega
  have HT0 : Hid (∀ x, T 0 x = 0) := fun x => by rw [← HT.out]; simp [cntE]
  have HAT : Hid (∀ i, i < n → ∃ b, ls[i]? = some b) := fun i hi => ⟨_, List.getElem?_eq_getElem (by rw [Hn.out]; exact hi)⟩
  clear hG hc
  go_enter Tryd.func46, Tryd.ntmps46
  go_wp2
  go_loopw [9, 10, 14] (fun _ _ iv wr => ∃ (i : Nat) (D : DataW Unit), iv = .int .i64 (i : Int) ∧ i ≤ n ∧ wr.ownsMap Tryd.prog 127 (plainElem Tryd.prog 3) w.heap.size i D ∧ Hid (EntIs D (T i)) ∧ Hid (∀ x, T i x ≤ e) ∧ Below w.heap.size w wr) (fun _ _ iv _ => (n - intOf iv).toNat)
  case atStart => exact ⟨0, .map [], rfl, by omega, World.ownsMap_made _ _ _ _, (show EntIs (.map []) (T 0) from fun x hx => by rw [EntIs.empty x hx, HT0.out x]), (show ∀ x, T 0 x ≤ e from fun x => by rw [HT0.out x]; omega), balloc _ _⟩
  case round =>
    obtain ⟨i, D, rfl, hi, hown, HD, HLE, hB⟩ := hrel
    by_cases hlt : i < n
    · have hdi : decide ((i : Int) < (n : Int)) = true := by simp; omega
      have hii : (i : Int) < (n : Int) := by omega
      obtain ⟨l, hli⟩ := HAT.out i hlt
      obtain ⟨b, off, u, rfl, hcu, hSu⟩ := (HV.out wr hB).at hli rfl
      have C := HOF.out wr u l (List.mem_of_getElem? hli) hSu
      have hok := enF_ok (c := c) HG.out (List.mem_of_getElem? hli)
      have HTS1 : Hid (T (i + 1) (enF c l) = T i (enF c l) + 1) := HTS.out i l hli
      have HTO1 : Hid (∀ x, x ≠ enF c l → T (i + 1) x = T i x) := HTO.out i l hli
      have HZ2 : Hid ((e : Int) < T (i + 1) (enF c l) → z = false) := HZ0.out i l hli
      obtain ⟨x, Hx⟩ : ∃ x, Hid (enF c l = x) := ⟨_, rfl⟩
      rw [Hx.out] at C hok HTS1 HTO1 HZ2
      obtain ⟨ua, uc, rfl, -⟩ := id hSu
      obtain ⟨ul, Hul⟩ : ∃ ul, Hid (l.length = ul) := ⟨_, rfl⟩
      rw [Hul.out] at C hcu
      have hkey := eK_of hok
      have HOK : Hid (EOk x) := hok
      have hinf := inf61L x
      rw [eV_eq] at C hkey
      obtain ⟨X, HX⟩ : ∃ X, Hid (evL x = X) := ⟨_, rfl⟩
      have hXs : X.length = 8 := by rw [← HX.out]; exact evL_len x
      have hXa : X.toArray = erow fun j => x.getD j 0 := by rw [← HX.out]; rfl
      have HX1 : Hid (X.toArray.all (·.oneCell') = true) := by show _ = _; rw [hXa]; exact erow_one _
      rw [HX.out] at C hkey hinf
      have hsz := hB.size
      have hoL := hown.lt
      have HKEY : Hid (keyOf Tryd.prog 127 (.agg X.toArray) = some (eK x)) := hkey
      have HZR : Hid (∀ W : World, ERow 127 (W.alloc (.cells #[.int .i64 0, .int .i64 0, .int .i64 0, .int .i64 0, .int .i64 0, .int .i64 0, .int .i64 0, .int .i64 0] 127)) W.heap.size (fun _ => 0)) := fun W => ERow.made0 127 W
      clear hSu hli hok hkey hXa
      go_wp2_with (first
        | (go_at_call 86; refine C.mono ?_; rintro e1 w2 ⟨rfl, b2⟩; clear C)
        | (refine wpList_store_row rfl 127 _ _ rfl w2.heap.size X.toArray rfl rfl 127 _ (HZR.out w2) (by rw [hinf]; simp) (by simp [hXs]) HX1.out ?_))
      have hz0 := HZR.out w2
      have hblk : ((w2.alloc (.cells #[.int .i64 0, .int .i64 0, .int .i64 0, .int .i64 0, .int .i64 0, .int .i64 0, .int .i64 0, .int .i64 0] 127)).setRow w2.heap.size X.toArray).heap[w2.heap.size]? = some (.cells X.toArray 127 (0, 0)) := setRow_heap _ _ _ _ _ _ hz0
      have b23 : Below w2.heap.size w2 ((w2.alloc (.cells #[.int .i64 0, .int .i64 0, .int .i64 0, .int .i64 0, .int .i64 0, .int .i64 0, .int .i64 0, .int .i64 0] 127)).setRow w2.heap.size X.toArray) := bsetRw (balloc _ _) (Nat.le_refl _) _
      have hs3 : ((w2.alloc (.cells #[.int .i64 0, .int .i64 0, .int .i64 0, .int .i64 0, .int .i64 0, .int .i64 0, .int .i64 0, .int .i64 0] 127)).setRow w2.heap.size X.toArray).heap.size = w2.heap.size + 1 := by simp
      obtain ⟨w3, Hw3⟩ : ∃ w3, Hid ((w2.alloc (.cells #[.int .i64 0, .int .i64 0, .int .i64 0, .int .i64 0, .int .i64 0, .int .i64 0, .int .i64 0, .int .i64 0] 127)).setRow w2.heap.size X.toArray = w3) := ⟨_, rfl⟩
      rw [Hw3.out] at hblk b23 hs3 ⊢
      simp only [Act.put]
      have hX3 : w3.rangeAt w2.heap.size 0 X := fun j z hz => by
        rw [Nat.zero_add, cell_of_row w3 _ j _ _ _ hblk]
        simpa using hz
      have hs2 := b2.size
      have hB3 : Below w.heap.size w w3 := Below.next (Below.next hB b2) b23
      have hown3 : w3.ownsMap Tryd.prog 127 (plainElem Tryd.prog 3) w.heap.size i D := ent_below (ent_below hown b2) b23
      have hDm := hown3.isMap
      obtain ⟨c1, v0, st, w4, hat, hlook, hent, hlook2, hg4, hs4, hst⟩ := entry_any hown3.drew (by unfold maxLen; omega) HKEY.out
      have hcx := HD.out.look HOK.out hat
      have hTl := HTL.out i x hi
      have hc0 : 0 ≤ c1 := by rw [hcx]; exact hTl.1
      have hc1 : c1 ≤ 128 := by rw [hcx]; have := hTl.2; omega
      have HCX : Hid (c1 = T i x) := hcx
      obtain ⟨w5, hsto, hown5, hg5, hs5⟩ := hst (c1 + 1) (WalkArith.wf_i64 (by omega))
      rw [show goInt (st : Int) = Value.int .i64 (st : Int) from rfl] at hsto hent
      have hne : w2.heap.size ≠ w.heap.size := by omega
      have e4 : w4.heap[w2.heap.size]? = w3.heap[w2.heap.size]? := hg4.block w2.heap.size (by show w2.heap.size < w3.heap.size; omega) (by simpa using hne)
      have e5 : w5.heap[w2.heap.size]? = w3.heap[w2.heap.size]? := hg5.block w2.heap.size (by show w2.heap.size < w3.heap.size; omega) (by simpa using hne)
      have hX4 : w4.rangeAt w2.heap.size 0 X := range_blk hX3 e4
      have hX5 : w5.rangeAt w2.heap.size 0 X := range_blk hX3 e5
      have hblk5 : w5.heap[w2.heap.size]? = some (.cells X.toArray 127 (0, 0)) := e5.trans hblk
      have hinf5 : (Tryd.prog.info? 127).map (·.size) = some X.toArray.size := by rw [hinf]; simp
      have hB5 : Below w.heap.size w w5 := hB3.drew.grown hg5 (by show w.heap.size ≤ w3.heap.size; omega) (fun j hj => by cases hj; exact Nat.le_refl _)
      have hlook5 : (Instr.lookup 125 (.map (some w.heap.size)) (.agg X.toArray) false).run Tryd.prog w5 = .ok (.int .i64 (c1 + 1)) w5 := by
        obtain ⟨c', hl', hat', _⟩ := hown5.lookup_int keyedE undE und3 (zero3' _) HKEY.out
        rw [atKey_put_same hDm (keyedE.key HKEY.out)] at hat'
        simp only [DataW.lit.injEq, Lit.int.injEq, true_and] at hat'
        rw [hl', ← hat']
      clear hat hcx hst hz0 hown hown3 hB3 hg4 hg5 b2 b23 e4 e5 hblk hTl
      refine wp_region_noPanic ?_
      refine wp_region_held_drew (S := fun w_ => w_.rangeAt w2.heap.size 0 X) (by kernel_rfl) (by exact hX3) (fun hSx => ?_)
      refine wpAnyH_take (i := 0) (v := .map (some w.heap.size)) rfl (by kernel_rfl) (by kernel_rfl) (by kernel_rfl) (fun _ _ _ h => h) (Or.inl ⟨by rfl, fun w_ hSw => by (try dsimp only at hSw); go_simp⟩) hSx ?_
      try simp only [Act.put, List.setIfInBounds_toArray]
      refine wpAnyH_take (i := 1) (v := .agg X.toArray) rfl (by kernel_rfl) (by kernel_rfl) (by kernel_rfl) (fun _ _ _ h => h) (yieldsIf_load_mid (by rfl) 127 _ rfl w2.heap.size 0 rfl X _ (fun _ h => h) und61 rfl hinf) hSx ?_
      try simp only [Act.put]
      refine wpAnyH_ready (rs := [2, 4]) (by kernel_rfl) (by simp) ?_
      refine AllReadyH.cons rfl (fun J hJ => ?_) (AllReadyH.cons rfl (fun J hJ => ?_) AllReadyH.nil)
      · go_simp
        refine hJ.out _ _ hSx (fun hSy => ?_)
        clear hJ J
        try simp only [Act.put, List.setIfInBounds_toArray, List.set_cons_zero, List.set_cons_succ]
        refine wpAnyH_take (i := 3) (v := .int .i64 (c1 + 1)) rfl (by kernel_rfl) (by kernel_rfl) (by kernel_rfl) (fun _ _ _ h => h) (Or.inl ⟨by rfl, fun w_ hSw => by (try dsimp only at hSw); go_simp; rw [IntKind.wrap_i64]; omega⟩) hSy ?_
        try simp only [Act.put, List.setIfInBounds_toArray]
        refine wpAnyH_ready (rs := [4]) (by kernel_rfl) (by simp) ?_
        refine AllReadyH.cons rfl (fun J hJ => ?_) AllReadyH.nil
        go_simp
        refine hJ.out _ _ hX4 (fun hSz => ?_)
        clear hJ J
        try simp only [Act.put, List.setIfInBounds_toArray, List.set_cons_zero, List.set_cons_succ]
        refine wpAnyH_take (i := 5) (v := .int .i64 (st : Int)) rfl (by kernel_rfl) (by kernel_rfl) (by kernel_rfl) (fun _ _ _ h => h) (Or.inl ⟨by rfl, fun w_ hSw => by (try dsimp only at hSw); go_simp⟩) hSz ?_
        try simp only [Act.put, List.setIfInBounds_toArray]
        refine wpAnyH_ready (rs := [6]) (by kernel_rfl) (by simp) ?_
        refine AllReadyH.cons rfl (fun J hJ => ?_) AllReadyH.nil
        go_simp
        refine hJ.out _ _ hX5 (fun _ => ?_)
        clear hJ J
        refine wpAnyH_done (by kernel_rfl) ?_ _
        refine NoPanic.normal ?_
        clear hlook hent hlook2 hsto
        by_cases hgt : (e : Int) < c1 + 1
        · have hdg : decide ((e : Int) < c1 + 1) = true := decide_eq_true hgt
          obtain rfl : z = false := HZ2.out (by rw [HTS1.out, ← HCX.out]; exact hgt)
          clear hgt
          go_wp2_with (refine wpList_load_row rfl 127 _ rfl w2.heap.size rfl 127 _ (0, 0) _ hblk5 und61 rfl hinf5 ?_)
          go_ret
          exact ⟨rfl, hB5⟩
        · have hdg : decide ((e : Int) < c1 + 1) = false := decide_eq_false hgt
          have HGT : Hid (¬ (e : Int) < c1 + 1) := hgt
          clear hgt
          go_wp2_with (refine wpList_load_row rfl 127 _ rfl w2.heap.size rfl 127 _ (0, 0) _ hblk5 und61 rfl hinf5 ?_)
          go_roundw
          case rel =>
            refine ⟨i + 1, _, by go_num, by omega, hown5, ?_, ?_, hB5⟩
            · show EntIs _ _
              exact HD.out.put hDm HOK.out (by rw [HTS1.out, ← HCX.out]) HTO1.out
            · show ∀ y, T (i + 1) y ≤ e
              intro y
              by_cases ey : y = x
              · subst ey; rw [HTS1.out, ← HCX.out]; have := HGT.out; omega
              · rw [HTO1.out y ey]; exact HLE.out y
          case measure => simp [intOf]; omega
      · go_simp
        refine hJ.out _ _ hX4 (fun hSy => ?_)
        clear hJ J
        try simp only [Act.put, List.setIfInBounds_toArray, List.set_cons_zero, List.set_cons_succ]
        refine wpAnyH_take (i := 5) (v := .int .i64 (st : Int)) rfl (by kernel_rfl) (by kernel_rfl) (by kernel_rfl) (fun _ _ _ h => h) (Or.inl ⟨by rfl, fun w_ hSw => by (try dsimp only at hSw); go_simp⟩) hSy ?_
        try simp only [Act.put, List.setIfInBounds_toArray]
        refine wpAnyH_ready (rs := [2]) (by kernel_rfl) (by simp) ?_
        refine AllReadyH.cons rfl (fun J hJ => ?_) AllReadyH.nil
        go_simp
        refine hJ.out _ _ hX4 (fun hSz => ?_)
        clear hJ J
        try simp only [Act.put, List.setIfInBounds_toArray, List.set_cons_zero, List.set_cons_succ]
        refine wpAnyH_take (i := 3) (v := .int .i64 (c1 + 1)) rfl (by kernel_rfl) (by kernel_rfl) (by kernel_rfl) (fun _ _ _ h => h) (Or.inl ⟨by rfl, fun w_ hSw => by (try dsimp only at hSw); go_simp; rw [IntKind.wrap_i64]; omega⟩) hSz ?_
        try simp only [Act.put, List.setIfInBounds_toArray]
        refine wpAnyH_ready (rs := [6]) (by kernel_rfl) (by simp) ?_
        refine AllReadyH.cons rfl (fun J hJ => ?_) AllReadyH.nil
        go_simp
        refine hJ.out _ _ hX5 (fun _ => ?_)
        clear hJ J
        refine wpAnyH_done (by kernel_rfl) ?_ _
        refine NoPanic.normal ?_
        clear hlook hent hlook2 hsto
        by_cases hgt : (e : Int) < c1 + 1
        · have hdg : decide ((e : Int) < c1 + 1) = true := decide_eq_true hgt
          obtain rfl : z = false := HZ2.out (by rw [HTS1.out, ← HCX.out]; exact hgt)
          clear hgt
          go_wp2_with (refine wpList_load_row rfl 127 _ rfl w2.heap.size rfl 127 _ (0, 0) _ hblk5 und61 rfl hinf5 ?_)
          go_ret
          exact ⟨rfl, hB5⟩
        · have hdg : decide ((e : Int) < c1 + 1) = false := decide_eq_false hgt
          have HGT : Hid (¬ (e : Int) < c1 + 1) := hgt
          clear hgt
          go_wp2_with (refine wpList_load_row rfl 127 _ rfl w2.heap.size rfl 127 _ (0, 0) _ hblk5 und61 rfl hinf5 ?_)
          go_roundw
          case rel =>
            refine ⟨i + 1, _, by go_num, by omega, hown5, ?_, ?_, hB5⟩
            · show EntIs _ _
              exact HD.out.put hDm HOK.out (by rw [HTS1.out, ← HCX.out]) HTO1.out
            · show ∀ y, T (i + 1) y ≤ e
              intro y
              by_cases ey : y = x
              · subst ey; rw [HTS1.out, ← HCX.out]; have := HGT.out; omega
              · rw [HTO1.out y ey]; exact HLE.out y
          case measure => simp [intOf]; omega
    · have hdi : decide ((i : Int) < (n : Int)) = false := by simp; omega
      obtain rfl : i = n := by omega
      obtain rfl : z = true := HZ1.out HLE.out
      go_wp2
      go_ret
      exact ⟨rfl, hB⟩
end Go.Proofs.YtjfjdidibglhaabDoor

/- The walks of triesAll and Strength. -/
namespace Go.Proofs.YtjfjdidibglhaabDoor
open Go.RowKit

theorem enF_eq {c k : Nat} {l m : List Int} (hk : k ≤ 8) (hl : l.length = k) (hm : m.length = k) (hc : c < 2 ^ k) : enF c l = enF c m ↔ ∀ i ∈ pts c, l.getD i 0 = m.getD i 0 := by
  have h64 : c < 2 ^ 64 := Nat.lt_of_lt_of_le hc (Nat.pow_le_pow_right (by decide) (by omega))
  constructor
  · intro h i hi
    have hb := (pts_mem' h64).1 hi
    have hik := (pts_pts hk hc).lt i hi
    have h1 := enF_at c l (i := i) (by omega)
    rw [h, enF_at c m (by omega), if_pos hb, if_pos hb] at h1
    exact h1.symm
  · intro h
    unfold enF
    refine List.map_congr_left fun i hi => ?_
    have hi := List.mem_range.1 hi
    by_cases hb : c.testBit i = true
    · rw [if_pos hb, if_pos hb, h i ((pts_mem' h64).2 hb)]
    · rw [if_neg hb, if_neg hb]
theorem naB_iff {s k c e : Nat} {ls : List (List Int)} (hG : GoodA s k ls) (hc : c < 2 ^ k) : naB c e ls = true ↔ ∀ l ∈ ls, hit (rnA ls) (pts c) (fnA l) ≤ e := by
  have key : ∀ l ∈ ls, (ls.map (enF c)).count (enF c l) = hit (rnA ls) (pts c) (fnA l) := fun l hl => by
    unfold hit rnA
    rw [List.count_eq_countP, List.countP_map, List.countP_map]
    refine List.countP_congr fun m hm => ?_
    show (enF c m == enF c l) = true ↔ mtc (pts c) (fnA l) (fnA m) = true
    rw [beq_iff_eq, enF_eq hG.k8 (hG.len m hm) (hG.len l hl) hc, mtc_iff]
    exact ⟨fun h i hi => (hG.eq hm hl ((pts_pts hG.k8 hc).lt i hi)).2 (h i hi), fun h i hi => (hG.eq hm hl ((pts_pts hG.k8 hc).lt i hi)).1 (h i hi)⟩
  unfold naB
  rw [List.all_eq_true]
  constructor
  · intro h l hl
    rw [← key l hl]
    exact of_decide_eq_true (h l hl)
  · intro h l hl
    rw [decide_eq_true_eq, key l hl]
    exact h l hl
/-- Does it try all alike in t columns? -/
def taB (s k t : Nat) (ls : List (List Int)) : Bool := trB k t fun c => naB c (ls.length / s ^ t) ls
theorem taB_iff {s k t : Nat} {ls : List (List Int)} (hG : GoodA s k ls) : taB s k t ls = true ↔ Str s k (rnA ls) t := tr_str hG fun _ hc => naB_iff hG hc
set_option maxRecDepth 100000 in
set_option maxHeartbeats 16000000 in
theorem triesAll_any (s k t : Nat) (ls : List (List Int)) (v : Value) (w : World) (hv : Rw w v ls) (hG : GoodA s k ls) (ht : t ≤ k) :
    Calls Tryd.prog 22 #[.int .i64 (s : Int), v, .int .i64 (t : Int)] w fun x w' => x = .returned (.bool (taB s k t ls)) ∧ Below w.heap.size w w' := by
  have hn1 := hG.n1
  have hn128 := hG.n128
  have hk8 := hG.k8
  have hs2 := hG.s2
  have HG : Hid (GoodA s k ls) := hG
  obtain ⟨n, Hn⟩ : ∃ n, Hid (ls.length = n) := ⟨_, rfl⟩
  have HV : Hid (∀ W, Below w.heap.size w W → Rw W v ls) := fun W b => hv.below b
  obtain ⟨r0, hr0⟩ : ∃ r0, ls[0]? = some r0 := ⟨_, List.getElem?_eq_getElem (by omega)⟩
  obtain ⟨a, cap, rfl, -⟩ := hv
  rw [Hn.out] at hn128 hn1 HV ⊢
  obtain ⟨b, off, u, rfl, hc0, hS0⟩ := (HV.out w (Below.refl _ _)).at hr0 rfl
  rw [Nat.add_zero] at hc0
  obtain ⟨ua, uc, rfl, -⟩ := id hS0
  rw [hG.len r0 (List.mem_of_getElem? hr0)] at hc0
  obtain ⟨pw, Hpw⟩ : ∃ pw, Hid (s ^ t = pw) := ⟨_, rfl⟩
  have CP := apow_small s t w (by omega) hG.s64 (by omega) pw Hpw
  have hpw : 0 < pw := by rw [← Hpw.out]; exact Nat.pow_pos (by omega)
  have hpi : (pw : Int) ≠ 0 := by omega
  obtain ⟨e, He⟩ : ∃ e, Hid (n / pw = e) := ⟨_, rfl⟩
  have hq : (n : Int).tdiv (pw : Int) = (e : Int) := by rw [← He.out]; rfl
  have hel : e ≤ n := by rw [← He.out]; exact Nat.div_le_self _ _
  obtain ⟨P, HP⟩ : ∃ P : Nat, Hid ((2 : Nat) ^ k = P) := ⟨_, rfl⟩
  have hP : (2 : Int) ^ k = (P : Int) := by rw [← HP.out]; simp
  have hP1 : 0 < P := by rw [← HP.out]; exact Nat.pow_pos (by decide)
  have hP8 : P ≤ 256 := by rw [← HP.out]; exact Nat.le_trans (Nat.pow_le_pow_right (by decide) hk8) (by decide)
  obtain ⟨z, Hz⟩ : ∃ z, Hid (taB s k t ls = z) := ⟨_, rfl⟩
  rw [Hz.out]
  have HZ1 : Hid ((∀ c, c < P → pc c = t → naB c e ls = true) → z = true) := fun h => by
    rw [← Hz.out]
    exact trB_yes fun c hc hp => by rw [Hn.out, Hpw.out, He.out]; exact h c (by rw [← HP.out]; exact hc) hp
  have HZ0 : Hid (∀ c, c < P → pc c = t → naB c e ls = false → z = false) := fun c hc hp h => by
    rw [← Hz.out]
    exact trB_no (by rw [HP.out]; exact hc) hp (by rw [Hn.out, Hpw.out, He.out]; exact h)
  have HO : Hid (∀ (c : Nat) (W : World), c < P → Calls Tryd.prog 45 #[.int .u64 (c : Int)] W fun x w' => x = .returned (.int .i64 (pc c : Int)) ∧ w' = W) := fun c W hc => OnesCount_any c (by omega) W
  have HA : Hid (∀ (c : Nat) (W : World), c < P → Below w.heap.size w W → Calls Tryd.prog 46 #[.int .u64 (c : Int), .slice (some ⟨b, off, none⟩) n cap, .int .i64 (e : Int)] W fun x w' => x = .returned (.bool (naB c e ls)) ∧ Below W.heap.size W w') := fun c W hc bW => noneAbove_any c e s k ls _ W (by omega) (HV.out W bW) HG.out
  have hni : (0 : Int) < (n : Int) := by omega
  clear hG hS0 hr0
  go_enter Tryd.func22, Tryd.ntmps22
  go_wp2_with (go_at_call 18; refine CP.mono ?_; rintro e1 w1 ⟨rfl, h1⟩; replace h1 := h1.symm; subst h1; clear CP)
  go_loopw [8, 20] (fun _ iv wr => ∃ c : Nat, iv = .int .u64 (c : Int) ∧ c ≤ P ∧ Hid (∀ d, d < c → pc d = t → naB d e ls = true) ∧ Below w.heap.size w wr) (fun _ iv _ => (P - intOf iv).toNat)
  case atStart => exact ⟨0, rfl, by omega, (show ∀ d, d < 0 → _ from fun d h => by omega), Below.refl _ _⟩
  case round =>
    clear hc0
    obtain ⟨c, rfl, hc, HC, hB⟩ := hrel
    by_cases hlt : c < P
    · have hdc : decide ((c : Int) < (P : Int)) = true := by simp; omega
      have hci : (c : Int) < (P : Int) := by omega
      have C1 := HO.out c wr hlt
      obtain ⟨p, Hp⟩ : ∃ p, Hid (pc c = p) := ⟨_, rfl⟩
      rw [Hp.out] at C1
      by_cases hpt : p = t
      · have hde : ((p : Int) == (t : Int)) = true := by rw [hpt]; simp
        have C2 := HA.out c wr hlt hB
        cases hna : naB c e ls with
        | true =>
          rw [hna] at C2
          have HC2 : Hid (∀ d, d < c + 1 → pc d = t → naB d e ls = true) := fun d hd hp => by
            by_cases q : d = c
            · subst q; exact hna
            · exact HC.out d (by omega) hp
          clear HC hna
          subst hpt
          go_wp2_with (first
            | (go_at_call 45; refine C1.mono ?_; rintro e1 w1 ⟨rfl, h1⟩; replace h1 := h1.symm; subst h1; clear C1)
            | (go_at_call 46; refine C2.mono ?_; rintro e1 w2 ⟨rfl, b2⟩; clear C2))
          go_roundw
          case rel => exact ⟨c + 1, by go_num, by omega, HC2, Below.next hB b2⟩
          case measure => simp [intOf]; omega
        | false =>
          rw [hna] at C2
          obtain rfl : z = false := HZ0.out c hlt (Hp.out.trans hpt) hna
          clear HC hna
          subst hpt
          go_wp2_with (first
            | (go_at_call 45; refine C1.mono ?_; rintro e1 w1 ⟨rfl, h1⟩; replace h1 := h1.symm; subst h1; clear C1)
            | (go_at_call 46; refine C2.mono ?_; rintro e1 w2 ⟨rfl, b2⟩; clear C2))
          go_ret
          exact ⟨rfl, Below.next hB b2⟩
      · have hde : ((p : Int) == (t : Int)) = false := by rw [beq_eq_false_iff_ne]; omega
        have hden : (p == t) = false := by rw [beq_eq_false_iff_ne]; omega
        have HC2 : Hid (∀ d, d < c + 1 → pc d = t → naB d e ls = true) := fun d hd hp => by
          by_cases q : d = c
          · subst q; exact absurd (Hp.out.symm.trans hp) hpt
          · exact HC.out d (by omega) hp
        clear HC
        go_wp2_with (go_at_call 45; refine C1.mono ?_; rintro e1 w1 ⟨rfl, h1⟩; replace h1 := h1.symm; subst h1; clear C1)
        go_roundw
        case rel => exact ⟨c + 1, by go_num, by omega, HC2, hB⟩
        case measure => simp [intOf]; omega
    · have hdc : decide ((c : Int) < (P : Int)) = false := by simp; omega
      obtain rfl : c = P := by omega
      obtain rfl : z = true := HZ1.out HC.out
      go_wp2
      go_ret
      exact ⟨rfl, hB⟩
end Go.Proofs.YtjfjdidibglhaabDoor

/- The walk of Strength. -/
namespace Go.Proofs.YtjfjdidibglhaabDoor
open Go.RowKit

/-- A strength, and no error. -/
def SgR (s k : Nat) (ls : List (List Int)) (e : Ending) : Prop := ∃ t : Nat, e = .returned (.tuple #[.int .i64 (t : Int), .int .i64 0]) ∧ StrIs s k (rnA ls) t
set_option maxRecDepth 100000 in
set_option maxHeartbeats 4000000 in
theorem Strength_ok (s k : Nat) (ls : List (List Int)) (v : Value) (w : World) (hv : Rw w v ls) (hG : GoodA s k ls) :
    Calls Tryd.prog 9 #[.int .i64 (s : Int), v] w fun e w' => SgR s k ls e ∧ Below w.heap.size w w' := by
  have hk8 := hG.k8
  have C := ACheck_any s ls v w hv (by have := hG.n128; unfold maxLen; omega) (fun l hl => by rw [hG.len l hl]; unfold maxLen; omega)
  rw [hG.aF] at C
  have hn1 := hG.n1
  have HT : Hid (∀ (W : World) (t : Nat), Below w.heap.size w W → t ≤ k → Calls Tryd.prog 22 #[.int .i64 (s : Int), v, .int .i64 (t : Int)] W fun x w' => x = .returned (.bool (taB s k t ls)) ∧ Below W.heap.size W w') := fun W t b ht => triesAll_any s k t ls v W (hv.below b) hG ht
  have HIF : Hid (∀ t, taB s k t ls = true ↔ Str s k (rnA ls) t) := fun t => taB_iff hG
  have HK0 : Hid (Str s k (rnA ls) 0) := str_zero s k _
  obtain ⟨n, Hn⟩ : ∃ n, Hid (ls.length = n) := ⟨_, rfl⟩
  obtain ⟨r0, hr0⟩ : ∃ r0, ls[0]? = some r0 := ⟨_, List.getElem?_eq_getElem (by omega)⟩
  obtain ⟨b, off, u, ea, hc0, hS0⟩ : ∃ b off u, (∃ cap, v = .slice (some ⟨b, off, none⟩) n cap) ∧ w.cell? ⟨b, off, none⟩ = some u ∧ Sl w u r0 := by
    obtain ⟨a, cap, rfl, hr⟩ := id hv
    obtain ⟨b, off, u, rfl, hc, hS⟩ := hr 0 r0 hr0
    exact ⟨b, off, u, ⟨cap, by rw [Hn.out]⟩, hc, hS⟩
  obtain ⟨cap, rfl⟩ := ea
  obtain ⟨ua, uc, rfl, -⟩ := hS0
  rw [hG.len r0 (List.mem_of_getElem? hr0)] at hc0
  have hbl := block_lt_of_cell hc0
  have HC0 : Hid (∀ W, Below w.heap.size w W → W.cell? ⟨b, off, none⟩ = some (.slice ua k uc)) := fun W bW => (bW.cell (p := ⟨b, off, none⟩) hbl).trans hc0
  have hni : (0 : Int) < (n : Int) := by rw [← Hn.out]; omega
  obtain ⟨S, HS⟩ : ∃ S : Nat → Prop, Hid (Str s k (rnA ls) = S) := ⟨_, rfl⟩
  rw [HS.out] at HIF HK0
  obtain ⟨T, HTT⟩ : ∃ T : Nat → Bool, Hid ((fun t => taB s k t ls) = T) := ⟨_, rfl⟩
  have HT2 : Hid (∀ (W : World) (t : Nat), Below w.heap.size w W → t ≤ k → Calls Tryd.prog 22 #[.int .i64 (s : Int), .slice (some ⟨b, off, none⟩) n cap, .int .i64 (t : Int)] W fun x w' => x = .returned (.bool (T t)) ∧ Below W.heap.size W w') := fun W t b ht => by rw [← HTT.out]; exact HT.out W t b ht
  have HIF2 : Hid (∀ t, T t = true ↔ S t) := fun t => by rw [← HTT.out]; exact HIF.out t
  clear hG hv hr0 hn1 HT HIF hc0
  go_enter Tryd.func9, Tryd.ntmps9
  go_wp2_with (go_at_call 21; refine C.mono ?_; rintro e1 w1 ⟨rfl, h1⟩; replace h1 := h1.symm; subst h1; clear C)
  go_loopw [7] (fun tv wr => ∃ t : Nat, tv = .int .i64 (t : Int) ∧ t ≤ k ∧ Hid (∀ q, q ≤ t → S q) ∧ Below w.heap.size w wr) (fun tv _ => (k - intOf tv).toNat)
  case atStart =>
    refine ⟨0, rfl, by omega, ?_, Below.refl _ _⟩
    show ∀ q, q ≤ 0 → S q
    intro q h
    have e : q = 0 := by omega
    rw [e]
    exact HK0.out
  case round =>
    obtain ⟨t, rfl, ht, HQ, hB⟩ := hrel
    have hc0 := HC0.out wr hB
    by_cases hlt : t < k
    · have hdt : decide ((t : Int) < (k : Int)) = true := by simp; omega
      have C1 := HT2.out wr (t + 1) hB (by omega)
      rw [show ((t + 1 : Nat) : Int) = (t : Int) + 1 from rfl] at C1
      cases hq : T (t + 1) with
      | true =>
        rw [hq] at C1
        have HQ2 : Hid (∀ q, q ≤ t + 1 → S q) := fun q h => by
          by_cases e : q = t + 1
          · subst e; exact (HIF2.out _).1 hq
          · exact HQ.out q (by omega)
        clear HQ hq
        go_wp2_with (go_at_call 22; refine C1.mono ?_; rintro e1 w2 ⟨rfl, b2⟩; clear C1)
        go_roundw
        case rel => exact ⟨t + 1, by go_num, by omega, HQ2, Below.next hB b2⟩
        case measure => simp [intOf]; omega
      | false =>
        rw [hq] at C1
        have HN : Hid (¬ S (t + 1)) := fun h => by
          have := (HIF2.out _).2 h
          rw [hq] at this
          cases this
        clear hq
        go_wp2_with (go_at_call 22; refine C1.mono ?_; rintro e1 w2 ⟨rfl, b2⟩; clear C1)
        go_ret2
        refine ⟨⟨t, rfl, ht, ?_, fun _ => ?_⟩, Below.next hB b2⟩
        · rw [HS.out]; exact HQ.out
        · rw [HS.out]; exact HN.out
    · have hdt : decide ((t : Int) < (k : Int)) = false := by simp; omega
      have hdn : decide (t < k) = false := by simp; omega
      obtain rfl : t = k := by omega
      go_wp2
      go_ret2
      refine ⟨⟨t, rfl, ht, ?_, fun h => by omega⟩, hB⟩
      rw [HS.out]; exact HQ.out
end Go.Proofs.YtjfjdidibglhaabDoor

namespace Go.Proofs.YtjfjdidibglhaabDoor
open Go.RowKit

end Go.Proofs.YtjfjdidibglhaabDoor
