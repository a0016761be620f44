/- The walk of the document's DesignFault. -/
import Derived.Test.YtgpkhfpejopacaaDoorDL
import Derived.Deep.QuietTactic
import Derived.BigQuiet
import Derived.Deep.RegionHeld3
import Derived.Deep.MidRow
namespace Go.Proofs.YtgpkhfpejopacaaDoor
open Go.RowKit

/-- Rows of rows that are read. -/
def Rw (w : World) (v : Value) (ls : List (List Int)) : Prop := ∃ a cap, v = .slice a ls.length cap ∧ ∀ i l, ls[i]? = some l → ∃ b off u, a = some ⟨b, off, none⟩ ∧ w.cell? ⟨b, off + i, none⟩ = some u ∧ Sl w u l
theorem Rw.below {w w' : World} {v : Value} {ls : List (List Int)} (h : Rw w v ls) (hb : Below w.heap.size w w') : Rw w' v ls := by
  obtain ⟨a, cap, rfl, h⟩ := h
  refine ⟨a, cap, rfl, fun i l hl => ?_⟩
  obtain ⟨b, off, u, e, hc, hS⟩ := h i l hl
  exact ⟨b, off, u, e, (hb.cell (World.block_lt_of_cell? _ _ hc)).trans hc, hS.below hb⟩
/-- A design in a box, as it is read later. -/
theorem des_box (s : Int) (u : Value) (w : World) : ∀ W, Below (w.alloc (.cells #[.int .i64 s, u] 29)).heap.size (w.alloc (.cells #[.int .i64 s, u] 29)) W →
    W.cell? ⟨w.heap.size, 0, none⟩ = some (.int .i64 s) ∧ W.cell? ⟨w.heap.size, 1, none⟩ = some u := fun W b => by
  have k1 := (b.block w.heap.size (by simp)).trans (heap_alloc_new w (.cells #[.int .i64 s, u] 29))
  exact ⟨by rw [cell_of_row _ _ _ _ _ _ k1]; rfl, by rw [cell_of_row _ _ _ _ _ _ k1]; rfl⟩
/-- What is wrong with a block. -/
def bF (p : Int) (b : List Int) : Nat := if (List.range b.length).all (fun j => decide (0 ≤ b.getD j 0) && decide (b.getD j 0 < p)) then (if (List.range b.length).all (fun j => decide (j = 0 ∨ b.getD (j - 1) 0 < b.getD j 0)) then 0 else 2) else 1
def blF (p : Int) : List (List Int) → Nat
  | [] => 0
  | b :: bs => if bF p b ≠ 0 then bF p b else blF p bs
def dF (p : Int) (ls : List (List Int)) : Nat := if p < 1 ∨ 40 < p then 1 else if 200 < ls.length then 3 else blF p ls
theorem bF_out {p : Int} {b : List Int} {j : Nat} (hj : j < b.length) (h : ¬ (0 ≤ b.getD j 0 ∧ b.getD j 0 < p)) : bF p b = 1 := by
  unfold bF
  rw [if_neg]
  intro k
  have := List.all_eq_true.1 k j (List.mem_range.2 hj)
  rw [Bool.and_eq_true, decide_eq_true_eq, decide_eq_true_eq] at this
  exact h this
theorem bF_in {p : Int} {b : List Int} (h : ∀ j, j < b.length → 0 ≤ b.getD j 0 ∧ b.getD j 0 < p) : bF p b = if (List.range b.length).all (fun j => decide (j = 0 ∨ b.getD (j - 1) 0 < b.getD j 0)) then 0 else 2 := by
  unfold bF
  rw [if_pos]
  rw [List.all_eq_true]
  intro j hj
  have := h j (List.mem_range.1 hj)
  rw [Bool.and_eq_true, decide_eq_true_eq, decide_eq_true_eq]
  exact this
theorem bF_fall {p : Int} {b : List Int} {j : Nat} (h : ∀ j, j < b.length → 0 ≤ b.getD j 0 ∧ b.getD j 0 < p) (h1 : 1 ≤ j) (hj : j < b.length) (hf : b.getD j 0 ≤ b.getD (j - 1) 0) : bF p b = 2 := by
  rw [bF_in h, if_neg]
  intro k
  have := List.all_eq_true.1 k j (List.mem_range.2 hj)
  rw [decide_eq_true_eq] at this
  omega
theorem bF_ok {p : Int} {b : List Int} (h : ∀ j, j < b.length → 0 ≤ b.getD j 0 ∧ b.getD j 0 < p) (hr : ∀ j, 1 ≤ j → j < b.length → b.getD (j - 1) 0 < b.getD j 0) : bF p b = 0 := by
  rw [bF_in h, if_pos]
  rw [List.all_eq_true]
  intro j hj
  rw [decide_eq_true_eq]
  by_cases e : j = 0
  · exact .inl e
  · exact .inr (hr j (by omega) (List.mem_range.1 hj))
theorem blF_at {p : Int} : ∀ {ls : List (List Int)} {i : Nat} {b : List Int}, ls[i]? = some b → (∀ m c, m < i → ls[m]? = some c → bF p c = 0) → bF p b ≠ 0 → blF p ls = bF p b
  | [], i, b, h, _, _ => by simp at h
  | c :: ls, 0, b, h, _, hn => by
    obtain rfl : c = b := by simpa using h
    unfold blF
    rw [if_pos hn]
  | c :: ls, i + 1, b, h, hm, hn => by
    have h0 := hm 0 c (by omega) rfl
    unfold blF
    rw [if_neg (by omega)]
    exact blF_at (i := i) (by simpa using h) (fun m d hd e => hm (m + 1) d (by omega) (by simpa using e)) hn
theorem blF_none {p : Int} : ∀ {ls : List (List Int)}, (∀ (m : Nat) (c : List Int), ls[m]? = some c → bF p c = 0) → blF p ls = 0
  | [], _ => rfl
  | c :: ls, h => by
    have h0 := h 0 c rfl
    unfold blF
    rw [if_neg (by omega)]
    exact blF_none fun m d e => h (m + 1) d (by simpa using e)
set_option maxHeartbeats 4000000 in
theorem DesignFault_far (p : Int) (v : Value) (w : World) (h : p < 1 ∨ 40 < p) :
    Calls Tryd.prog 38 #[.agg #[.int .i64 p, v]] w fun e w' => e = .returned (.int .i64 1) ∧ Below w.heap.size w w' := by
  by_cases h1 : p < 1
  · have hd : decide (p < 1) = true := decide_eq_true h1
    go_enter Tryd.func38, Tryd.ntmps38
    go_wp2
    go_ret
    exact ⟨rfl, balloc w _⟩
  · have hd : decide (p < 1) = false := decide_eq_false h1
    have hd2 : decide (40 < p) = true := decide_eq_true (by omega)
    clear h
    go_enter Tryd.func38, Tryd.ntmps38
    go_wp2
    go_ret
    exact ⟨rfl, balloc w _⟩
set_option maxRecDepth 100000 in
set_option maxHeartbeats 16000000 in
theorem DesignFault_main (p : Int) (ls : List (List Int)) (v : Value) (w : World) (h1 : 1 ≤ p) (h40 : p ≤ 40) (hv : Rw w v ls) (_hl : ls.length ≤ maxLen) (hll : ∀ l ∈ ls, l.length ≤ maxLen) :
    Calls Tryd.prog 38 #[.agg #[.int .i64 p, v]] w fun e w' => e = .returned (.int .i64 (dF p ls : Int)) ∧ Below w.heap.size w w' := by
  have hd : decide (p < 1) = false := decide_eq_false (by omega)
  have hd2 : decide (40 < p) = false := decide_eq_false (by omega)
  have HC : Hid (∀ W, Below (w.alloc (.cells #[.int .i64 p, v] 29)).heap.size (w.alloc (.cells #[.int .i64 p, v] 29)) W → W.cell? ⟨w.heap.size, 0, none⟩ = some (.int .i64 p) ∧ W.cell? ⟨w.heap.size, 1, none⟩ = some v) := des_box p v w
  obtain ⟨w0, Hw0⟩ : ∃ w0, Hid (w0 = w.alloc (.cells #[.int .i64 p, v] 29)) := ⟨_, rfl⟩
  rw [← Hw0.out] at HC
  have HB0 : Hid (Below w.heap.size w w0) := by rw [Hw0.out]; exact balloc _ _
  have HV : Hid (Rw w v ls) := hv
  have HLL : Hid (∀ l ∈ ls, l.length ≤ maxLen) := hll
  obtain ⟨a, cap, rfl, _⟩ := hv
  obtain ⟨x0, x1⟩ := HC.out _ (Below.refl _ _)
  rw [Hw0.out] at x0 x1
  by_cases hbig : 200 < ls.length
  · have hz : dF p ls = 3 := by unfold dF; rw [if_neg (by omega), if_pos hbig]
    rw [hz]
    have hdb : decide ((200 : Int) < (ls.length : Int)) = true := by simp; omega
    have hdn : decide (200 < ls.length) = true := decide_eq_true hbig
    unfold maxLen at _hl
    generalize ls.length = n at *
    clear hll hz
    go_enter Tryd.func38, Tryd.ntmps38
    go_wp2
    go_ret
    exact ⟨rfl, balloc w _⟩
  · have hz : dF p ls = blF p ls := by unfold dF; rw [if_neg (by omega), if_neg hbig]
    rw [hz]
    have HZ1 : Hid (∀ i b, ls[i]? = some b → (∀ m c, m < i → ls[m]? = some c → bF p c = 0) → bF p b ≠ 0 → blF p ls = bF p b) := fun i b => blF_at
    have HZ0 : Hid ((∀ (m : Nat) (c : List Int), ls[m]? = some c → bF p c = 0) → blF p ls = 0) := blF_none
    have HAT : Hid (∀ i, i < ls.length → ∃ b, ls[i]? = some b) := fun i hi => ⟨_, List.getElem?_eq_getElem hi⟩
    have HLE : Hid (∀ i b, ls[i]? = some b → i < ls.length) := fun i b h => (List.getElem?_eq_some_iff.1 h).1
    have hdb : decide ((200 : Int) < (ls.length : Int)) = false := by simp; omega
    have hn2 : ls.length ≤ 200 := by omega
    generalize hzz : blF p ls = z at *
    generalize hn : ls.length = n at *
    clear hll hz hbig _hl hzz
    go_enter Tryd.func38, Tryd.ntmps38
    go_wp2
    go_loopw [3] (fun iv wr => ∃ i : Nat, iv = .int .i64 (i : Int) ∧ i ≤ n ∧ Hid (∀ m c, m < i → ls[m]? = some c → bF p c = 0) ∧ Below w0.heap.size w0 wr) (fun iv _ => (n - intOf iv).toNat)
    case atStart => exact ⟨0, rfl, by omega, (show ∀ m c, m < 0 → _ from fun m c h => by omega), by rw [Hw0.out]; exact Below.refl _ _⟩
    case round =>
      clear x0 x1
      obtain ⟨i, rfl, hi, HI, hB⟩ := hrel
      obtain ⟨x0, x1⟩ := HC.out _ hB
      by_cases hlt : i < n
      · have hdi : decide ((i : Int) < (n : Int)) = true := by simp; omega
        have hii : (i : Int) < (n : Int) := by omega
        obtain ⟨b, hbi⟩ := HAT.out i hlt
        have HBI : Hid (ls[i]? = some b) := hbi
        have hbl := HLL.out b (List.mem_of_getElem? hbi)
        unfold maxLen at hbl
        obtain ⟨a', cap', e, hrows⟩ := HV.out.below (Below.next HB0.out hB)
        obtain ⟨bb, off, u, e2, hcell, hSu⟩ := hrows i b hbi
        obtain ⟨rfl, rfl⟩ : a = a' ∧ cap = cap' := by
          simp only [Value.slice.injEq] at e
          exact ⟨e.1, e.2.2⟩
        subst e2
        have HSU : Hid (∀ W, Below wr.heap.size wr W → Sl W u b) := fun W bW => hSu.below bW
        obtain ⟨ua, uc, rfl, hub⟩ := hSu
        have HUB : Hid (∀ j, j < b.length → ∃ g o, ua = some ⟨g, o, none⟩ ∧ ∀ W, Below wr.heap.size wr W → W.cell? ⟨g, o + j, none⟩ = some (.int .i64 (b.getD j 0))) := fun j hj => by
          obtain ⟨g, o, e, hc⟩ := hub j hj
          exact ⟨g, o, e, fun W bW => (bW.cell (World.block_lt_of_cell? _ _ hc)).trans hc⟩
        obtain ⟨w1, Hw1⟩ : ∃ w1 : World, Hid (w1 = wr) := ⟨_, rfl⟩
        rw [← Hw1.out] at HUB HSU
        have HB1 : Hid (Below w0.heap.size w0 w1) := by rw [Hw1.out]; exact hB
        generalize hbn : b.length = bn at *
        clear e hrows hub hbi
        go_wp2
        go_loopw [5] (fun jv wr' => ∃ j : Nat, jv = .int .i64 (j : Int) ∧ j ≤ bn ∧ Hid (∀ m, m < j → 0 ≤ b.getD m 0 ∧ b.getD m 0 < p) ∧ Below w1.heap.size w1 wr') (fun jv _ => (bn - intOf jv).toNat)
        case atStart => exact ⟨0, rfl, by omega, (show ∀ m, m < 0 → _ from fun m h => by omega), by rw [Hw1.out]; exact Below.refl _ _⟩
        case round =>
          clear x0 x1 hB hcell
          obtain ⟨j, rfl, hj, HJ, hB2⟩ := hrel
          obtain ⟨x0, x1⟩ := HC.out _ (Below.next HB1.out hB2)
          by_cases hlj : j < bn
          · have hdj : decide ((j : Int) < (bn : Int)) = true := by simp; omega
            have hji : (j : Int) < (bn : Int) := by omega
            obtain ⟨g, o, rfl, hcj0⟩ := HUB.out j hlj
            have hcj := hcj0 _ hB2
            obtain ⟨x, Hx⟩ : ∃ x, Hid (x = b.getD j 0) := ⟨_, (rfl : b.getD j 0 = b.getD j 0)⟩
            rw [← Hx.out] at hcj
            by_cases hneg : x < 0
            · have hb1 : bF p b = 1 := bF_out (j := j) (by omega) (by rw [← Hx.out]; omega)
              obtain rfl : z = 1 := by rw [HZ1.out i b HBI.out HI.out (by omega), hb1]
              have hdx : decide (x < 0) = true := decide_eq_true hneg
              clear hneg hb1 hcj0
              go_wp2
              go_quiet (fail)
              go_wp2
              go_ret
              exact ⟨rfl, Below.next HB0.out (Below.next HB1.out (bdrewN hB2 _))⟩
            · have hdx : decide (x < 0) = false := decide_eq_false hneg
              by_cases hge : p ≤ x
              · have hb1 : bF p b = 1 := bF_out (j := j) (by omega) (by rw [← Hx.out]; omega)
                obtain rfl : z = 1 := by rw [HZ1.out i b HBI.out HI.out (by omega), hb1]
                have hdx2 : decide (p ≤ x) = true := decide_eq_true hge
                clear hneg hge hb1 hcj0
                go_wp2
                go_quiet (fail)
                go_wp2
                go_ret
                exact ⟨rfl, Below.next HB0.out (Below.next HB1.out (bdrewN hB2 _))⟩
              · have hdx2 : decide (p ≤ x) = false := decide_eq_false hge
                have HJ2 : Hid (∀ m, m < j + 1 → 0 ≤ b.getD m 0 ∧ b.getD m 0 < p) := fun m hm => by
                  by_cases e : m = j
                  · subst e; rw [← Hx.out]; omega
                  · exact HJ.out m (by omega)
                clear hneg hge HJ hcj0
                go_wp2
                go_quiet (fail)
                go_wp2
                go_roundw
                case rel => exact ⟨j + 1, by go_num, by omega, HJ2, bdrewN hB2 _⟩
                case measure => simp [intOf]; omega
          · have hdj : decide ((j : Int) < (bn : Int)) = false := by simp; omega
            obtain rfl : j = bn := by omega
            clear hlj
            go_wp2
            go_loopw [6] (fun jv wr' => ∃ k : Nat, jv = .int .i64 (k : Int) ∧ 1 ≤ k ∧ (k ≤ j ∨ k = 1) ∧ Hid (∀ m, 1 ≤ m → m < k → m < j → b.getD (m - 1) 0 < b.getD m 0) ∧ Below w1.heap.size w1 wr') (fun jv _ => (j + 1 - intOf jv).toNat)
            case atStart => exact ⟨1, rfl, by omega, .inr rfl, (show ∀ m, 1 ≤ m → m < 1 → _ from fun m h h' => by omega), hB2⟩
            case round =>
              clear x0 x1 hB2
              obtain ⟨k, rfl, hk1, hkj, HK, hB3⟩ := hrel
              obtain ⟨x0, x1⟩ := HC.out _ (Below.next HB1.out hB3)
              by_cases hlk : k < j
              · have hdk : decide ((k : Int) < (j : Int)) = true := by simp; omega
                have hki : (k : Int) < (j : Int) := by omega
                obtain ⟨k', Hk'⟩ : ∃ k', Hid (k = k' + 1) := ⟨k - 1, (by omega : k = k - 1 + 1)⟩
                have hsub : (k : Int) - 1 = (k' : Int) := by have := Hk'.out; omega
                have hk'i : (k' : Int) < (j : Int) := by have := Hk'.out; omega
                obtain ⟨g, o, rfl, hc0⟩ := HUB.out k hlk
                obtain ⟨g2, o2, e2, hc1⟩ := HUB.out k' (by have := Hk'.out; omega)
                obtain ⟨rfl, rfl⟩ : g = g2 ∧ o = o2 := by
                  simp only [Option.some.injEq, Addr.mk.injEq] at e2
                  exact ⟨e2.1, e2.2.1⟩
                have hck := hc0 _ hB3
                have hck' := hc1 _ hB3
                obtain ⟨x, Hx⟩ : ∃ x, Hid (x = b.getD k 0) := ⟨_, (rfl : b.getD k 0 = b.getD k 0)⟩
                obtain ⟨y, Hy⟩ : ∃ y, Hid (y = b.getD k' 0) := ⟨_, (rfl : b.getD k' 0 = b.getD k' 0)⟩
                rw [← Hx.out] at hck
                rw [← Hy.out] at hck'
                clear e2 hc0 hc1
                by_cases hle : x ≤ y
                · have hb1 : bF p b = 2 := bF_fall (j := k) (by rw [hbn]; exact HJ.out) hk1 (by omega) (by rw [← Hx.out, show k - 1 = k' by have := Hk'.out; omega, ← Hy.out]; exact hle)
                  obtain rfl : z = 2 := by rw [HZ1.out i b HBI.out HI.out (by omega), hb1]
                  have hdx : decide (x ≤ y) = true := decide_eq_true hle
                  clear hle hb1
                  go_wp2
                  go_quiet (fail)
                  go_wp2
                  go_ret
                  exact ⟨rfl, Below.next HB0.out (Below.next HB1.out (bdrewN hB3 _))⟩
                · have hdx : decide (x ≤ y) = false := decide_eq_false hle
                  have HK2 : Hid (∀ m, 1 ≤ m → m < k + 1 → m < j → b.getD (m - 1) 0 < b.getD m 0) := fun m h1 h2 h3 => by
                    by_cases e : m = k
                    · subst e; rw [show m - 1 = k' by have := Hk'.out; omega, ← Hx.out, ← Hy.out]; omega
                    · exact HK.out m h1 (by omega) h3
                  clear hle HK
                  go_wp2
                  go_quiet (fail)
                  go_wp2
                  go_roundw
                  case rel => exact ⟨k + 1, by go_num, by omega, .inl (by omega), HK2, bdrewN hB3 _⟩
                  case measure => simp [intOf]; omega
              · have hdk : decide ((k : Int) < (j : Int)) = false := by simp; omega
                have hb0 : bF p b = 0 := bF_ok (by rw [hbn]; exact HJ.out) (fun m h1 h2 => HK.out m h1 (by omega) (by omega))
                have HI2 : Hid (∀ m c, m < i + 1 → ls[m]? = some c → bF p c = 0) := fun m c hm hc => by
                  by_cases e : m = i
                  · subst e
                    rw [HBI.out] at hc
                    obtain rfl := Option.some.inj hc
                    exact hb0
                  · exact HI.out m c (by omega) hc
                clear hb0
                go_wp2
                go_roundw
                case rel => exact ⟨i + 1, by go_num, by omega, HI2, Below.next HB1.out hB3⟩
                case measure => simp [intOf]; omega
      · have hdi : decide ((i : Int) < (n : Int)) = false := by simp; omega
        obtain rfl : i = n := by omega
        obtain rfl : z = 0 := HZ0.out fun m c hc => HI.out m c (HLE.out m c hc) hc
        go_wp2
        go_ret
        exact ⟨rfl, Below.next HB0.out hB⟩
theorem DesignFault_any (p : Int) (ls : List (List Int)) (v : Value) (w : World) (hv : Rw w v ls) (hl : ls.length ≤ maxLen) (hll : ∀ l ∈ ls, l.length ≤ maxLen) :
    Calls Tryd.prog 38 #[.agg #[.int .i64 p, v]] w fun e w' => e = .returned (.int .i64 (dF p ls : Int)) ∧ Below w.heap.size w w' := by
  by_cases h : p < 1 ∨ 40 < p
  · have : dF p ls = 1 := by unfold dF; rw [if_pos h]
    rw [this]
    exact DesignFault_far p v w h
  · exact DesignFault_main p ls v w (by omega) (by omega) hv hl hll
end Go.Proofs.YtgpkhfpejopacaaDoor
