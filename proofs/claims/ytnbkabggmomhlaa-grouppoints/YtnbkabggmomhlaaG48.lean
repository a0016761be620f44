/- The walk of lists. -/
import Derived.Test.YtnbkabggmomhlaaG66
import Derived.Test.YtnbkabggmomhlaaP25
import Derived.Deep.AppendLies
namespace Go.Proofs.Ytnbkabggmomhlaa
open Go.RowKit

/-- Of the first p points those whose least is f. -/
def bl (c : Nat → Nat) (p f : Nat) : List Nat := (List.range p).filter fun x => c x == f
theorem bl_succ (c : Nat → Nat) (p f : Nat) : bl c (p + 1) f = if c p = f then bl c p f ++ [p] else bl c p f := by
  unfold bl
  rw [List.range_succ, List.filter_append]
  by_cases h : c p = f <;> simp [h]
theorem bl_len (c : Nat → Nat) (p f : Nat) : (bl c p f).length ≤ p := by
  unfold bl
  have := List.length_filter_le (fun x => c x == f) (List.range p)
  rwa [List.length_range] at this
/-- Block B has n rows of numbers, each in memory of its own. -/
def Bh (w : World) (B n : Nat) (ls : Nat → List Nat) : Prop :=
  ∃ (us : Nat → Value) (cur : Array Value), w.heap[B]? = some (.cells cur 23 (0, 0)) ∧ (∀ i, i < n → cur[i]? = some (us i)) ∧ (∀ i, i < n → w.ownsRow (B + 1) 3 1 (us i) (ls i).length (vl (ls i))) ∧ ∀ i j, i < n → j < n → i ≠ j → ∀ g, (us i).ownBlock = some g → (us j).ownBlock ≠ some g
theorem Bh.made (w : World) (n : Nat) : Bh (w.alloc (.cells (madeCells #[.slice none 0 0] n) 23)) w.heap.size n (fun _ => []) := by
  refine ⟨fun _ => .slice none 0 0, _, heap_alloc_new w _, fun i hi => ?_, fun i _ => World.ownsRow_nil _ _ _ _, fun i j _ _ _ g hg => by cases hg⟩
  rw [Array.getElem?_eq_getElem (by rw [size_madeCells]; exact hi)]
  simp [madeCells, Nat.mod_one]
theorem Bh.congr {w : World} {B n : Nat} {ls ls' : Nat → List Nat} (h : Bh w B n ls) (e : ∀ i, i < n → ls i = ls' i) : Bh w B n ls' := by
  obtain ⟨us, cur, h1, h2, h3, h4⟩ := h
  exact ⟨us, cur, h1, h2, fun i hi => by rw [← e i hi]; exact h3 i hi, h4⟩
theorem Bh.lt {w : World} {B n : Nat} {ls : Nat → List Nat} (h : Bh w B n ls) : B < w.heap.size := by
  obtain ⟨us, cur, h1, _⟩ := h
  exact (Array.getElem?_eq_some_iff.1 h1).1
/-- What a row is, and the way back behind an append to it and a store. -/
theorem Bh.at {w : World} {B n : Nat} {ls : Nat → List Nat} (h : Bh w B n ls) {i : Nat} (hi : i < n) : ∃ u, w.cell? ⟨B, i, none⟩ = some u ∧ w.ownsRow (B + 1) 3 1 u (ls i).length (vl (ls i)) ∧ w.frozen? ⟨B, i, none⟩ = false ∧
    ∀ (w1 w2 : World) (u' : Value) (l' : List Nat), Below w.heap.size w w1 → w1.grownBy w2 u.ownBlock → w2.ownsRow (B + 1) 3 1 u' l'.length (vl l') → (u'.ownBlock = u.ownBlock ∨ u'.ownBlock = some w1.heap.size) →
      w2.cell? ⟨B, i, none⟩ = some u ∧ w2.frozen? ⟨B, i, none⟩ = false ∧ Bh (w2.setCell ⟨B, i, none⟩ u') B n (fun j => if j = i then l' else ls j) := by
  obtain ⟨us, cur, h1, h2, h3, h4⟩ := h
  have hBl : B < w.heap.size := (Array.getElem?_eq_some_iff.1 h1).1
  refine ⟨us i, ?_, h3 i hi, frozen_of_row w B i _ _ h1, fun w1 w2 u' l' hb hg hown hat => ?_⟩
  · rw [cell_of_row w B i _ _ _ h1, h2 i hi]
  have hne : some B ≠ (us i).ownBlock := fun e => by have := ((h3 i hi).lt B e.symm).1; omega
  have h1' : w2.heap[B]? = some (.cells cur 23 (0, 0)) := (hg.block B (Nat.lt_of_lt_of_le hBl hb.size) hne).trans ((hb.block B hBl).trans h1)
  refine ⟨by rw [cell_of_row w2 B i _ _ _ h1', h2 i hi], frozen_of_row w2 B i _ _ h1', ?_⟩
  refine ⟨fun j => if j = i then u' else us j, _, heap_setCell_same w2 B i _ _ _ h1', fun j hj => ?_, fun j hj => ?_, fun j k hj hk hjk g hgj hgk => ?_⟩
  · rw [Array.getElem?_setIfInBounds]
    by_cases e : i = j
    · subst e; rw [if_pos rfl, if_pos (Array.getElem?_eq_some_iff.1 (h2 i hi)).1]; simp
    · rw [if_neg e, h2 j hj]; simp [Ne.symm e]
  · refine own_other ?_ _ _ (by simp)
    by_cases e : j = i
    · subst e; simp only [if_pos]; exact hown
    · simp only [if_neg e]
      have ho := own_below (h3 j hj) hb
      refine World.ownsRow.kept ho hg ?_
      cases hv : (us j).ownBlock with
      | none => exact .inl rfl
      | some g => exact .inr fun e2 => h4 j i hj hi e g hv e2.symm
  · have old : ∀ t, t < n → t ≠ i → ∀ g, (us t).ownBlock = some g → u'.ownBlock ≠ some g := fun t ht hti g hgt hu => by
      rcases hat with h | h
      · exact h4 t i ht hi hti g hgt (by rw [← h]; exact hu)
      · rw [h] at hu
        have h5 := ((h3 t ht).lt g hgt).2
        have h6 := hb.size
        have h7 : w1.heap.size = g := by simpa using hu
        omega
    by_cases ej : j = i
    · by_cases ek : k = i
      · exact hjk (ej.trans ek.symm)
      · simp only [if_pos ej] at hgj; simp only [if_neg ek] at hgk
        exact old k hk ek g hgk hgj
    · by_cases ek : k = i
      · simp only [if_neg ej] at hgj; simp only [if_pos ek] at hgk
        exact old j hj ej g hgj hgk
      · simp only [if_neg ej] at hgj; simp only [if_neg ek] at hgk
        exact h4 j k hj hk hjk g hgj hgk
/-- A row of a slice of rows is as it was where another row is written. -/
theorem RowIs.grown {wa w2 : World} {base : Nat} {v u : Value} {l : List Nat} {n : Nat} {vals : List Value} (h1 : wa.ownsRow base 23 1 v n vals) (hgr : wa.grownBy w2 v.ownBlock) (h : RowIs wa base u l) : RowIs w2 base u l := by
  obtain ⟨g, cap, rfl, hg, hO⟩ := h
  have hl := hO.lt
  obtain ⟨cur, k1, k2⟩ := hO
  refine ⟨g, cap, rfl, hg, cur, (hgr.block g hl (fun e => ?_)).trans k1, k2⟩
  obtain ⟨_, ⟨rfl, _⟩ | ⟨g', cap', cur', rfl, _, hg', _⟩⟩ := h1
  · simp [Value.ownBlock] at e
  · have e2 : g = g' := by simpa [Value.ownBlock] using e
    subst e2
    rw [hg'] at k1
    simp at k1
/-- The rows of block B, to be read alone. -/
def Br (w : World) (B n : Nat) (us : Nat → Value) (ls : Nat → List Nat) : Prop := ∀ i, i < n → w.cell? ⟨B, i, none⟩ = some (us i) ∧ (∃ a c, us i = .slice a (ls i).length c) ∧ ((ls i) ≠ [] → RowIs w (B + 1) (us i) (ls i))
theorem Bh.read {w : World} {B n : Nat} {ls : Nat → List Nat} (h : Bh w B n ls) : ∃ us, Br w B n us ls := by
  obtain ⟨us, cur, h1, h2, h3, _⟩ := h
  refine ⟨us, fun i hi => ⟨by rw [cell_of_row w B i _ _ _ h1, h2 i hi], ?_, fun hne => ?_⟩⟩
  · obtain ⟨a, c, e, _⟩ := own_vl (h3 i hi) rfl
    exact ⟨a, c, by rw [e, List.length_map]⟩
  · have hp : 0 < (ls i).length := List.length_pos_iff.2 hne
    obtain ⟨g, cap, e, hb, hO⟩ := Own.of (l := (ls i).map Int.ofNat) (h3 i hi) hp
    refine ⟨g, cap, e, hb, hO.congr fun j hj => ?_⟩
    simp [hj]

theorem info23 : ∃ i, Try.prog.info? 23 = some i ∧ i.zero = some (.slice none 0 0) ∧ i.size = 1 ∧ i.bytes = 24 := by
  have h1 : (Try.prog.info? 23).map (·.zero) = some (some (.slice none 0 0)) := by kernel_rfl
  have h2 : (Try.prog.info? 23).map (·.size) = some 1 := by kernel_rfl
  have h3 : (Try.prog.info? 23).map (·.bytes) = some 24 := by kernel_rfl
  cases h : Try.prog.info? 23 with
  | none => rw [h] at h1; cases h1
  | some i =>
    rw [h] at h1 h2 h3
    exact ⟨i, rfl, Option.some.inj h1, Option.some.inj h2, Option.some.inj h3⟩
theorem und22' : Try.prog.underlying 22 = some (.slice 23) := by kernel_rfl
/-- The lists of a cut, by their least points. -/
def cutL (c : Nat → Nat) (n k : Nat) : List (List Nat) := ((List.range k).map fun f => bl c n f).filter fun l => !l.isEmpty
theorem cutL_succ (c : Nat → Nat) (n k : Nat) : cutL c n (k + 1) = if bl c n k = [] then cutL c n k else cutL c n k ++ [bl c n k] := by
  unfold cutL
  rw [List.range_succ, List.map_append, List.filter_append]
  by_cases h : bl c n k = []
  · simp [h]
  · have : (bl c n k).isEmpty = false := by simpa using h
    simp [h, this]
theorem cutL_len (c : Nat → Nat) (n k : Nat) : (cutL c n k).length ≤ k := by
  unfold cutL
  refine Nat.le_trans (List.length_filter_le _ _) ?_
  simp
theorem ownM {w w' : World} {b : Nat} {f : Nat → Int} {T : Nat} (h : MRow T w b f) (e : w'.heap[b]? = w.heap[b]?) : MRow T w' b f := e.trans h

set_option maxRecDepth 100000 in
set_option maxHeartbeats 4000000 in
theorem lists_any (c : Nat → Nat) (n : Nat) (w : World) (hn : n ≤ 7) (hc : ∀ i, c i ≤ i) :
    Calls Try.prog 48 #[.agg (mrow (cr c)), .int .i64 (n : Int)] w fun e w' => (∃ v, e = .returned v ∧ SlSl w' v (cutL c n n)) ∧ Below w.heap.size w w' := by
  obtain ⟨i23, hi, hz0, hz1, hz2⟩ := info23
  have hmk : ∀ w : World, (Instr.makeSlice 22 (.int .i64 (n : Int)) (.int .i64 (n : Int))).run Try.prog w = .ok (.slice (some ⟨w.heap.size, 0, none⟩) n n) (w.alloc (.cells (madeCells #[.slice none 0 0] n) 23)) := fun w => by
    have h := run_make (P := Try.prog) w 22 23 i23 (.slice none 0 0) und22' hi hz0 .i64 .i64 n n (by omega) (by omega) (by rw [hz2]; omega) (by omega)
    rw [hz1] at h
    simpa [Value.cells] using h
  have hk0 : MRow 69 ((w.alloc (.cells (mrow (cr c)) 69)).alloc (.cells (madeCells #[.slice none 0 0] n) 23)) w.heap.size (cr c) := (MRow.made 69 w _).alloc _
  have hB0 : Below w.heap.size w ((w.alloc (.cells (mrow (cr c)) 69)).alloc (.cells (madeCells #[.slice none 0 0] n) 23)) := (balloc w _).alloc (by simp) _
  have hH0 : Bh ((w.alloc (.cells (mrow (cr c)) 69)).alloc (.cells (madeCells #[.slice none 0 0] n) 23)) (w.heap.size + 1) n (fun f => bl c 0 f) := by
    have h := Bh.made (w.alloc (.cells (mrow (cr c)) 69)) n
    rw [World.size_alloc] at h
    exact h
  obtain ⟨i3, ti, tz0, tz1, tz2⟩ := info3
  have HI : Hid (Try.prog.info? 3 = some i3 ∧ i3.zero = some (.int .i64 0) ∧ i3.size = 1 ∧ i3.bytes = 8) := ⟨ti, tz0, tz1, tz2⟩
  have HI2 : Hid (Try.prog.info? 23 = some i23 ∧ i23.zero = some (.slice none 0 0) ∧ i23.size = 1 ∧ i23.bytes = 24) := ⟨hi, hz0, hz1, hz2⟩
  have HC : Hid (∀ i, c i ≤ i) := hc
  have hn0 : (0 : Int) ≤ (n : Int) := by omega
  have hn7 : (n : Int) ≤ 7 := by omega
  clear hi hz0 hz1 hz2 hc ti tz0 tz1 tz2
  go_enter Try.func48, Try.ntmps48
  go_wp2
  go_loopw [16] (fun i wr => ∃ p : Nat, i = .int .i64 p ∧ p ≤ n ∧ MRow 69 wr w.heap.size (cr c) ∧ Bh wr (w.heap.size + 1) n (fun f => bl c p f) ∧ Below w.heap.size w wr) (fun i _ => (n - intOf i).toNat)
  case atStart => exact ⟨0, rfl, by omega, hk0, hH0, hB0⟩
  case round =>
    clear hk0 hH0 hB0
    obtain ⟨p, rfl, hp, hK, hH, hB⟩ := hrel
    by_cases hlt : p < n
    · have hpi : (p : Int) < n := by omega
      have hdec : decide ((p : Int) < n) = true := by simp; omega
      have hcp := hK.cell p (by omega)
      unfold cr at hcp
      have hcl := HC.out p
      obtain ⟨f, Hf⟩ : ∃ f, Hid (c p = f) := ⟨_, rfl⟩
      rw [Hf.out] at hcp hcl
      have hfi : (f : Int) < n := by omega
      have hHl := hH.lt
      obtain ⟨u, hcu, hown, hfu, hback⟩ := hH.at (i := f) (by omega)
      have hlb := bl_len c p f
      obtain ⟨l, Hl⟩ : ∃ l, Hid (bl c p f = l) := ⟨_, rfl⟩
      simp only [Hl.out] at hown hlb
      have HBK : Hid (∀ (w1 w2 : World) (u' : Value) (l' : List Nat), Below wr.heap.size wr w1 → w1.grownBy w2 u.ownBlock → w2.ownsRow (w.heap.size + 1 + 1) 3 1 u' l'.length (vl l') → (u'.ownBlock = u.ownBlock ∨ u'.ownBlock = some w1.heap.size) →
        w2.cell? ⟨w.heap.size + 1, f, none⟩ = some u ∧ w2.frozen? ⟨w.heap.size + 1, f, none⟩ = false ∧ Bh (w2.setCell ⟨w.heap.size + 1, f, none⟩ u') (w.heap.size + 1) n (fun j => if j = f then l' else bl c p j)) := hback
      clear hback
      obtain ⟨k, Hk⟩ : ∃ k, Hid (l.length = k) := ⟨_, rfl⟩
      rw [Hk.out] at hown hlb
      obtain ⟨ua, uc, hue⟩ : ∃ ua uc, u = .slice ua k uc := by
        obtain ⟨_, ⟨e, e2⟩ | ⟨g, cap, cur, e, _⟩⟩ := hown
        · exact ⟨none, 0, by rw [e, e2]⟩
        · exact ⟨_, cap, e⟩
      subst hue
      go_wp2_with (first
        | (at_builtin; refine wpList_append_own_at _ rfl _ _ 23 rfl (w.heap.size + 1 + 1) 3 i3 (.int .i64 0) 1 8 und22 HI.out.1 HI.out.2.1 HI.out.2.2.1 HI.out.2.2.2 rfl (by decide) _ _ _ rfl (hown.alloc _) ⟨wr.heap.size, 0, none⟩ 1 1 [.int .i64 (p : Int)] rfl rfl ?c1 ?c2 ?c3 ?c4 ?c5 ?_))
      case c1 => exact cell_one_new _ _ _
      case c2 => intro u hu; simp at hu; subst hu; rfl
      case c3 => unfold maxLen; omega
      case c4 => omega
      case c5 => simp; omega
      · intro v' w1 hown' hgrow _ hat
        have e1 : vl l ++ [Value.int .i64 (p : Int)] = vl (l ++ [p]) := by simp [vl]
        rw [e1] at hown'
        have hbk := HBK.out _ w1 v' (l ++ [p]) (balloc wr (.cells #[.int .i64 (p : Int)] 3)) hgrow (by rw [List.length_append, Hk.out]; exact hown') (by simpa using hat)
        obtain ⟨hcu1, hfu1, hH1⟩ := hbk
        have hrow0 : ∀ g, (Value.slice ua k uc).ownBlock = some g → w.heap.size + 1 + 1 ≤ g := fun g hg => (hown.lt g hg).1
        have hb1 : Below w.heap.size w w1 := (hB.alloc hB.size _).grown hgrow (by simp; omega) (fun g hg => by have := hrow0 g hg; omega)
        have hK1 : MRow 69 w1 w.heap.size (cr c) := ownM hK ((hgrow.block w.heap.size (by simp; omega) (fun e => by have := hrow0 _ e.symm; omega)).trans ((balloc wr _).block w.heap.size (by omega)))
        obtain ⟨va, vc, hve⟩ : ∃ va vc, v' = .slice va (k + 1) vc := by
          obtain ⟨_, ⟨e, e2⟩ | ⟨g, cap, cur, e, _⟩⟩ := hown'
          · omega
          · exact ⟨_, cap, e⟩
        subst hve
        clear HBK hown hown' hgrow hat
        go_wp2
        go_roundw
        case rel =>
          refine ⟨p + 1, by go_num, by omega, hK1.other _ _ (by simp), hH1.congr (fun j hj => ?_), hb1.setCell (p := ⟨w.heap.size + 1, f, none⟩) (by simp) _⟩
          rw [bl_succ, Hf.out]
          by_cases e : j = f
          · subst e; rw [if_pos rfl, if_pos rfl, Hl.out]
          · rw [if_neg e, if_neg (Ne.symm e)]
        case measure => simp [intOf]; omega
    · obtain rfl : p = n := by omega
      have hkd : decide ((p : Int) < (p : Int)) = false := by simp
      obtain ⟨us, hBr⟩ := hH.read
      have hHl := hH.lt
      clear hH hK
      go_wp2
      go_loopw [8, 34] (fun o i wr => ∃ j : Nat, i = .int .i64 j ∧ j ≤ p ∧ CycR wr (w.heap.size + 1 + 1) o (cutL c p j) ∧ Hid (Br wr (w.heap.size + 1) p us (fun f => bl c p f)) ∧ w.heap.size + 1 < wr.heap.size ∧ Below w.heap.size w wr) (fun _ i _ => (p - intOf i).toNat)
      case atStart => exact ⟨0, rfl, by omega, CycR.nil _ _, hBr, hHl, hB⟩
      case round =>
        clear hBr hHl hB hkd
        obtain ⟨j, rfl, hj, hcy, HBr, hHl, hB⟩ := hrel
        by_cases hlt : j < p
        · have hji : (j : Int) < p := by omega
          have hdec : decide ((j : Int) < p) = true := by simp; omega
          obtain ⟨hcu, ⟨ua, uc, hue⟩, hrow⟩ := HBr.out j hlt
          have hbl := bl_len c p j
          have HCS : Hid (cutL c p (j + 1) = if bl c p j = [] then cutL c p j else cutL c p j ++ [bl c p j]) := cutL_succ c p j
          have hcl := cutL_len c p j
          obtain ⟨l, Hl⟩ : ∃ l, Hid (bl c p j = l) := ⟨_, rfl⟩
          simp only [Hl.out] at hrow hue hbl
          rw [Hl.out] at HCS
          rw [hue] at hcu
          obtain ⟨k, Hk⟩ : ∃ k, Hid (l.length = k) := ⟨_, rfl⟩
          rw [Hk.out] at hcu hue hbl
          obtain ⟨oa, oc, hoe⟩ := hcy.form
          subst hoe
          by_cases e : k = 0
          · subst e
            have HE : Hid (l = []) := List.length_eq_zero_iff.1 Hk.out
            clear hrow hue
            go_wp2
            go_roundw
            case rel => exact ⟨j + 1, by go_num, by omega, by rw [HCS.out, if_pos HE.out]; exact hcy, HBr, hHl, hB⟩
            case measure => simp [intOf]; omega
          · have hkp : (0 : Int) < (k : Int) := by omega
            have HE : Hid (¬ l = []) := fun h => e (by rw [← Hk.out, h]; rfl)
            have HR : Hid (RowIs wr (w.heap.size + 1 + 1) (.slice ua k uc) l) := by rw [← hue]; exact hrow HE.out
            clear hrow e hue
            obtain ⟨q, Hq⟩ : ∃ q, Hid ((cutL c p j).length = q) := ⟨_, rfl⟩
            rw [Hq.out] at hcl hcy ⊢
            obtain ⟨vals, hv1, hv2⟩ := hcy
            rw [Hq.out] at hv1
            have HV2 : Hid (∀ (i : Nat) (u : Value) (l : List Nat), vals[i]? = some u → (cutL c p j)[i]? = some l → RowIs wr (w.heap.size + 1 + 1) u l) := hv2
            clear hv2
            go_wp2_with (first
              | (at_builtin; refine wpList_append_own_at _ rfl _ _ 22 rfl (w.heap.size + 1 + 1) 23 i23 (.slice none 0 0) 1 24 und22' HI2.out.1 HI2.out.2.1 HI2.out.2.2.1 HI2.out.2.2.2 rfl (by decide) _ _ _ rfl (hv1.alloc _) ⟨wr.heap.size, 0, none⟩ 1 1 [.slice ua k uc] rfl rfl ?c1 ?c2 ?c3 ?c4 ?c5 ?_))
            case c1 => exact cell_one_new _ _ _
            case c2 => intro u hu; simp at hu; subst hu; rfl
            case c3 => unfold maxLen; omega
            case c4 => omega
            case c5 => simp; omega
            · intro v' w1 hown' hgrow _ _
              have hb1 : Below w.heap.size w w1 := (hB.alloc hB.size _).grown hgrow (by simp; omega) (fun g hg => by have := (hv1.lt g hg).1; omega)
              have hal : ∀ {u l}, RowIs wr (w.heap.size + 1 + 1) u l → RowIs (wr.alloc (.cells #[.slice ua k uc] 23)) (w.heap.size + 1 + 1) u l := fun h => h.kp (M := 0) (Kp.below (balloc _ _)) (by omega)
              have hcy1 : CycR w1 (w.heap.size + 1 + 1) v' (cutL c p j ++ [l]) := CycR.more (wa := wr.alloc (.cells #[.slice ua k uc] 23)) (vals := vals) (by rw [Hq.out]; exact hv1.alloc _) (fun i u l h1 h2 => hal (HV2.out i u l h1 h2)) (hal HR.out) (by rw [Hq.out]; exact hown') hgrow
              have hBr1 : Br w1 (w.heap.size + 1) p us (fun f => bl c p f) := fun i hi => by
                obtain ⟨k1, k2, k3⟩ := HBr.out i hi
                refine ⟨?_, k2, fun h => RowIs.grown (hv1.alloc _) hgrow (hal (k3 h))⟩
                have e2 : w1.heap[w.heap.size + 1]? = wr.heap[w.heap.size + 1]? := (hgrow.block _ (by simp; omega) (fun e => by have := (hv1.lt _ e.symm).1; omega)).trans ((balloc wr _).block _ hHl)
                exact (World.cell?_of_block (w := wr) (a := ⟨w.heap.size + 1, i, none⟩) e2).trans k1
              have hs1 : w.heap.size + 1 < w1.heap.size := by have := hgrow.size; simp at this; omega
              obtain ⟨va, vc, hve⟩ : ∃ va vc, v' = .slice va (q + 1) vc := by
                obtain ⟨_, ⟨e, e2⟩ | ⟨g, cap, cur, e, _⟩⟩ := hown'
                · omega
                · exact ⟨_, cap, e⟩
              subst hve
              clear hown' hgrow hv1 HV2
              go_wp2
              go_roundw
              case rel => exact ⟨j + 1, by go_num, by omega, by rw [HCS.out, if_neg HE.out]; exact hcy1, hBr1, hs1, hb1⟩
              case measure => simp [intOf]; omega
        · obtain rfl : j = p := by omega
          have hkd : decide ((j : Int) < (j : Int)) = false := by simp
          go_wp2
          go_ret
          exact ⟨⟨_, rfl, hcy.sl⟩, hB⟩

end Go.Proofs.Ytnbkabggmomhlaa
