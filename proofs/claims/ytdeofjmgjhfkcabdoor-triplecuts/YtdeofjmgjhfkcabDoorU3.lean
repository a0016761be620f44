/- The walk of passes. -/
import Derived.Test.YtdeofjmgjhfkcabDoorTTh
import Derived.Test.YtdeofjmgjhfkcabDoorA8
import Derived.Test.YtdeofjmgjhfkcabDoorP2
import Derived.Test.YtdeofjmgjhfkcabDoorTKi
/- A table of numbers in memory: made, stored into. -/
namespace Go.Proofs.YtdeofjmgjhfkcabDoor
open Go.RowKit

theorem run_mkI (n : Nat) (hn : n ≤ 10000) (w : World) : (Instr.makeSlice 29 (.int .i64 (n : Int)) (.int .i64 (n : Int))).run Tryd.prog w = .ok (.slice (some ⟨w.heap.size, 0, none⟩) n n) (w.alloc (.cells (madeCells #[.int .i64 0] n) 3)) := by
  obtain ⟨i3, hi, hz0, hz1, hz2⟩ := info3
  have h := run_make (P := Tryd.prog) w 29 3 i3 (.int .i64 0) und22 hi hz0 .i64 .i64 n n (by omega) (by omega) (by rw [hz2]; omega) (by omega)
  simpa [hz1, Value.cells] using h
theorem run_mkR (n : Nat) (hn : n ≤ 10000) (w : World) : (Instr.makeSlice 22 (.int .i64 (n : Int)) (.int .i64 (n : Int))).run Tryd.prog w = .ok (.slice (some ⟨w.heap.size, 0, none⟩) n n) (w.alloc (.cells (madeCells #[.slice none 0 0] n) 29)) := by
  obtain ⟨i3, hi, hz0, hz1, hz2⟩ := info36
  have h := run_make (P := Tryd.prog) w 22 29 i3 (.slice none 0 0) undR hi hz0 .i64 .i64 n n (by omega) (by omega) (by rw [hz2]; omega) (by omega)
  simpa [hz1, Value.cells] using h
theorem own_mk (w : World) (n : Nat) : Own (w.alloc (.cells (madeCells #[.int .i64 0] n) 3)) w.heap.size n (fun _ => ((0 : Nat) : Int)) := by
  refine ⟨_, heap_alloc_new w _, fun j hj => ?_⟩
  rw [Array.getElem?_eq_getElem (by rw [size_madeCells]; exact hj)]
  simp [madeCells, Nat.mod_one]
/-- k rows of a table of v rows are made. -/
structure Tb (w : World) (g v k : Nat) (h : Nat → Nat) (f : Nat → Nat → Nat) : Prop where
  o : ∃ cur, w.heap[g]? = some (.cells cur 29 (0, 0)) ∧ cur.size = v ∧ ∀ x, x < k → cur[x]? = some (.slice (some ⟨h x, 0, none⟩) v v)
  r : ∀ x, x < k → Own w (h x) v (fun y => (f x y : Int))
  inj : ∀ x y, x < k → y < k → h x = h y → x = y
theorem Tb.start (w : World) (v : Nat) : Tb (w.alloc (.cells (madeCells #[.slice none 0 0] v) 29)) w.heap.size v 0 (fun _ => 0) (fun _ _ => 0) :=
  ⟨⟨_, heap_alloc_new w _, size_madeCells _ _, fun x hx => by omega⟩, fun x hx => by omega, fun x y hx => by omega⟩
theorem Tb.glt {w : World} {g v k : Nat} {h : Nat → Nat} {f : Nat → Nat → Nat} (t : Tb w g v k h f) : g < w.heap.size := by
  obtain ⟨cur, h1, _⟩ := t.o
  exact (Array.getElem?_eq_some_iff.1 h1).1
theorem Tb.ne {w : World} {g v k : Nat} {h : Nat → Nat} {f : Nat → Nat → Nat} (t : Tb w g v k h f) {x : Nat} (hx : x < k) : h x ≠ g := fun e => by
  obtain ⟨cur, h1, _⟩ := t.o
  obtain ⟨c, h2, _⟩ := t.r x hx
  rw [e, h1] at h2
  simp at h2
theorem Tb.below {w w' : World} {g v k : Nat} {h : Nat → Nat} {f : Nat → Nat → Nat} (t : Tb w g v k h f) (b : Below w.heap.size w w') : Tb w' g v k h f := by
  obtain ⟨cur, h1, h2, h3⟩ := t.o
  exact ⟨⟨cur, (b.block g t.glt).trans h1, h2, h3⟩, fun x hx => (t.r x hx).below b, t.inj⟩
theorem Tb.row {w : World} {g v k : Nat} {h : Nat → Nat} {f : Nat → Nat → Nat} (t : Tb w g v k h f) {x : Nat} (hx : x < k) : w.cell? ⟨g, x, none⟩ = some (.slice (some ⟨h x, 0, none⟩) v v) := by
  obtain ⟨cur, h1, _, h3⟩ := t.o
  rw [cell_of_row _ _ _ _ _ _ h1]
  exact h3 x hx
theorem Tb.cell {w : World} {g v k : Nat} {h : Nat → Nat} {f : Nat → Nat → Nat} (t : Tb w g v k h f) {x y : Nat} (hx : x < k) (hy : y < v) : w.cell? ⟨h x, y, none⟩ = some (.int .i64 (f x y : Int)) := (t.r x hx).cell y hy
theorem Tb.gfrozen {w : World} {g v k : Nat} {h : Nat → Nat} {f : Nat → Nat → Nat} (t : Tb w g v k h f) (j : Nat) : w.frozen? ⟨g, j, none⟩ = false := by
  obtain ⟨cur, h1, _⟩ := t.o
  exact frozen_of_row w g j _ _ h1
theorem Tb.gcell {w : World} {g v k : Nat} {h : Nat → Nat} {f : Nat → Nat → Nat} (t : Tb w g v k h f) {j : Nat} (hj : j < v) : ∃ u, w.cell? ⟨g, j, none⟩ = some u := by
  obtain ⟨cur, h1, h2, _⟩ := t.o
  exact ⟨_, by rw [cell_of_row _ _ _ _ _ _ h1]; exact Array.getElem?_eq_getElem (by omega)⟩
/-- One row more. -/
theorem Tb.more {w : World} {g v k : Nat} {h : Nat → Nat} (t : Tb w g v k h (fun _ _ => 0)) (hk : k < v) :
    Tb ((w.alloc (.cells (madeCells #[.int .i64 0] v) 3)).setCell ⟨g, k, none⟩ (.slice (some ⟨w.heap.size, 0, none⟩) v v)) g v (k + 1) (fun x => if x = k then w.heap.size else h x) (fun _ _ => 0) := by
  have b := balloc w (.cells (madeCells #[.int .i64 0] v) 3)
  have t' := t.below b
  obtain ⟨cur, h1, h2, h3⟩ := t'.o
  have hg := t.glt
  refine ⟨⟨_, heap_setCell_same _ g k _ _ _ h1, by simpa using h2, fun x hx => ?_⟩, fun x hx => ?_, fun x y hx hy => ?_⟩
  · rw [Array.getElem?_setIfInBounds]
    by_cases e : k = x
    · subst e; rw [if_pos rfl, if_pos (by omega)]; simp
    · rw [if_neg e, h3 x (by omega)]
      have : ¬ x = k := fun e' => e e'.symm
      simp [this]
  · by_cases e : x = k
    · subst e
      simp only [if_true]
      exact (own_mk w v).other _ _ (by show w.heap.size ≠ g; omega)
    · simp only [e, if_false]
      exact (t'.r x (by omega)).other _ _ (t.ne (by omega))
  · have low : ∀ z, z < k → h z < w.heap.size := fun z hz => (t.r z hz).lt
    by_cases e1 : x = k <;> by_cases e2 : y = k
    · intro _; omega
    · simp only [e1, e2, if_true, if_false]
      intro e
      have := low y (by omega)
      omega
    · simp only [e1, e2, if_true, if_false]
      intro e
      have := low x (by omega)
      omega
    · simp only [e1, e2, if_false]
      exact t.inj x y (by omega) (by omega)
/-- One number is stored. -/
theorem Tb.set {w : World} {g v k : Nat} {h : Nat → Nat} {f : Nat → Nat → Nat} (t : Tb w g v k h f) {x : Nat} (hx : x < k) (y z : Nat) : Tb (w.setCell ⟨h x, y, none⟩ (.int .i64 (z : Int))) g v k h (fun p q => if p = x ∧ q = y then z else f p q) := by
  obtain ⟨cur, h1, h2, h3⟩ := t.o
  refine ⟨⟨cur, (heap_setCell_other w ⟨h x, y, none⟩ g _ (fun e => t.ne hx e.symm)).trans h1, h2, h3⟩, fun p hp => ?_, t.inj⟩
  by_cases e : p = x
  · subst e
    refine ((t.r p hp).set y (z : Int)).congr fun q hq => ?_
    unfold upd
    by_cases e2 : q = y
    · simp [e2]
    · simp [e2]
  · refine ((t.r p hp).other ⟨h x, y, none⟩ _ fun e' => e (t.inj p x hp hx e')).congr fun q hq => ?_
    simp [e]
theorem Tb.congr {w : World} {g v k : Nat} {h : Nat → Nat} {f f' : Nat → Nat → Nat} (t : Tb w g v k h f) (e : ∀ x y, f x y = f' x y) : Tb w g v k h f' := by
  have : f = f' := funext fun x => funext fun y => e x y
  rw [← this]; exact t
theorem Tb.set2 {w : World} {g v k : Nat} {h : Nat → Nat} {f : Nat → Nat → Nat} (t : Tb w g v k h f) {x y : Nat} (hx : x < k) (hy : y < k) (z : Nat) : Tb ((w.setCell ⟨h x, y, none⟩ (.int .i64 (z : Int))).setCell ⟨h y, x, none⟩ (.int .i64 (z : Int))) g v k h (st2 f x y z) := by
  refine ((t.set hx y z).set hy x z).congr fun p q => ?_
  unfold st2
  by_cases c1 : p = y ∧ q = x
  · rw [if_pos c1, if_pos (.inr c1)]
  · rw [if_neg c1]
    by_cases c2 : p = x ∧ q = y
    · rw [if_pos c2, if_pos (.inl c2)]
    · rw [if_neg c2, if_neg fun h => h.elim c2 c1]

end Go.Proofs.YtdeofjmgjhfkcabDoor

/- The walk of thirds. -/
namespace Go.Proofs.YtdeofjmgjhfkcabDoor
open Go.RowKit

set_option maxRecDepth 100000 in
set_option maxHeartbeats 8000000 in
theorem thirds_any (v : Nat) (B : List (List Nat)) (u : Value) (w : World) (hv : v ≤ 40) (h200 : B.length ≤ 200) (hb3 : ∀ b ∈ B, b.length = 3 ∧ (∀ x ∈ b, x < v) ∧ b.Nodup) (hu : Rw w u (toZ B)) :
    Calls Tryd.prog 19 #[.agg #[.int .i64 (v : Int), u]] w fun e w' => ∃ g h, e = .returned (.slice (some ⟨g, 0, none⟩) v v) ∧ Tb w' g v v h (thB B) ∧ Below w.heap.size w w' := by
  obtain ⟨a, c, rfl, hD⟩ := drow_of hu
  have HD : Hid (DRow w a B) := hD
  have HRO : Hid (∀ i, i < B.length → _) := fun i hi => rows3 (fun b hb => ⟨(hb3 b hb).1, fun x hx => by have := (hb3 b hb).2.1 x hx; omega⟩) hD i hi
  have HLT : Hid (∀ (i : Nat) (b : List Nat), B[i]? = some b → (∀ j, j < 3 → b.getD j 0 < v) ∧ ∀ j, j < 3 → b.getD j 0 ≠ b.getD ((j + 1) % 3) 0) := fun i b h => by
    obtain ⟨h3, hl, hn⟩ := hb3 b (List.mem_of_getElem? h)
    refine ⟨fun j hj => hl _ (getD_mem' (by omega)), fun j hj e => ?_⟩
    have hj' : (j + 1) % 3 < 3 := Nat.mod_lt _ (by omega)
    have := getD_inj' hn (by omega) (by omega) e
    omega
  have HTS : Hid (∀ (i : Nat) (b : List Nat), B[i]? = some b → thB (B.take (i + 1)) = thI (thB (B.take i)) b 3) := fun i b h => thB_succ h
  have HTE : Hid (thB (B.take B.length) = thB B) := by show _ = _; rw [List.take_length]
  have HT0 : Hid (thB (B.take 0) = fun _ _ => 0) := rfl
  have HTI : Hid (∀ (f : Nat → Nat → Nat) (b : List Nat) (j : Nat), thI f b (j + 1) = st2 (thI f b j) (b.getD j 0) (b.getD ((j + 1) % 3) 0) (b.getD ((j + 2) % 3) 0)) := fun _ _ _ => rfl
  have HC : Hid (∀ W, Below (w.heap.size + 1) (w.alloc (.cells #[.int .i64 (v : Int), .slice a B.length c] 25)) W → W.cell? ⟨w.heap.size, 0, none⟩ = some (.int .i64 (v : Int)) ∧ W.cell? ⟨w.heap.size, 1, none⟩ = some (.slice a B.length c)) := fun W b => des_box v _ w W (by rw [World.size_alloc]; exact b)
  have HBW : Hid (∀ W, Below (w.heap.size + 1) (w.alloc (.cells #[.int .i64 (v : Int), .slice a B.length c] 25)) W → Below w.heap.size w W) := fun W b => (balloc w _).trans (b.mono (by omega))
  have hmk1 := run_mkR v (by omega)
  have hmk2 := run_mkI v (by omega)
  have hS0 : Tb ((w.alloc (.cells #[.int .i64 (v : Int), .slice a B.length c] 25)).alloc (.cells (madeCells #[.slice none 0 0] v) 29)) (w.heap.size + 1) v 0 (fun _ => 0) (fun _ _ => 0) := by
    have := Tb.start (w.alloc (.cells #[.int .i64 (v : Int), .slice a B.length c] 25)) v
    rw [World.size_alloc] at this
    exact this
  have HT00 : Hid (Tb ((w.alloc (.cells #[.int .i64 (v : Int), .slice a B.length c] 25)).alloc (.cells (madeCells #[.slice none 0 0] v) 29)) (w.heap.size + 1) v 0 (fun _ => 0) (fun _ _ => 0)) := hS0
  have HB0 : Hid (Below (w.heap.size + 1) (w.alloc (.cells #[.int .i64 (v : Int), .slice a B.length c] 25)) ((w.alloc (.cells #[.int .i64 (v : Int), .slice a B.length c] 25)).alloc (.cells (madeCells #[.slice none 0 0] v) 29))) := (balloc _ _).mono (by simp)
  generalize hBn : B.length = n at *
  obtain ⟨x0, x1⟩ := HC.out _ (Below.refl _ _)
  clear hu hD hb3 hS0
  go_enter Tryd.func19, Tryd.ntmps19
  go_wp2
  go_loopw [16] (fun xv wr => ∃ (x : Nat) (h : Nat → Nat), xv = .int .i64 (x : Int) ∧ x ≤ v ∧ Tb wr (w.heap.size + 1) v x h (fun _ _ => 0) ∧ Hid (∀ y, y < x → w.heap.size + 1 ≤ h y) ∧ Below (w.heap.size + 1) (w.alloc (.cells #[.int .i64 (v : Int), .slice a n c] 25)) wr) (fun xv _ => (v - intOf xv).toNat)
  case atStart => exact ⟨0, _, rfl, by omega, HT00.out, fun y hy => by omega, HB0.out⟩
  case round =>
    clear HT00 HB0 x0 x1
    obtain ⟨x, h, rfl, hx, hT, HH, hB⟩ := hrel
    obtain ⟨y0, y1⟩ := HC.out _ hB
    by_cases hlt : x < v
    · have hdi : decide ((x : Int) < (v : Int)) = true := by simp; omega
      have hii : (x : Int) < (v : Int) := by omega
      have hsz := hB.size
      rw [World.size_alloc] at hsz
      have bal := balloc wr (.cells (madeCells #[.int .i64 0] v) 3)
      obtain ⟨q0, hq0⟩ := (hT.below bal).gcell hlt
      have f0 := (hT.below bal).gfrozen x
      have hT2 := hT.more hlt
      have HH2 : Hid (∀ y, y < x + 1 → w.heap.size + 1 ≤ (fun z => if z = x then wr.heap.size else h z) y) := fun y hy => by
        show _ ≤ if y = x then _ else _
        by_cases e : y = x
        · rw [if_pos e]; omega
        · rw [if_neg e]; exact HH.out y (by omega)
      have hB2 : Below (w.heap.size + 1) (w.alloc (.cells #[.int .i64 (v : Int), .slice a n c] 25)) ((wr.alloc (.cells (madeCells #[.int .i64 0] v) 3)).setCell ⟨w.heap.size + 1, x, none⟩ (.slice (some ⟨wr.heap.size, 0, none⟩) v v)) := (hB.trans (bal.mono (by omega))).setCell (p := ⟨w.heap.size + 1, x, none⟩) (Nat.le_refl _) _
      have HT2 : Hid (Tb ((wr.alloc (.cells (madeCells #[.int .i64 0] v) 3)).setCell ⟨w.heap.size + 1, x, none⟩ (.slice (some ⟨wr.heap.size, 0, none⟩) v v)) (w.heap.size + 1) v (x + 1) (fun z => if z = x then wr.heap.size else h z) (fun _ _ => 0)) := hT2
      clear hT hT2 HH hB bal
      go_wp2
      go_roundw
      case rel => exact ⟨x + 1, _, by go_num, by omega, HT2.out, HH2, hB2⟩
      case measure => simp [intOf]; omega
    · have hdi : decide ((x : Int) < (v : Int)) = false := by simp; omega
      have hxv : v = x := by omega
      subst hxv
      have HT1 : Hid (Tb wr (w.heap.size + 1) v v h (thB (B.take 0))) := by rw [HT0.out]; exact hT
      have HB1 : Hid (Below (w.heap.size + 1) (w.alloc (.cells #[.int .i64 (v : Int), .slice a n c] 25)) wr) := hB
      clear hT hB hmk1 hmk2
      go_wp2
      go_loopw [29] (fun iv wr => ∃ (i : Nat), iv = .int .i64 (i : Int) ∧ i ≤ n ∧ Tb wr (w.heap.size + 1) v v h (thB (B.take i)) ∧ Below (w.heap.size + 1) (w.alloc (.cells #[.int .i64 (v : Int), .slice a n c] 25)) wr) (fun iv _ => (n - intOf iv).toNat)
      case atStart => exact ⟨0, rfl, by omega, HT1.out, HB1.out⟩
      case round =>
        clear HT1 HB1 y0 y1
        obtain ⟨i, rfl, hi, hT, hB⟩ := hrel
        by_cases hli : i < n
        · have hdj : decide ((i : Int) < (n : Int)) = true := by simp; omega
          have hji : (i : Int) < (n : Int) := by omega
          obtain ⟨b, bb, off, bq, oq, uc, hbi, hb99, rfl, hrow⟩ := HRO.out i hli
          obtain ⟨hlv, hne⟩ := HLT.out i b hbi
          have HLV : Hid (∀ j, j < 3 → b.getD j 0 < v) := hlv
          have HNE : Hid (∀ j, j < 3 → b.getD j 0 ≠ b.getD ((j + 1) % 3) 0) := hne
          have r0 := (hrow wr (HBW.out wr hB)).1
          have HRW : Hid (∀ W, Below w.heap.size w W → ∀ j, j < 3 → W.cell? ⟨bq, oq + j, none⟩ = some (.int .i64 ((b.getD j 0 : Nat) : Int))) := fun W h => (hrow W h).2
          have hts := HTS.out i b hbi
          obtain ⟨F, HF⟩ : ∃ F, Hid (thB (B.take i) = F) := ⟨_, rfl⟩
          rw [HF.out] at hT hts
          have HNX : Hid (thB (B.take (i + 1)) = thI F b 3) := hts
          have HT1 : Hid (Tb wr (w.heap.size + 1) v v h (thI F b 0)) := hT
          have HB1 : Hid (Below (w.heap.size + 1) (w.alloc (.cells #[.int .i64 (v : Int), .slice (some ⟨bb, off, none⟩) n c] 25)) wr) := hB
          clear hT hB hts hrow hbi hb99 hlv hne
          go_wp2
          go_loopw [35] (fun jv wr => ∃ (j : Nat), jv = .int .i64 (j : Int) ∧ j ≤ 3 ∧ Tb wr (w.heap.size + 1) v v h (thI F b j) ∧ Below (w.heap.size + 1) (w.alloc (.cells #[.int .i64 (v : Int), .slice (some ⟨bb, off, none⟩) n c] 25)) wr) (fun jv _ => (3 - intOf jv).toNat)
          case atStart => exact ⟨0, rfl, by omega, HT1.out, HB1.out⟩
          case round =>
            clear HT1 HB1 r0
            obtain ⟨j, rfl, hj, hT, hB⟩ := hrel
            by_cases hlj : j < 3
            · have hdk : decide ((j : Int) < 3) = true := by simp; omega
              have hki : (j : Int) < 3 := by omega
              have hti := HTI.out F b j
              have hrem1 : ((j : Int) + 1).tmod 3 = (((j + 1) % 3 : Nat) : Int) := by rw [Int.tmod_eq_emod_of_nonneg (by omega)]; rfl
              have hrem2 : ((j : Int) + 2).tmod 3 = (((j + 2) % 3 : Nat) : Int) := by rw [Int.tmod_eq_emod_of_nonneg (by omega)]; rfl
              have hr1 : (j + 1) % 3 < 3 := Nat.mod_lt _ (by omega)
              have hr2 : (j + 2) % 3 < 3 := Nat.mod_lt _ (by omega)
              have q0 := HRW.out wr (HBW.out wr hB) j hlj
              have q1 := HRW.out wr (HBW.out wr hB) _ hr1
              have q2 := HRW.out wr (HBW.out wr hB) _ hr2
              have l0 := HLV.out j hlj
              have l1 := HLV.out _ hr1
              have l2 := HLV.out _ hr2
              have ne1 := HNE.out j hlj
              generalize b.getD j 0 = x at *
              generalize b.getD ((j + 1) % 3) 0 = y at *
              generalize b.getD ((j + 2) % 3) 0 = z at *
              generalize (j + 1) % 3 = s1 at *
              generalize (j + 2) % 3 = s2 at *
              have hn1 : ¬ (3 : Int) ≤ (s1 : Int) := by omega
              have hn2 : ¬ (3 : Int) ≤ (s2 : Int) := by omega
              have HST : Hid (∀ W : World, W.heap = wr.heap → Tb ((W.setCell ⟨h x, y, none⟩ (.int .i64 (z : Int))).setCell ⟨h y, x, none⟩ (.int .i64 (z : Int))) (w.heap.size + 1) v v h (thI F b (j + 1))) := fun W hW => by
                rw [hti]
                have hTW : Tb W (w.heap.size + 1) v v h (thI F b j) := by
                  obtain ⟨cur, h1, h2, h3⟩ := hT.o
                  exact ⟨⟨cur, (congrArg (·[w.heap.size + 1]?) hW).trans h1, h2, h3⟩, fun p hp => by
                    obtain ⟨cc, k1, k2⟩ := hT.r p hp
                    exact ⟨cc, (congrArg (·[h p]?) hW).trans k1, k2⟩, hT.inj⟩
                exact hTW.set2 l0 l1 z
              have HBS : Hid (∀ W : World, Below (w.heap.size + 1) (w.alloc (.cells #[.int .i64 (v : Int), .slice (some ⟨bb, off, none⟩) n c] 25)) W → Below (w.heap.size + 1) (w.alloc (.cells #[.int .i64 (v : Int), .slice (some ⟨bb, off, none⟩) n c] 25)) ((W.setCell ⟨h x, y, none⟩ (.int .i64 (z : Int))).setCell ⟨h y, x, none⟩ (.int .i64 (z : Int)))) := fun W hW => (hW.setCell (p := ⟨h x, y, none⟩) (HH.out x l0) _).setCell (p := ⟨h y, x, none⟩) (HH.out y l1) _
              have t0 := hT.row l0
              have t1 := hT.row l1
              have c0 := hT.cell l0 l1
              have c1 := hT.cell l1 l0
              have f0 := (hT.r x l0).frozen y
              have f1 := (hT.r y l1).frozen x
              have hxy : h x ≠ h y := fun e => ne1 (hT.inj x y l0 l1 e)
              have hyx : h y ≠ h x := fun e => hxy e.symm
              obtain ⟨e0, He0⟩ : ∃ e0, Hid (thI F b j x y = e0) := ⟨_, rfl⟩
              obtain ⟨e1, He1⟩ : ∃ e1, Hid (thI F b j y x = e1) := ⟨_, rfl⟩
              rw [He0.out] at c0
              rw [He1.out] at c1
              obtain ⟨gx, Hgx⟩ : ∃ q, Hid (h x = q) := ⟨_, rfl⟩
              obtain ⟨gy, Hgy⟩ : ∃ q, Hid (h y = q) := ⟨_, rfl⟩
              rw [Hgx.out] at t0 c0 f0 hxy hyx HST HBS
              rw [Hgy.out] at t1 c1 f1 hxy hyx HST HBS
              clear hti hT He0 He1 ne1
              go_wp2
              go_quiet (fail)
              go_wp2
              go_region
              all_goals
                go_wp2
                go_roundw
                case rel => exact ⟨j + 1, by go_num, by omega, HST.out _ rfl, HBS.out _ (hB.trans ⟨rfl, rfl, rfl, Nat.le_refl _, fun _ _ => rfl⟩)⟩
                case measure => simp [intOf]; omega
            · have hdk : decide ((j : Int) < 3) = false := by simp; omega
              obtain rfl : j = 3 := by omega
              rw [← HNX.out] at hT
              go_wp2
              go_roundw
              case rel => exact ⟨i + 1, by go_num, by omega, hT, hB⟩
              case measure => simp [intOf]; omega
        · have hdj : decide ((i : Int) < (n : Int)) = false := by simp; omega
          have hin : n = i := by omega
          subst hin
          rw [HTE.out] at hT
          go_wp2
          go_ret
          exact ⟨_, h, rfl, hT, HBW.out wr hB⟩

end Go.Proofs.YtdeofjmgjhfkcabDoor

namespace Go.Proofs.YtdeofjmgjhfkcabDoor
open Go.RowKit

theorem sm_succ (n : Nat) (f : Nat → Nat) : sm (n + 1) f = sm n f + f n := by
  unfold sm
  rw [List.range_succ, dS_append, dS_cons, dS_nil]
  omega
theorem sm_le {n c : Nat} {f : Nat → Nat} (h : ∀ i, i < n → f i ≤ c) : sm n f ≤ n * c := by
  unfold sm
  have := dS_le (l := List.range n) (f := fun _ => c) (g := f) fun a ha => h a (List.mem_range.1 ha)
  rw [dS_const, List.length_range] at this
  exact this
theorem rc_succ (p : Nat → Bool) (y : Nat) : (List.range (y + 1)).countP p = (List.range y).countP p + if p y = true then 1 else 0 := by
  rw [List.range_succ, List.countP_append]
  simp [List.countP_cons]
theorem rc_le (p : Nat → Bool) (y : Nat) : (List.range y).countP p ≤ y := by
  have := List.countP_le_length (p := p) (l := List.range y)
  rwa [List.length_range] at this
def mY (F : Nat → Nat → Nat) (o x y : Nat) : Nat := (List.range y).countP fun y => metT F o x y
def mX (F : Nat → Nat → Nat) (v o x : Nat) : Nat := sm x fun x => mY F o x v
def mO (F : Nat → Nat → Nat) (v o : Nat) : Nat := sm o fun o => mX F v o v
set_option maxRecDepth 100000 in
set_option maxHeartbeats 16000000 in
theorem passes_any (v g : Nat) (h : Nat → Nat) (F : Nat → Nat → Nat) (w : World) (hv : v ≤ 40) (hT : Tb w g v v h F) (hF : ∀ x y, x < v → y < v → x ≠ y → F x y < v) :
    Calls Tryd.prog 18 #[.int .i64 (v : Int), .slice (some ⟨g, 0, none⟩) v v] w fun e w' => e = .returned (.int .i64 ((mO F v v / 24 : Nat) : Int)) ∧ Below w.heap.size w w' := by
  have HT : Hid (∀ W, Below w.heap.size w W → Tb W g v v h F) := fun W b => hT.below b
  have HF : Hid (∀ x y, x < v → y < v → x ≠ y → F x y < v) := hF
  have HYS : Hid (∀ o x y, mY F o x (y + 1) = mY F o x y + if metT F o x y = true then 1 else 0) := fun o x y => rc_succ _ y
  have HYL : Hid (∀ o x y, mY F o x y ≤ y) := fun o x y => rc_le _ y
  have HXS : Hid (∀ o x, mX F v o (x + 1) = mX F v o x + mY F o x v) := fun o x => sm_succ x _
  have HXL : Hid (∀ o x, mX F v o x ≤ x * v) := fun o x => sm_le fun i _ => rc_le _ v
  have HOS : Hid (∀ o, mO F v (o + 1) = mO F v o + mX F v o v) := fun o => sm_succ o _
  have HOL : Hid (∀ o, mO F v o ≤ o * (v * v)) := fun o => sm_le fun i _ => sm_le fun j _ => rc_le _ v
  have HVV : Hid (∀ o, o ≤ v → o * (v * v) ≤ 64000) := fun o ho => Nat.le_trans (Nat.mul_le_mul (Nat.le_trans ho hv) (Nat.mul_le_mul hv hv)) (by omega)
  have HXV : Hid (∀ x, x ≤ v → x * v ≤ 1600) := fun x hx => Nat.le_trans (Nat.mul_le_mul (Nat.le_trans hx hv) hv) (by omega)
  have HO0 : Hid (mO F v 0 = 0) := rfl
  have HX0 : Hid (∀ o, mX F v o 0 = 0) := fun _ => rfl
  have HY0 : Hid (∀ o x, mY F o x 0 = 0) := fun _ _ => rfl
  obtain ⟨Z, HZ⟩ : ∃ Z, Hid (mO F v v = Z) := ⟨_, rfl⟩
  rw [HZ.out]
  clear hT hF
  go_enter Tryd.func18, Tryd.ntmps18
  go_wp2
  go_loopw [5, 10] (fun mv ov wr => ∃ (o m : Nat), ov = .int .i64 (o : Int) ∧ mv = .int .i64 (m : Int) ∧ o ≤ v ∧ Hid (mO F v o = m) ∧ Below w.heap.size w wr) (fun _ ov _ => (v - intOf ov).toNat)
  case atStart => exact ⟨0, 0, rfl, rfl, by omega, HO0, Below.refl _ _⟩
  case round =>
    obtain ⟨o, m, rfl, rfl, ho, HM, hB⟩ := hrel
    have hm1 : m ≤ 64000 := by rw [← HM.out]; exact Nat.le_trans (HOL.out o) (HVV.out o ho)
    by_cases hlo : o < v
    · have hdo : decide ((o : Int) < (v : Int)) = true := by simp; omega
      have hoi : (o : Int) < (v : Int) := by omega
      have hos := HOS.out o
      rw [HM.out] at hos
      have HOO : Hid (mO F v (o + 1) = m + mX F v o v) := hos
      have HBO : Hid (Below w.heap.size w wr) := hB
      clear hos HM hB
      go_wp2
      go_loopw [5, 14] (fun mv xv wr => ∃ (x k : Nat), xv = .int .i64 (x : Int) ∧ mv = .int .i64 ((m + k : Nat) : Int) ∧ x ≤ v ∧ Hid (mX F v o x = k) ∧ Below w.heap.size w wr) (fun _ xv _ => (v - intOf xv).toNat)
      case atStart => exact ⟨0, 0, rfl, rfl, by omega, HX0.out o, HBO.out⟩
      case round =>
        clear HBO
        obtain ⟨x, k, rfl, rfl, hx, HK, hB⟩ := hrel
        have hk1 : k ≤ 1600 := by rw [← HK.out]; exact Nat.le_trans (HXL.out o x) (HXV.out x hx)
        by_cases hlx : x < v
        · have hdx : decide ((x : Int) < (v : Int)) = true := by simp; omega
          have hxi : (x : Int) < (v : Int) := by omega
          have hxs := HXS.out o x
          rw [HK.out] at hxs
          have HXX : Hid (mX F v o (x + 1) = k + mY F o x v) := hxs
          have HBX : Hid (Below w.heap.size w wr) := hB
          clear hxs HK hB
          go_wp2
          go_loopw [5, 18] (fun mv yv wr => ∃ (y q : Nat), yv = .int .i64 (y : Int) ∧ mv = .int .i64 ((m + k + q : Nat) : Int) ∧ y ≤ v ∧ Hid (mY F o x y = q) ∧ Below w.heap.size w wr) (fun _ yv _ => (v - intOf yv).toNat)
          case atStart => exact ⟨0, 0, rfl, rfl, by omega, HY0.out o x, HBX.out⟩
          case round =>
            clear HBX
            obtain ⟨y, q, rfl, rfl, hy, HQ, hB⟩ := hrel
            have hq1 : q ≤ 40 := by rw [← HQ.out]; have := HYL.out o x y; omega
            by_cases hly : y < v
            · have hdy : decide ((y : Int) < (v : Int)) = true := by simp; omega
              have hyi : (y : Int) < (v : Int) := by omega
              have hys := HYS.out o x y
              rw [HQ.out] at hys
              have skip : metT F o x y = false → Hid (mY F o x (y + 1) = q) := fun e => by show _ = _; rw [e] at hys; simpa using hys
              have hT := HT.out wr hB
              have t0 := hT.row hlo
              have t1 := hT.row hlx
              have c1 := hT.cell hlo hlx
              have c2 := hT.cell hlo hly
              have c3 := hT.cell hlx hly
              by_cases e1 : o = x
              · have HS := skip (decide_eq_false fun h => h.1 e1)
                have d1 : ((o : Int) == (x : Int)) = true := by simp; omega
                clear skip hys hT t0 t1 c1 c2 c3 HQ e1
                go_wp2
                go_roundw
                case rel => exact ⟨y + 1, q, by go_num, rfl, by omega, HS, hB⟩
                case measure => simp [intOf]; omega
              · have d1 : ((o : Int) == (x : Int)) = false := by simp; omega
                have n1 : ¬ (o : Int) = (x : Int) := by omega
                by_cases e2 : o = y
                · have HS := skip (decide_eq_false fun h => h.2.1 e2)
                  have d2 : ((o : Int) == (y : Int)) = true := by simp; omega
                  clear skip hys hT t0 t1 c1 c2 c3 HQ e2
                  go_wp2
                  go_roundw
                  case rel => exact ⟨y + 1, q, by go_num, rfl, by omega, HS, hB⟩
                  case measure => simp [intOf]; omega
                · have d2 : ((o : Int) == (y : Int)) = false := by simp; omega
                  have n2 : ¬ (o : Int) = (y : Int) := by omega
                  by_cases e3 : x = y
                  · have HS := skip (decide_eq_false fun h => h.2.2.1 e3)
                    have d3 : ((x : Int) == (y : Int)) = true := by simp; omega
                    clear skip hys hT t0 t1 c1 c2 c3 HQ e3
                    go_wp2
                    go_roundw
                    case rel => exact ⟨y + 1, q, by go_num, rfl, by omega, HS, hB⟩
                    case measure => simp [intOf]; omega
                  · have d3 : ((x : Int) == (y : Int)) = false := by simp; omega
                    have n3 : ¬ (x : Int) = (y : Int) := by omega
                    have a1 := HF.out o x hlo hlx e1
                    have a2 := HF.out o y hlo hly e2
                    have t2 := hT.row a1
                    have c4 := hT.cell a1 a2
                    by_cases e4 : F o x = y
                    · have HS := skip (decide_eq_false fun h => h.2.2.2.1 e4)
                      have d4 : ((F o x : Int) == (y : Int)) = true := by simp; omega
                      generalize F o x = fox at *
                      clear skip hys hT t1 t2 c2 c3 c4 HQ e4
                      go_wp2
                      go_roundw
                      case rel => exact ⟨y + 1, q, by go_num, rfl, by omega, HS, hB⟩
                      case measure => simp [intOf]; omega
                    · have d4 : ((F o x : Int) == (y : Int)) = false := by simp; omega
                      have n4 : ¬ (F o x : Int) = (y : Int) := by omega
                      have HMT : Hid (metT F o x y = decide (F x y = F (F o x) (F o y))) := by
                        show _ = _
                        unfold metT
                        simp [e1, e2, e3, e4]
                      obtain ⟨gx, Hgx⟩ : ∃ q, Hid (h x = q) := ⟨_, rfl⟩
                      obtain ⟨go, Hgo⟩ : ∃ q, Hid (h o = q) := ⟨_, rfl⟩
                      obtain ⟨gf, Hgf⟩ : ∃ q, Hid (h (F o x) = q) := ⟨_, rfl⟩
                      rw [Hgx.out] at t1 c3
                      rw [Hgo.out] at t0 c1 c2
                      rw [Hgf.out] at t2 c4
                      by_cases e5 : F x y = F (F o x) (F o y)
                      · have HS : Hid (mY F o x (y + 1) = q + 1) := by
                          show _ = _
                          rw [hys, HMT.out, decide_eq_true e5]; rfl
                        have d5 : ((F x y : Int) == (F (F o x) (F o y) : Int)) = true := by simp; omega
                        clear skip hys hT HQ HMT
                        generalize F (F o x) (F o y) = f4 at *
                        generalize F x y = f3 at *
                        generalize F o x = fox at *
                        generalize F o y = foy at *
                        have nv1 : ¬ (v : Int) ≤ (fox : Int) := by omega
                        have nv2 : ¬ (v : Int) ≤ (foy : Int) := by omega
                        subst e5
                        go_wp2
                        go_quiet (fail)
                        go_wp2
                        go_roundw
                        case rel => exact ⟨y + 1, q + 1, by go_num, by go_num, by omega, HS, hB.trans ⟨rfl, rfl, rfl, Nat.le_refl _, fun _ _ => rfl⟩⟩
                        case measure => simp [intOf]; omega
                      · have HS : Hid (mY F o x (y + 1) = q) := by
                          show _ = _
                          rw [hys, HMT.out, decide_eq_false e5]; simp
                        have d5 : ((F x y : Int) == (F (F o x) (F o y) : Int)) = false := by simp; omega
                        have n5 : ¬ (F x y : Int) = (F (F o x) (F o y) : Int) := by omega
                        clear skip hys hT HQ HMT
                        generalize F (F o x) (F o y) = f4 at *
                        generalize F x y = f3 at *
                        generalize F o x = fox at *
                        generalize F o y = foy at *
                        have nv1 : ¬ (v : Int) ≤ (fox : Int) := by omega
                        have nv2 : ¬ (v : Int) ≤ (foy : Int) := by omega
                        go_wp2
                        go_quiet (fail)
                        go_wp2
                        go_roundw
                        case rel => exact ⟨y + 1, q, by go_num, rfl, by omega, HS, hB.trans ⟨rfl, rfl, rfl, Nat.le_refl _, fun _ _ => rfl⟩⟩
                        case measure => simp [intOf]; omega
            · have hdy : decide ((y : Int) < (v : Int)) = false := by simp; omega
              have hyv : v = y := by omega
              have HX2 : Hid (mX F v o (x + 1) = k + q) := by
                show _ = _
                rw [HXX.out, ← HQ.out, hyv]
              clear hyv HQ
              go_wp2
              go_roundw
              case rel => exact ⟨x + 1, k + q, by go_num, by simp only [Nat.add_assoc], by omega, HX2, hB⟩
              case measure => simp [intOf]; omega
        · have hdx : decide ((x : Int) < (v : Int)) = false := by simp; omega
          have hxv : v = x := by omega
          have HO2 : Hid (mO F v (o + 1) = m + k) := by
            show _ = _
            rw [HOO.out, ← HK.out]
            exact congrArg (fun t => m + mX F v o t) hxv
          clear hxv HK
          go_wp2
          go_roundw
          case rel => exact ⟨o + 1, m + k, by go_num, rfl, by omega, HO2, hB⟩
          case measure => simp [intOf]; omega
    · have hdo : decide ((o : Int) < (v : Int)) = false := by simp; omega
      have hov : v = o := by omega
      have hmz : m = Z := by rw [← HM.out, ← HZ.out]; exact congrArg (mO F v) hov.symm
      subst hmz
      have hq : (m : Int).tdiv 24 = ((m / 24 : Nat) : Int) := by rw [Int.tdiv_eq_ediv_of_nonneg (by omega)]; rfl
      clear hov
      go_wp2
      go_ret
      exact ⟨rfl, hB⟩

end Go.Proofs.YtdeofjmgjhfkcabDoor
