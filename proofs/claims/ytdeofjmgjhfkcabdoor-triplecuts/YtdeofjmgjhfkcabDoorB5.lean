/- The walk of tell. -/
import Derived.Test.YtdeofjmgjhfkcabDoorPBase
import Derived.Ground.SlsfProg
import Derived.Shelf.SlSortCmp.Whole1
import Derived.Test.YtdeofjmgjhfkcabDoorB3
import Derived.Test.YtdeofjmgjhfkcabDoorA1
/- The library's slices.SortFunc at lists of numbers, by its contract, at this program's own numbers. -/
namespace Go.Proofs.YtdeofjmgjhfkcabDoor
open Go.Shelf Go.RowKit Go.Lib Go.Sort

def sortB_ren : Go.Shelf.Ren := ⟨fun | 6 => 29 | 14 => 47 | 15 => 48 | 20 => 57 | 21 => 58 | 22 => 59 | 23 => 60 | 24 => 61 | 25 => 62 | 26 => 63 | 27 => 64 | 28 => 65 | 29 => 66 | 46 => 80 | 47 => 81 | 48 => 82 | 49 => 83 | 50 => 84 | 57 => 89 | n => n, fun | 22 => 22 | 24 => 29 | 25 => 65 | 3 => 3 | 39 => 89 | 0 => 0 | 53 => 106 | 55 => 52 | 4 => 4 | 46 => 100 | 45 => 99 | 50 => 94 | 5 => 5 | 9 => 9 | 66 => 117 | 70 => 121 | 76 => 126 | 77 => 127 | n => n, fun | n => n⟩
theorem sortB : Go.Proofs.SlLaysF.n6 Tryd.prog sortB_ren := {
  mixed := by kernel_rfl
  f6 := ⟨Tryd.f29.name, by decide, Tryd.func29.trans (congrArg some (by kernel_rfl))⟩
  f14 := ⟨Tryd.f47.name, by decide, Tryd.func47.trans (congrArg some (by kernel_rfl))⟩
  f15 := Tryd.func48.trans (congrArg some (by kernel_rfl))
  f20 := ⟨Tryd.f57.name, by decide, Tryd.func57.trans (congrArg some (by kernel_rfl))⟩
  f21 := ⟨Tryd.f58.name, by decide, Tryd.func58.trans (congrArg some (by kernel_rfl))⟩
  f22 := ⟨Tryd.f59.name, by decide, Tryd.func59.trans (congrArg some (by kernel_rfl))⟩
  f23 := ⟨Tryd.f60.name, by decide, Tryd.func60.trans (congrArg some (by kernel_rfl))⟩
  f24 := ⟨Tryd.f61.name, by decide, Tryd.func61.trans (congrArg some (by kernel_rfl))⟩
  f25 := ⟨Tryd.f62.name, by decide, Tryd.func62.trans (congrArg some (by kernel_rfl))⟩
  f26 := ⟨Tryd.f63.name, by decide, Tryd.func63.trans (congrArg some (by kernel_rfl))⟩
  f27 := ⟨Tryd.f64.name, by decide, Tryd.func64.trans (congrArg some (by kernel_rfl))⟩
  f28 := Tryd.func65.trans (congrArg some (by kernel_rfl))
  f29 := Tryd.func66.trans (congrArg some (by kernel_rfl))
  f46 := ⟨Tryd.f80.name, by decide, Tryd.func80.trans (congrArg some (by kernel_rfl))⟩
  f47 := Tryd.func81.trans (congrArg some (by kernel_rfl))
  f48 := Tryd.func82.trans (congrArg some (by kernel_rfl))
  f49 := ⟨Tryd.f83.name, by decide, Tryd.func83.trans (congrArg some (by kernel_rfl))⟩
  f50 := ⟨Tryd.f84.name, by decide, Tryd.func84.trans (congrArg some (by kernel_rfl))⟩
  f57 := ⟨Tryd.f89.name, by decide, Tryd.func89.trans (congrArg some (by kernel_rfl))⟩
  t0 := Tryd.underlying0
  a0 := Tryd.isAgg0
  z0 := Tryd.sizeOf0
  v0 := Tryd.zeroValue0
  t3 := Tryd.underlying3
  a3 := Tryd.isAgg3
  z3 := Tryd.sizeOf3
  v3 := Tryd.zeroValue3
  t4 := Tryd.underlying4
  a4 := Tryd.isAgg4
  z4 := Tryd.sizeOf4
  v4 := Tryd.zeroValue4
  t5 := Tryd.underlying5
  a5 := Tryd.isAgg5
  z5 := Tryd.sizeOf5
  v5 := Tryd.zeroValue5
  t9 := Tryd.underlying9
  a9 := Tryd.isAgg9
  z9 := Tryd.sizeOf9
  v9 := Tryd.zeroValue9
  t22 := Tryd.underlying22
  a22 := Tryd.isAgg22
  z22 := Tryd.sizeOf22
  v22 := Tryd.zeroValue22
  a24 := Tryd.isAgg29
  z24 := Tryd.sizeOf29
  t25 := Tryd.underlying65
  a25 := Tryd.isAgg65
  z25 := Tryd.sizeOf65
  v25 := Tryd.zeroValue65
  t39 := Tryd.underlying89
  a39 := Tryd.isAgg89
  z39 := Tryd.sizeOf89
  v39 := Tryd.zeroValue89
  t45 := Tryd.underlying99
  a45 := Tryd.isAgg99
  z45 := Tryd.sizeOf99
  v45 := Tryd.zeroValue99
  t46 := Tryd.underlying100
  a46 := Tryd.isAgg100
  z46 := Tryd.sizeOf100
  v46 := Tryd.zeroValue100
  t50 := Tryd.underlying94
  a50 := Tryd.isAgg94
  z50 := Tryd.sizeOf94
  v50 := Tryd.zeroValue94
  t53 := Tryd.underlying106
  a53 := Tryd.isAgg106
  z53 := Tryd.sizeOf106
  v53 := Tryd.zeroValue106
  t55 := Tryd.underlying52
  a55 := Tryd.isAgg52
  z55 := Tryd.sizeOf52
  v55 := Tryd.zeroValue52
  t66 := Tryd.underlying117
  a66 := Tryd.isAgg117
  z66 := Tryd.sizeOf117
  v66 := Tryd.zeroValue117
  t70 := Tryd.underlying121
  a70 := Tryd.isAgg121
  z70 := Tryd.sizeOf121
  v70 := Tryd.zeroValue121
  t76 := Tryd.underlying126
  a76 := Tryd.isAgg126
  z76 := Tryd.sizeOf126
  v76 := Tryd.zeroValue126
  t77 := Tryd.underlying127
  a77 := Tryd.isAgg127
  z77 := Tryd.sizeOf127
  v77 := Tryd.zeroValue127 }

end Go.Proofs.YtdeofjmgjhfkcabDoor

/- The walk of the library's SortFunc at lists of three numbers. -/
namespace Go.Proofs.YtdeofjmgjhfkcabDoor
open Go.RowKit Go.Shelf

/-- A row that is sorted among others: it lies beside the row of rows. -/
structure Elt (w : World) (g : Nat) where
  u : Value
  l : List Nat
  keeps : ∀ W : World, (∀ b, b < w.heap.size → b ≠ g → W.heap[b]? = w.heap[b]?) → Sl W u (l.map Int.ofNat)
  len : l.length = 3
theorem swoE (w : World) (g : Nat) : Go.Sort.SWO (ltOf fun x y : Elt w g => cmpL x.l y.l) where
  irrefl x := decide_eq_false fun h => llt_irr (cmpL_neg.1 h)
  trans x y z h1 h2 := decide_eq_true (cmpL_neg.2 (llt_trans (cmpL_neg.1 (of_decide_eq_true h1)) (cmpL_neg.1 (of_decide_eq_true h2))))
  ntrans x y z h1 h2 := by
    have g1 : ¬ llt x.l y.l := fun h => of_decide_eq_false h1 (cmpL_neg.2 h)
    have g2 : ¬ llt y.l z.l := fun h => of_decide_eq_false h2 (cmpL_neg.2 h)
    exact decide_eq_false fun h => nlt_trans (a := z.l) (b := y.l) (c := x.l) (z.len.trans y.len.symm) (y.len.trans x.len.symm) g2 g1 (cmpL_neg.1 h)
theorem sw_other {α : Type} [Inhabited α] {enc : α → Value} {w : World} {g m b : Nat} {d : Array α} {os : Array Obj} (hb : b < w.heap.size) (hn : b ≠ g) : (sortWorld enc w g 0 m d os).heap[b]? = w.heap[b]? := by
  unfold sortWorld
  rw [Go.Sort.heap_grow_old _ _ (by simpa using hb)]
  have : g ≠ b := fun e => hn e.symm
  simp [Go.Sort.putRow, Go.Sort.mapBlock, Go.Sort.ahead, Array.getElem?_modify, this]
theorem sw_at {α : Type} [Inhabited α] {enc : α → Value} {w : World} {g m : Nat} {d : Array α} {os : Array Obj} {cur : Array Value} {e : TypeId} {fr : Nat × Nat} (hb : w.heap[g]? = some (.cells cur e fr)) : (sortWorld enc w g 0 m d os).heap[g]? = some (.cells (Go.Sort.putCells enc 0 d cur) e fr) := by
  have hg : g < w.heap.size := (Array.getElem?_eq_some_iff.1 hb).1
  unfold sortWorld
  rw [Go.Sort.heap_grow_old _ _ (by simpa using hg)]
  simp [Go.Sort.putRow, Go.Sort.mapBlock, Go.Sort.ahead, Array.getElem?_modify, hb, Go.Sort.onCells]
theorem sw_size {α : Type} [Inhabited α] {enc : α → Value} {w : World} {g m : Nat} {d : Array α} {os : Array Obj} : w.heap.size ≤ (sortWorld enc w g 0 m d os).heap.size := by
  unfold sortWorld
  simp [Go.Sort.putRow, Go.Sort.mapBlock, Go.Sort.ahead, Go.Sort.grow]
theorem put_take {α : Type} [Inhabited α] (enc : α → Value) (cur : Array Value) (ts : List α) (h : ts.length ≤ cur.size) : (Go.Sort.putCells enc 0 ts.toArray cur).toList.take ts.length = ts.map enc := by
  apply List.ext_getElem?
  intro j
  by_cases hj : j < ts.length
  · rw [List.getElem?_take_of_lt hj, Array.getElem?_toList]
    simp [Go.Sort.putCells, hj, show j < cur.size by omega]
  · rw [List.getElem?_take_eq_none (by omega), List.getElem?_eq_none (by simp; omega)]
theorem one_slice {w : World} {u : Value} {l : List Int} (h : Sl w u l) : u.oneCell' = true := by
  obtain ⟨a, c, rfl, _⟩ := h
  rfl
theorem elt_list {w : World} {base g : Nat} (hg : ∀ u l, ORow w base u l → ∀ W : World, (∀ b, b < w.heap.size → b ≠ g → W.heap[b]? = w.heap[b]?) → ORow W base u l) : ∀ {vals : List Value} {L : List (List Nat)}, vals.length = L.length → (∀ (i : Nat) (u : Value) (l : List Nat), vals[i]? = some u → L[i]? = some l → ORow w base u l) → (∀ l ∈ L, l.length = 3) → ∃ d : List (Elt w g), d.map Elt.u = vals ∧ d.map Elt.l = L ∧ ∀ x ∈ d, ORow w base x.u x.l
  | [], [], _, _, _ => ⟨[], rfl, rfl, fun x hx => by simp at hx⟩
  | [], _ :: _, h, _, _ => by simp at h
  | _ :: _, [], h, _, _ => by simp at h
  | u :: vals, l :: L, h, h1, h2 => by
    obtain ⟨d, e1, e2, e3⟩ := elt_list hg (vals := vals) (L := L) (by simpa using h) (fun i u' l' a b => h1 (i + 1) u' l' (by simpa using a) (by simpa using b)) fun l' hl => h2 l' (by simp [hl])
    have ho := h1 0 u l rfl rfl
    refine ⟨⟨u, l, fun W hW => (hg u l ho W hW).sl, h2 l (by simp)⟩ :: d, by simp [e1], by simp [e2], fun x hx => ?_⟩
    rcases List.mem_cons.1 hx with rfl | hx
    · exact ho
    · exact e3 x hx
set_option maxRecDepth 100000 in
set_option maxHeartbeats 2000000 in
theorem ins_none (p : Option Addr) (cap : Nat) (fv : Value) (w : World) : Calls Tryd.prog 57 #[.slice p 0 cap, .int .i64 0, .int .i64 0, fv] w fun e w' => e = .returned (.tuple #[]) ∧ w' = w := by
  go_enter Tryd.func57, Tryd.ntmps57
  go_wp2
  refine wp_loop_rounds 1 ?_
  rw [rounds_succ]
  go_wp2
  go_end0
  exact ⟨rfl, rfl⟩
set_option maxRecDepth 100000 in
set_option maxHeartbeats 2000000 in
theorem pdq_none (p : Option Addr) (cap : Nat) (lim : Int) (fv : Value) (w : World) : Calls Tryd.prog 47 #[.slice p 0 cap, .int .i64 0, .int .i64 0, .int .i64 lim, fv] w fun e w' => e = .returned (.tuple #[]) ∧ w' = w := by
  have hi := fun W => ins_none p cap fv W
  go_enter Tryd.func47, Tryd.ntmps47
  go_wp2
  refine wp_loop_rounds 1 ?_
  rw [rounds_succ]
  go_wp2_with (go_at_call 57; refine (hi _).mono ?_; rintro e w' ⟨rfl, rfl⟩)
  (try simp only [Exit.inBlock, Exit.then]); refine bodyPost_ret (results_none rfl _ _ _) rfl ?_
  exact ⟨rfl, rfl⟩
set_option maxRecDepth 100000 in
set_option maxHeartbeats 2000000 in
theorem sort_none (p : Option Addr) (cap : Nat) (fv : Value) (w : World) : Calls Tryd.prog 29 #[.slice p 0 cap, fv] w fun e w' => e = .returned (.tuple #[]) ∧ w' = w := by
  have hl : ∀ W, Calls Tryd.prog 48 #[.int .u64 0] W fun e w' => e = .returned (.int .i64 (Lib.bitLen 0 : Nat)) ∧ w' = W := fun W => by
    have h := Any.bits_Len (SlLaysF0.n15.bits (P := Tryd.prog) (ρ := sortB_ren) { sortB with }) 0 W (by omega) (by omega)
    change Calls Tryd.prog 48 _ _ _ at h
    exact h
  have hp := fun lim W => pdq_none p cap lim fv W
  go_enter Tryd.func29, Tryd.ntmps29
  go_wp2_with (first | (go_at_call 48; refine (hl _).mono ?_; rintro e w' ⟨rfl, rfl⟩) | (go_at_call 47; refine (hp _ _).mono ?_; rintro e w' ⟨rfl, rfl⟩))
  go_end0
  exact ⟨rfl, rfl⟩
/-- Blocks that are sorted where they lie. -/
theorem sort_any (base n : Nat) (L : List (List Nat)) (v : Value) (w : World) (hn : n ≤ base) (h : OR w base v L) (h3 : ∀ l ∈ L, l.length = 3) (h6 : L.length ≤ 6000) (hbs : n ≤ w.heap.size) :
    Calls Tryd.prog 29 #[v, .func (.func 30) #[] #[]] w fun e w' => e = .returned (.tuple #[]) ∧ (∃ Z, Z.Perm L ∧ Z.Pairwise (fun a b => ¬ llt b a) ∧ OR w' base v Z) ∧ Below n w w' ∧ ∀ b, b < w.heap.size → v.ownBlock ≠ some b → w'.heap[b]? = w.heap[b]? := by
  obtain ⟨vals, h1, h2⟩ := h
  by_cases h0 : L.length = 0
  · obtain rfl := List.eq_nil_of_length_eq_zero h0
    obtain ⟨a, c, rfl⟩ := own_form h1
    refine (sort_none a c _ w).mono ?_
    rintro e w' ⟨rfl, rfl⟩
    exact ⟨rfl, ⟨[], List.Perm.refl _, List.Pairwise.nil, vals, h1, h2⟩, Below.refl _ _, fun _ _ _ => rfl⟩
  · obtain ⟨hl0, ⟨_, e⟩ | ⟨g, cap, cur, rfl, hg, hcell, hcap, hmax, hcs, htake⟩⟩ := h1
    · exact (h0 e).elim
    · have hlen : vals.length = L.length := by omega
      have hkeep : ∀ u l, ORow w base u l → ∀ W : World, (∀ b, b < w.heap.size → b ≠ g → W.heap[b]? = w.heap[b]?) → ORow W base u l := by
        rintro u l ⟨k0, k | ⟨g', cap', cur', e1, hg', k1, k2⟩⟩ W hW
        · exact ⟨k0, .inl k⟩
        · refine ⟨k0, .inr ⟨g', cap', cur', e1, hg', (hW g' (Array.getElem?_eq_some_iff.1 k1).1 fun e => ?_).trans k1, k2⟩⟩
          subst e
          rw [hcell] at k1; simp at k1
      obtain ⟨d, d1, d2, d3⟩ := elt_list hkeep hlen h2 h3
      have hdl : d.length = L.length := by rw [← d2, List.length_map]
      obtain ⟨x0, hx0⟩ : ∃ x, x ∈ d := List.exists_mem_of_length_pos (by omega)
      haveI : Inhabited (Elt w g) := ⟨x0⟩
      have hblk : g < w.heap.size := (Array.getElem?_eq_some_iff.1 hcell).1
      have hH : Go.Sort.Holds Elt.u w g 0 d.toArray := fun j hj => by
        have hj' : j < d.length := by simpa using hj
        refine ⟨?_, frozen_of_row w g _ _ _ hcell⟩
        rw [Nat.zero_add, cell_of_row w g _ _ _ _ hcell]
        have e1 : vals[j]? = some (d[j]).u := by rw [← d1, List.getElem?_map, List.getElem?_eq_getElem hj']; rfl
        rw [← htake, List.getElem?_take, if_pos (by omega), Array.getElem?_toList] at e1
        rw [e1]
        simp [hj']
      have eg : ∀ args w, (callFunc 30 args).run Tryd.prog w = .ok (.enter 30 args) w := enters_of Tryd.func30 (by kernel_rfl) rfl
      have hs := Any.slices_SortFunc sortB Elt.u (fun x => one_slice (x.keeps w fun _ _ _ => rfl)) (fun x y => cmpL x.l y.l) (swoE w g) 30 #[] g 0 cap d.toArray w eg (fun m os dk _ x y => by
        have hW := fun (b : Nat) (hb : b < w.heap.size) (hn : b ≠ g) => sw_other (enc := Elt.u) (m := m) (d := dk) (os := os) hb hn
        refine (Compare_any x.l y.l x.u y.u _ (x.keeps _ hW) (y.keeps _ hW) (x.len.trans y.len.symm) (by rw [x.len]; omega)).mono ?_
        rintro e w' ⟨rfl, rfl⟩
        exact ⟨rfl, 0, #[], by simp [World.drewN]⟩) hH hblk (by simp; omega)
      change Calls Tryd.prog 29 _ _ _ at hs
      have hsz0 : d.toArray.size = L.length := by simpa using hdl
      rw [hsz0] at hs
      refine hs.mono ?_
      rintro e w' ⟨rfl, d', m, os, hp, hsd, rfl⟩
      have hsz : d'.size = L.length := by rw [← hsz0]; exact hp.1
      have hpp : d'.toList.Perm d := by
        have h2 := hp.2.2
        have e1 : d'.extract 0 L.length = d' := by rw [← hsz]; simp
        have e2 : d.toArray.extract 0 L.length = d.toArray := by rw [← hsz0]; simp
        rw [e1, e2] at h2
        exact h2
      have hW := fun (b : Nat) (hb : b < w.heap.size) (hn : b ≠ g) => sw_other (enc := Elt.u) (m := m) (d := d') (os := os) hb hn
      refine ⟨rfl, ⟨d'.toList.map Elt.l, d2 ▸ hpp.map _, ?_, d'.toList.map Elt.u, ?_, fun i u l e1 e2 => ?_⟩, ⟨rfl, rfl, rfl, sw_size, fun k hk => hW k (by omega) (by omega)⟩, fun b hb hn => hW b hb fun e => hn (by rw [e]; rfl)⟩
      · rw [List.pairwise_map, List.pairwise_iff_getElem]
        intro a b ha hb' hab
        have ha' : a < d'.size := by simpa using ha
        have hb2 : b < d'.size := by simpa using hb'
        have h4 := hsd a b (Nat.zero_le _) hab (by omega)
        rw [getElem!_pos d' a ha', getElem!_pos d' b hb2] at h4
        exact fun h => of_decide_eq_false h4 (cmpL_neg.2 h)
      · refine ⟨by simp, .inr ⟨g, cap, _, by simp [hsz], hg, sw_at hcell, by simp [hsz]; omega, hmax, by simpa [Go.Sort.putCells] using hcs, ?_⟩⟩
        have := put_take Elt.u cur d'.toList (by simp; omega)
        simpa using this
      · rw [List.getElem?_map] at e1 e2
        obtain ⟨x, hx, rfl⟩ := Option.map_eq_some_iff.1 e1
        rw [hx] at e2
        cases e2
        exact hkeep _ _ (d3 x (hpp.mem_iff.1 (List.mem_of_getElem? hx))) _ hW

end Go.Proofs.YtdeofjmgjhfkcabDoor

namespace Go.Proofs.YtdeofjmgjhfkcabDoor
open Go.RowKit

/-- Blocks in their order. -/
structure Srtd (L Z : List (List Nat)) : Prop where
  perm : Z.Perm L
  ord : Z.Pairwise fun a b => ¬ llt b a
theorem Srtd.len {L Z : List (List Nat)} (h : Srtd L Z) : Z.length = L.length := h.perm.length_eq
theorem OR.put {w : World} {base t i : Nat} {v u : Value} {ls : List (List Nat)} {c : Array Value} {fr : Nat × Nat} (h : OR w base v ls) (ht : w.heap[t]? = some (.cells c 25 fr)) : OR (w.setCell ⟨t, i, none⟩ u) base v ls := by
  have key : ∀ {e : TypeId} {x : Value} {n : Nat} {xs : List Value}, e ≠ 25 → w.ownsRow base e 1 x n xs → (w.setCell ⟨t, i, none⟩ u).ownsRow base e 1 x n xs := by
    rintro e x n xs he ⟨k0, k | ⟨g, cap, cur, e1, hg, k1, k2⟩⟩
    · exact ⟨k0, .inl k⟩
    · refine ⟨k0, .inr ⟨g, cap, cur, e1, hg, (heap_setCell_other w ⟨t, i, none⟩ g u fun e2 => ?_).trans k1, k2⟩⟩
      have e2 : g = t := e2
      rw [e2, ht] at k1
      simp at k1
      exact he k1.2.1.symm
  obtain ⟨vals, h1, h2⟩ := h
  exact ⟨vals, key (by decide) h1, fun j x l a b => key (by decide) (h2 j x l a b)⟩
theorem OR.none_ne {w : World} {base b : Nat} {v : Value} {ls : List (List Nat)} (h : OR w base v ls) (hb : w.heap.size ≤ b) : v.ownBlock ≠ some b := by
  obtain ⟨vals, ⟨_, ⟨rfl, _⟩ | ⟨g, cap, cur, rfl, _, k1, _⟩⟩, _⟩ := h
  · simp [Value.ownBlock]
  · have := (Array.getElem?_eq_some_iff.1 k1).1
    intro e
    have : g = b := by simpa [Value.ownBlock] using e
    omega
set_option maxRecDepth 100000 in
set_option maxHeartbeats 4000000 in
theorem tell_any (p base gb : Nat) (ty : TypeId) (rest : List Value) (L : List (List Nat)) (w : World) (h : Lst w base gb ty rest L) (h3 : ∀ l ∈ L, l.length = 3) (h6 : L.length ≤ 6000) :
    Calls Tryd.prog 14 #[.pointer (some ⟨gb, 0, none⟩), .int .i64 (p : Int)] w fun e w' => ∃ x Z, e = .returned (.agg #[.int .i64 (p : Int), x]) ∧ Srtd L Z ∧ OR w' base x Z ∧ Below base w w' := by
  obtain ⟨v, hbx, hO, hgb, hbs⟩ := h
  have ba := balloc w (.cells #[.int .i64 0, .slice none 0 0] 25)
  have C := sort_any base base L v (w.alloc (.cells #[.int .i64 0, .slice none 0 0] 25)) (Nat.le_refl _) (hO.below ba) h3 h6 (Nat.le_trans hbs ba.size)
  have hlt : gb < w.heap.size := by omega
  have c0 : (w.alloc (.cells #[.int .i64 0, .slice none 0 0] 25)).cell? ⟨gb, 0, none⟩ = some v := by rw [cell_of_row _ _ _ _ _ _ ((ba.block gb hlt).trans hbx)]; rfl
  obtain ⟨va, vc, rfl⟩ := hO.cap
  have HBX : Hid (∀ W, Below base (w.alloc (.cells #[.int .i64 0, .slice none 0 0] 25)) W → W.cell? ⟨gb, 0, none⟩ = some (.slice va L.length vc)) := fun W b => by
    rw [cell_of_row _ _ _ _ _ _ ((b.block gb hgb).trans ((ba.block gb hlt).trans hbx))]; rfl
  have HT : Hid (∀ W : World, (∀ b, b < (w.alloc (.cells #[.int .i64 0, .slice none 0 0] 25)).heap.size → (Value.slice va L.length vc).ownBlock ≠ some b → W.heap[b]? = (w.alloc (.cells #[.int .i64 0, .slice none 0 0] 25)).heap[b]?) → W.heap[w.heap.size]? = some (.cells #[.int .i64 0, .slice none 0 0] 25 (0, 0))) := fun W hW =>
    (hW w.heap.size (by simp) (hO.none_ne (Nat.le_refl _))).trans (heap_alloc_new w _)
  have HC : Hid (Calls Tryd.prog 29 #[.slice va L.length vc, .func (.func 30) #[] #[]] (w.alloc (.cells #[.int .i64 0, .slice none 0 0] 25)) fun e w' => e = .returned (.tuple #[]) ∧ (∃ Z, Z.Perm L ∧ Z.Pairwise (fun a b => ¬ llt b a) ∧ OR w' base (.slice va L.length vc) Z) ∧ Below base (w.alloc (.cells #[.int .i64 0, .slice none 0 0] 25)) w' ∧ ∀ b, b < (w.alloc (.cells #[.int .i64 0, .slice none 0 0] 25)).heap.size → (Value.slice va L.length vc).ownBlock ≠ some b → w'.heap[b]? = (w.alloc (.cells #[.int .i64 0, .slice none 0 0] 25)).heap[b]?) := C
  have HBA : Hid (Below base w (w.alloc (.cells #[.int .i64 0, .slice none 0 0] 25))) := ba.mono hbs
  generalize L.length = n at *
  clear C hbx hO ba
  go_enter Tryd.func14, Tryd.ntmps14
  go_wp2_with (first
    | (go_at_call 29; refine HC.out.mono ?_; rintro e w1 ⟨rfl, ⟨Z, hp, hs, hZ⟩, hB, hf⟩; clear HC; have HZ : Hid (Srtd L Z) := ⟨hp, hs⟩; have ht := HT.out w1 hf; have c1 := HBX.out w1 hB; have HB : Hid (Below base w w1) := HBA.out.trans hB; clear HT hf hB hp hs HBA c0; have t0 : w1.cell? ⟨w.heap.size, 0, none⟩ = some (.int .i64 0) := (by rw [cell_of_row _ _ _ _ _ _ ht]; rfl); have t1 : w1.cell? ⟨w.heap.size, 1, none⟩ = some (.slice none 0 0) := (by rw [cell_of_row _ _ _ _ _ _ ht]; rfl); have f0 : w1.frozen? ⟨w.heap.size, 0, none⟩ = false := frozen_of_row w1 _ 0 _ _ ht; have f1 : w1.frozen? ⟨w.heap.size, 1, none⟩ = false := frozen_of_row w1 _ 1 _ _ ht; have hn1 := heap_setCell_same w1 w.heap.size 0 _ _ (.int .i64 (p : Int)) ht; have hn2 := heap_setCell_same _ w.heap.size 1 _ _ (.slice va n vc) hn1; have HO2 : Hid (OR ((w1.setCell ⟨w.heap.size, 0, none⟩ (.int .i64 (p : Int))).setCell ⟨w.heap.size, 1, none⟩ (.slice va n vc)) base (.slice va n vc) Z) := (hZ.put ht).put hn1; have HN2 : Hid (((w1.setCell ⟨w.heap.size, 0, none⟩ (.int .i64 (p : Int))).setCell ⟨w.heap.size, 1, none⟩ (.slice va n vc)).heap[w.heap.size]? = _) := hn2; clear ht hn1 hn2 hZ)
    | go_in)
  exact post_d 4 Tryd.results14 rfl HN2.out rfl ⟨_, Z, rfl, HZ.out, HO2.out, (HB.out.setCell (p := ⟨w.heap.size, 0, none⟩) hbs _).setCell (p := ⟨w.heap.size, 1, none⟩) hbs _⟩

end Go.Proofs.YtdeofjmgjhfkcabDoor
