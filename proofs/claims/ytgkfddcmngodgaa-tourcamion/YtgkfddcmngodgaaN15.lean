/- The program's byScore, walked. -/
import Derived.Test.YtgkfddcmngodgaaN3
import Derived.Test.YtgkfddcmngodgaaShS
import Derived.Test.YtgkfddcmngodgaaShF
import Derived.Shelf.Small.Bits
namespace Go.Proofs.Ytgkfddcmngodgaa
open Go.RowKit Go.Shelf

set_option maxRecDepth 100000 in
set_option maxHeartbeats 4000000 in
theorem more_any (won : List Nat) (wb : Nat) (wv : Value) (W : World) (hw : W.cell? ⟨wb, 0, none⟩ = some wv) (hv : Sl W wv (won.map Int.ofNat)) (hx9 : ∀ j, won.getD j 0 ≤ 99) (h9 : won.length ≤ 99) (x y : Nat) (hx : x < won.length) (hy : y < won.length) :
    Calls Try.prog 50 #[.int .i64 (x : Int), .int .i64 (y : Int), .pointer (some ⟨wb, 0, none⟩)] W fun e w' => e = .returned (.int .i64 (((won.getD y 0 : Nat) : Int) - ((won.getD x 0 : Nat) : Int))) ∧ ∃ q, w' = W.drewN q := by
  obtain ⟨b, o, c, rfl, _, hc⟩ := hv.form (by rw [List.length_map]) (by omega)
  have c1 := hc x hx
  have c2 := hc y hy
  have e1 : (won.map Int.ofNat).getD x 0 = ((won.getD x 0 : Nat) : Int) := by
    rw [List.getD_eq_getElem?_getD, List.getD_eq_getElem?_getD, List.getElem?_map]; cases won[x]? <;> rfl
  have e2 : (won.map Int.ofNat).getD y 0 = ((won.getD y 0 : Nat) : Int) := by
    rw [List.getD_eq_getElem?_getD, List.getD_eq_getElem?_getD, List.getElem?_map]; cases won[y]? <;> rfl
  rw [e1] at c1
  rw [e2] at c2
  have g1 := hx9 x
  have g2 := hx9 y
  obtain ⟨p, Hp⟩ : ∃ p, Hid (won.getD x 0 = p) := ⟨_, rfl⟩
  obtain ⟨q, Hq⟩ : ∃ q, Hid (won.getD y 0 = q) := ⟨_, rfl⟩
  obtain ⟨n, Hn⟩ : ∃ n, Hid (won.length = n) := ⟨_, rfl⟩
  rw [Hp.out] at c1 g1 ⊢
  rw [Hq.out] at c2 g2 ⊢
  rw [Hn.out] at hw hx hy h9
  have hxi : (x : Int) < (n : Int) := by omega
  have hyi : (y : Int) < (n : Int) := by omega
  have hw1 : IntKind.i64.wrap ((q : Int) - (p : Int)) = (q : Int) - (p : Int) := IntWalk.i64_in _ (by omega)
  clear hc e1 e2 hx9
  go_enter Try.func50, Try.ntmps50
  go_wp2
  go_quiet (fail)
  go_wp2
  go_ret
  exact ⟨rfl, _, rfl⟩
/-- Worlds in the midst of a sort. -/
theorem sw_other {α : Type} [Inhabited α] {enc : α → Value} {w : World} {g off m b : Nat} {d : Array α} {os : Array Obj} (hb : b < w.heap.size) (hn : b ≠ g) : (sortWorld enc w g off m d os).heap[b]? = w.heap[b]? := by
  unfold sortWorld
  rw [Go.Sort.heap_grow_old _ _ (by simpa using hb)]
  have : g ≠ b := fun e => hn e.symm
  simp [Go.Sort.putRow, Go.Sort.mapBlock, Go.Sort.ahead, Array.getElem?_modify, this]
theorem sw_at {α : Type} [Inhabited α] {enc : α → Value} {w : World} {g off m : Nat} {d : Array α} {os : Array Obj} {cur : Array Value} {e : TypeId} {fr : Nat × Nat} (hb : w.heap[g]? = some (.cells cur e fr)) : (sortWorld enc w g off m d os).heap[g]? = some (.cells (Go.Sort.putCells enc off d cur) e fr) := by
  have hg : g < w.heap.size := (Array.getElem?_eq_some_iff.1 hb).1
  unfold sortWorld
  rw [Go.Sort.heap_grow_old _ _ (by simpa using hg)]
  simp [Go.Sort.putRow, Go.Sort.mapBlock, Go.Sort.ahead, Array.getElem?_modify, hb, Go.Sort.onCells]
theorem sw_size {α : Type} [Inhabited α] {enc : α → Value} {w : World} {g off m : Nat} {d : Array α} {os : Array Obj} : w.heap.size ≤ (sortWorld enc w g off m d os).heap.size := by
  unfold sortWorld
  simp [Go.Sort.putRow, Go.Sort.mapBlock, Go.Sort.ahead, Go.Sort.grow]
theorem sw_below {α : Type} [Inhabited α] {enc : α → Value} {w : World} {g off m : Nat} {d : Array α} {os : Array Obj} {base : Nat} (hg : base ≤ g) (hb : base ≤ w.heap.size) : Below base w (sortWorld enc w g off m d os) :=
  ⟨rfl, rfl, rfl, sw_size, fun k hk => sw_other (by omega) (by omega)⟩
theorem Own.sorted {α : Type} [Inhabited α] {enc : α → Value} {w : World} {g n off m : Nat} {d : Array α} {os : Array Obj} {F F' : Nat → Int} (h : Own w g n F) (h1 : ∀ j, j < d.size → enc d[j]! = .int .i64 (F' (off + j))) (h2 : ∀ j, j < n → ¬ (off ≤ j ∧ j < off + d.size) → F' j = F j) : Own (sortWorld enc w g off m d os) g n F' := by
  obtain ⟨cur, hc, hcj⟩ := h
  refine ⟨_, sw_at hc, fun j hj => ?_⟩
  have hjc := hcj j hj
  obtain ⟨hlt, e⟩ := Array.getElem?_eq_some_iff.1 hjc
  unfold Go.Sort.putCells
  rw [Array.getElem?_mapIdx, hjc]
  simp only [Option.map_some]
  by_cases hin : off ≤ j ∧ j < off + d.size
  · rw [if_pos hin, h1 (j - off) (by omega), show off + (j - off) = j by omega]
  · rw [if_neg hin, h2 j hj hin]
theorem Own.holds {α : Type} [Inhabited α] {enc : α → Value} {w : World} {g n off : Nat} {d : Array α} {F : Nat → Int} (h : Own w g n F) (hd : off + d.size ≤ n) (h1 : ∀ j, j < d.size → enc d[j]! = .int .i64 (F (off + j))) : Go.Sort.Holds enc w g off d := fun j hj => ⟨by rw [h.cell (off + j) (by omega), h1 j hj], h.frozen _⟩
/-- What the closure tells of two. -/
def cfW (won : List Nat) (n : Nat) (x y : Fin n) : Int := ((won.getD y.val 0 : Nat) : Int) - ((won.getD x.val 0 : Nat) : Int)
theorem cfW_lt {won : List Nat} {n : Nat} {x y : Fin n} : ltOf (cfW won n) x y = true ↔ won.getD y.val 0 < won.getD x.val 0 := by
  unfold ltOf cfW
  rw [decide_eq_true_eq]
  omega
theorem cfW_no {won : List Nat} {n : Nat} {x y : Fin n} : ltOf (cfW won n) x y = false ↔ won.getD x.val 0 ≤ won.getD y.val 0 := by
  unfold ltOf cfW
  rw [decide_eq_false_iff_not]
  omega
theorem cfW_swo (won : List Nat) (n : Nat) [Inhabited (Fin n)] : Go.Sort.SWO (ltOf (cfW won n)) where
  irrefl x := cfW_no.2 (Nat.le_refl _)
  trans x y z a b := cfW_lt.2 (by have := cfW_lt.1 a; have := cfW_lt.1 b; omega)
  ntrans x y z a b := cfW_no.2 (by have := cfW_no.1 a; have := cfW_no.1 b; omega)
/-- The players, the greatest scores ahead. -/
structure Ordr (n : Nat) (won : List Nat) (O : List Nat) : Prop where
  perm : O.Perm (List.range n)
  fall : O.Pairwise fun x y => won.getD y 0 ≤ won.getD x 0
set_option maxRecDepth 100000 in
set_option maxHeartbeats 4000000 in
theorem sortF_any (won : List Nat) (n g wb : Nat) (wv : Value) (w : World) (h1 : 1 ≤ n) (h9 : n ≤ 9) (hl : won.length = n) (hx9 : ∀ j, won.getD j 0 ≤ 99) (hw : w.cell? ⟨wb, 0, none⟩ = some wv) (hwb : wb ≠ g) (hgv : ∀ (W : World), (∀ b, b < w.heap.size → b ≠ g → W.heap[b]? = w.heap[b]?) → Sl W wv (won.map Int.ofNat)) (ho : Own w g n (fun j => (j : Int))) (base : Nat) (hbg : base ≤ g) (hbw : base ≤ w.heap.size) :
    Calls Try.prog 49 #[.slice (some ⟨g, 0, none⟩) n n, .func (.func 50) #[] #[.pointer (some ⟨wb, 0, none⟩)]] w fun e w' => e = .returned (.tuple #[]) ∧ (∃ O, Ordr n won O ∧ Own w' g n (fun j => ((O.getD j 0 : Nat) : Int))) ∧ Below base w w' := by
  haveI : Inhabited (Fin n) := ⟨⟨0, by omega⟩⟩
  have hwbl := World.block_lt_of_cell? _ _ hw
  have hd : (Array.ofFn fun i : Fin n => i).size = n := by simp
  have hdj : ∀ j, j < n → ((Array.ofFn fun i : Fin n => i)[j]!).val = j := fun j hj => by simp [hj]
  have eg : ∀ args w, (callFunc 50 args).run Try.prog w = .ok (.enter 50 args) w := enters_of Try.func50 (by kernel_rfl) rfl
  have hlen : ∀ (k : Nat) (W : World), k ≤ 12 → Calls Try.prog 52 #[.int .u64 k] W fun e w' => (∃ l : Int, e = .returned (.int .i64 l)) ∧ w' = W := fun k W hk => by
    have h := Any.bits_Len (P := Try.prog) (ρ := sortI_ren) { sortI with } (k : Int) W (by omega) (by omega)
    change Calls Try.prog 52 _ _ _ at h
    refine h.mono ?_
    rintro e w' ⟨rfl, rfl⟩
    exact ⟨⟨_, rfl⟩, rfl⟩
  have hs := Any.slices_SortFunc_small_sorted sortB (fun x : Fin n => Value.int .i64 (x.val : Int)) (fun _ => rfl) (cfW won n)
    (cfW_swo won n)
    50 #[.pointer (some ⟨wb, 0, none⟩)] g 0 n (Array.ofFn fun i : Fin n => i) w eg (fun m os dk hdk x y => by
      have hW := fun (b : Nat) (hb : b < w.heap.size) (hn : b ≠ g) => sw_other (enc := fun x : Fin n => Value.int .i64 (x.val : Int)) (off := 0) (m := m) (d := dk) (os := os) hb hn
      exact more_any won wb wv _ ((World.cell?_of_block (hW wb hwbl hwb)).trans hw) (hgv _ hW) hx9 (by omega) x.val y.val (by rw [hl]; exact x.isLt) (by rw [hl]; exact y.isLt))
    (ho.holds (by rw [hd]; omega) (fun j hj => by rw [hd] at hj; simp only [hdj j hj, Nat.zero_add])) (by rw [hd]; omega) hlen
  change Calls Try.prog 49 _ _ _ at hs
  rw [hd] at hs
  refine hs.mono ?_
  rintro e w' ⟨rfl, d', q, hp, hsd, rfl⟩
  have hsz : d'.size = n := by rw [hp.1, hd]
  rw [← sortWorld_none]
  have hpp : d'.toList.Perm (Array.ofFn fun i : Fin n => i).toList := by
    have h2 := hp.2.2
    have e1 : d'.extract 0 d'.size = d' := by simp
    rw [hsz] at e1
    have e2 : (Array.ofFn fun i : Fin n => i).extract 0 (Array.ofFn fun i : Fin n => i).size = (Array.ofFn fun i : Fin n => i) := by simp
    rw [hd] at e2
    rw [e1, e2] at h2
    exact h2
  have hvals : (Array.ofFn fun i : Fin n => i).toList.map Fin.val = List.range n := by
    refine List.ext_getElem (by simp) fun j h1 h2 => ?_
    simp
  have hgetO : ∀ j, j < n → (d'.toList.map Fin.val).getD j 0 = (d'[j]!).val := fun j hj => by
    rw [List.getD_eq_getElem?_getD, List.getElem?_map, Array.getElem?_toList, Array.getElem?_eq_getElem (by omega)]
    simp [show j < d'.size by omega]
  refine ⟨rfl, ⟨d'.toList.map Fin.val, ⟨by rw [← hvals]; exact hpp.map _, ?_⟩, ?_⟩, sw_below hbg hbw⟩
  · rw [List.pairwise_iff_getElem]
    intro i j hi hj hij
    have hjn : j < n := by simp at hj; omega
    have k := cfW_no.1 (hsd i j (Nat.zero_le _) hij hjn)
    have ei := hgetO i (by omega)
    have ej := hgetO j hjn
    rw [List.getD_eq_getElem?_getD, List.getElem?_eq_getElem hi] at ei
    rw [List.getD_eq_getElem?_getD, List.getElem?_eq_getElem hj] at ej
    simp only [Option.getD_some] at ei ej
    rw [ei, ej]
    omega
  · exact ho.sorted (fun j hj => by rw [Nat.zero_add, hgetO j (by omega)]) (fun j hj hno => by omega)
set_option maxRecDepth 100000 in
set_option maxHeartbeats 8000000 in
theorem byScore_any (won : List Nat) (n : Nat) (v : Value) (w : World) (h1 : 1 ≤ n) (h9 : n ≤ 9) (hl : won.length = n) (hx9 : ∀ j, won.getD j 0 ≤ 99) (hv : Sl w v (won.map Int.ofNat)) :
    Calls Try.prog 42 #[v] w fun e w' => (∃ g O, w.heap.size ≤ g ∧ e = .returned (.slice (some ⟨g, 0, none⟩) n n) ∧ Ordr n won O ∧ Own w' g n (fun j => ((O.getD j 0 : Nat) : Int))) ∧ Below w.heap.size w w' := by
  obtain ⟨vb, vo, vc, rfl, hvb, hvc⟩ := hv.form (n := n) (by rw [List.length_map]; exact hl) (by omega)
  have b1 := balloc w (.cells #[.slice (some ⟨vb, vo, none⟩) n vc] 22)
  obtain ⟨w0, Hw0⟩ : ∃ w0, Hid (w.alloc (.cells #[.slice (some ⟨vb, vo, none⟩) n vc] 22) = w0) := ⟨_, rfl⟩
  have x0 : w0.cell? ⟨w.heap.size, 0, none⟩ = some (.slice (some ⟨vb, vo, none⟩) n vc) := by rw [← Hw0.out, cell_of_row _ _ _ _ _ _ (heap_alloc_new w _)]; rfl
  have HX : Hid (∀ W, Below w0.heap.size w0 W → W.cell? ⟨w.heap.size, 0, none⟩ = some (.slice (some ⟨vb, vo, none⟩) n vc)) := fun W b => (b.cell (World.block_lt_of_cell? _ _ x0)).trans x0
  rw [Hw0.out] at b1
  have HB0 : Hid (∀ W, Below w0.heap.size w0 W → Below w.heap.size w W) := fun W b => Below.next b1 b
  have hmk : ∀ w : World, (Instr.makeSlice 22 (.int .i64 (n : Int)) (.int .i64 (n : Int))).run Try.prog w = .ok (.slice (some ⟨w.heap.size, 0, none⟩) n n) (w.alloc (.cells (madeCells #[.int .i64 0] n) 3)) := fun w => run_makeI n (by omega) w
  have hio0 := own_new w0 n
  have hb0 := balloc w0 (.cells (madeCells #[.int .i64 0] n) 3)
  have hgw : w.heap.size ≤ w0.heap.size := b1.size
  have hs1 : w0.heap.size = w.heap.size + 1 := by rw [← Hw0.out]; simp
  obtain ⟨g, Hg⟩ : ∃ g, Hid (w.heap.size + 1 = g) := ⟨_, rfl⟩
  rw [hs1, Hg.out] at hio0 hb0 HX HB0 hgw
  have HWL : Hid (w0.heap.size = g ∧ w.heap.size ≠ g ∧ vb ≠ g ∧ vb < w.heap.size ∧ w.heap.size < g) := ⟨by rw [hs1]; exact Hg.out, by have := Hg.out; omega, by have := Hg.out; omega, hvb, by have := Hg.out; omega⟩
  have HVC : Hid (∀ j, j < n → w.cell? ⟨vb, vo + j, none⟩ = some (.int .i64 ((won.map Int.ofNat).getD j 0))) := hvc
  have HLN : Hid (won.length = n) := hl
  have HX9 : Hid (∀ j, won.getD j 0 ≤ 99) := hx9
  rw [← Hw0.out] at x0
  clear hv b1 hvc hl hx9 hvb
  go_enter Try.func42, Try.ntmps42
  go_wp2
  rw [Hw0.out]
  rw [Hg.out]
  go_loopw [10] (fun kv wr => ∃ k : Nat, kv = .int .i64 (k : Int) ∧ k ≤ n ∧ Own wr g n (fun j => if j < k then (j : Int) else 0) ∧ Below g w0 wr) (fun kv _ => (n - intOf kv).toNat)
  case atStart => exact ⟨0, rfl, by omega, hio0.congr (fun j hj => by simp), hb0⟩
  case round =>
    clear x0 hio0 hb0 hmk
    obtain ⟨k, rfl, hk, hio, hB⟩ := hrel
    by_cases hlk : k < n
    · have hdk : decide ((k : Int) < (n : Int)) = true := by simp; omega
      have hkk : (k : Int) < (n : Int) := by omega
      have hcm := hio.cell k hlk
      have hfz := hio.frozen k
      have hset := (hio.set k (k : Int)).congr (f' := fun j => if j < k + 1 then (j : Int) else 0) fun j hj => by
        unfold upd
        by_cases e : j = k
        · rw [if_pos e, if_pos (by omega), e]
        · rw [if_neg e]
          show (if j < k then (j : Int) else 0) = _
          by_cases e2 : j < k
          · rw [if_pos e2, if_pos (by omega)]
          · rw [if_neg e2, if_neg (by omega)]
      have hB2 := hB.setCell (p := ⟨g, k, none⟩) (Nat.le_refl _) (.int .i64 (k : Int))
      clear hio
      go_wp2
      go_roundw
      case rel => exact ⟨k + 1, by go_num, by omega, hset, hB2⟩
      case measure => simp [intOf]; omega
    · have hdk : decide ((k : Int) < (n : Int)) = false := by simp; omega
      have hdkn : decide (k < n) = false := by simp; omega
      obtain rfl : k = n := by omega
      obtain ⟨q1, q2, q3, q4, q5⟩ := HWL.out
      have hwz : g ≤ wr.heap.size := by have := hB.size; omega
      have x0 := HX.out wr hB
      have hkeep : ∀ (W : World), (∀ b, b < wr.heap.size → b ≠ g → W.heap[b]? = wr.heap[b]?) → Sl W (.slice (some ⟨vb, vo, none⟩) k vc) (won.map Int.ofNat) := fun W hW => by
        refine ⟨_, vc, by rw [List.length_map, HLN.out], fun j hj => ⟨vb, vo, rfl, ?_⟩⟩
        have hjk : j < k := by rw [List.length_map, HLN.out] at hj; exact hj
        have hb := (HB0.out wr hB)
        rw [World.cell?_of_block (a := ⟨vb, vo + j, none⟩) (hW vb (by have := hb.size; omega) q3), World.cell?_of_block (a := ⟨vb, vo + j, none⟩) (hb.block vb q4)]
        exact HVC.out j hjk
      have C1 := sortF_any won k g w.heap.size _ wr h1 h9 HLN.out HX9.out x0 q2 hkeep (hio.congr fun j hj => if_pos hj) g (Nat.le_refl _) hwz
      clear hkeep hio
      go_wp2_with (first
        | (go_at_call 49; refine C1.mono ?_; rintro e w5 ⟨rfl, ⟨O, hO, ho⟩, hb5⟩; clear C1)
        | go_in)
      go_ret
      exact ⟨⟨g, O, hgw, rfl, hO, ho⟩, HB0.out _ (hB.trans hb5)⟩
end Go.Proofs.Ytgkfddcmngodgaa
