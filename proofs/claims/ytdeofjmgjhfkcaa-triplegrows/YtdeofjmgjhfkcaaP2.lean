/- The walk of product. -/
import Derived.Test.YtdeofjmgjhfkcaaA8
import Derived.Test.YtdeofjmgjhfkcaaTDou
import Derived.Test.YtdeofjmgjhfkcaaTPro
/- The walks of pair and pairAll. -/
/- The walk of double. -/
namespace Go.Proofs.Ytdeofjmgjhfkcaa
open Go.RowKit

/-- The three boxes of a maker out of others: what is handed in, the answer, the blocks. -/
structure Bx3 (s v m : Nat) (u : Value) (W : World) : Prop where
  d : W.heap[s]? = some (.cells #[.int .i64 (v : Int), u] 24 (0, 0))
  r : W.heap[s + 1]? = some (.cells #[.int .i64 0, .slice none 0 0] 24 (0, 0))
  b : ∃ x, W.heap[s + 2]? = some (.cells #[x, .int .i64 (m : Int)] 76 (0, 0))
theorem Bx3.kp {s v m : Nat} {u : Value} {W W' : World} {L : List (List Nat)} (h : Bx3 s v m u W) (k : Kp (s + 3) (s + 2) W W') (hL : RowB W' (s + 3) (s + 2) m L) : Bx3 s v m u W' := by
  obtain ⟨x, h1, _⟩ := hL
  exact ⟨(k.at' s (by omega) (by omega)).trans h.d, (k.at' (s + 1) (by omega) (by omega)).trans h.r, x, h1⟩
theorem Bx3.cells {s v m : Nat} {u : Value} {W : World} (h : Bx3 s v m u W) : W.cell? ⟨s, 0, none⟩ = some (.int .i64 (v : Int)) ∧ W.cell? ⟨s, 1, none⟩ = some u ∧ W.cell? ⟨s + 1 + 1, 1, none⟩ = some (.int .i64 (m : Int)) := by
  obtain ⟨x, hb⟩ := h.b
  exact ⟨by rw [cell_of_row _ _ _ _ _ _ h.d]; rfl, by rw [cell_of_row _ _ _ _ _ _ h.d]; rfl, by rw [cell_of_row _ _ _ _ _ _ hb]; rfl⟩
def W3 (w : World) (v m : Nat) (u : Value) : World := ((w.alloc (.cells #[.int .i64 (v : Int), u] 24)).alloc (.cells #[.int .i64 0, .slice none 0 0] 24)).alloc (.cells #[.slice none 0 0, .int .i64 (m : Int)] 76)
theorem W3_size (w : World) (v m : Nat) (u : Value) : (W3 w v m u).heap.size = w.heap.size + 3 := by simp [W3]
theorem W3_bx (w : World) (v m : Nat) (u : Value) : Bx3 w.heap.size v m u (W3 w v m u) ∧ RowB (W3 w v m u) (w.heap.size + 3) (w.heap.size + 2) m [] := by
  have e1 := heap_alloc_new w (.cells #[.int .i64 (v : Int), u] 24)
  have e2 := heap_alloc_new (w.alloc (.cells #[.int .i64 (v : Int), u] 24)) (.cells #[.int .i64 0, .slice none 0 0] 24)
  have e3 := heap_alloc_new ((w.alloc (.cells #[.int .i64 (v : Int), u] 24)).alloc (.cells #[.int .i64 0, .slice none 0 0] 24)) (.cells #[.slice none 0 0, .int .i64 (m : Int)] 76)
  rw [show (w.alloc (.cells #[.int .i64 (v : Int), u] 24)).heap.size = w.heap.size + 1 by simp] at e2
  rw [show ((w.alloc (.cells #[.int .i64 (v : Int), u] 24)).alloc (.cells #[.int .i64 0, .slice none 0 0] 24)).heap.size = w.heap.size + 2 by simp] at e3
  have k := fun (W : World) (o : Obj) (b : Nat) (hb : b < W.heap.size) => (balloc W o).block b hb
  exact ⟨⟨(k _ _ _ (by simp; omega)).trans ((k _ _ _ (by simp)).trans e1), (k _ _ _ (by simp)).trans e2, _, e3⟩, .slice none 0 0, e3, OR.nil _ _, by omega, by rw [W3_size]; exact Nat.le_refl _⟩
theorem W3_below (w : World) (v m : Nat) (u : Value) : Below w.heap.size w (W3 w v m u) := Below.next (Below.next (balloc _ _) (balloc _ _)) (balloc _ _)
/-- The blocks of the doubled system, as they come. -/
def duL (v x : Nat) : List (List Nat) := (List.range x).map fun x => s3 [0 * v + x, 1 * v + x, 2 * v + 0]
def dbI (v : Nat) (b : List Nat) (i : Nat) : List (List Nat) := (List.range i).map fun i => s3 [0 * v + b.getD i 0, 1 * v + b.getD ((i + 1) % 3) 0, 1 * v + b.getD ((i + 2) % 3) 0]
def dbB (v : Nat) (B : List (List Nat)) : List (List Nat) := B.flatMap fun b => s3 [b.getD 0 0, b.getD 1 0, b.getD 2 0] :: dbI v b 3
def dbP (v : Nat) (B : List (List Nat)) : List (List Nat) := duL v v ++ dbB v B
theorem duL_succ (v x : Nat) : duL v (x + 1) = duL v x ++ [s3 [0 * v + x, 1 * v + x, 2 * v + 0]] := by unfold duL; rw [List.range_succ, List.map_append]; rfl
theorem duL_len (v x : Nat) : (duL v x).length = x := by simp [duL]
theorem dbI_succ (v : Nat) (b : List Nat) (i : Nat) : dbI v b (i + 1) = dbI v b i ++ [s3 [0 * v + b.getD i 0, 1 * v + b.getD ((i + 1) % 3) 0, 1 * v + b.getD ((i + 2) % 3) 0]] := by unfold dbI; rw [List.range_succ, List.map_append]; rfl
theorem dbI_len (v : Nat) (b : List Nat) (i : Nat) : (dbI v b i).length = i := by simp [dbI]
theorem dbB_succ {v i : Nat} {B : List (List Nat)} {b : List Nat} (h : B[i]? = some b) : dbB v (B.take (i + 1)) = (dbB v (B.take i) ++ [s3 [b.getD 0 0, b.getD 1 0, b.getD 2 0]]) ++ dbI v b 3 := by
  unfold dbB
  rw [List.take_add_one, h, List.flatMap_append]
  simp
theorem dbB_len (v : Nat) : ∀ B : List (List Nat), (dbB v B).length = 4 * B.length
  | [] => rfl
  | b :: B => by
    have := dbB_len v B
    unfold dbB at this ⊢
    rw [List.flatMap_cons, List.length_append, this, List.length_cons, List.length_cons, dbI_len]
    omega
theorem dbP_three (v : Nat) (B : List (List Nat)) : ∀ b ∈ dbP v B, b.length = 3 := fun b hb => by
  rcases List.mem_append.1 hb with h | h
  · unfold duL at h
    obtain ⟨_, _, rfl⟩ := List.mem_map.1 h
    rw [s3_len]; rfl
  · unfold dbB at h
    obtain ⟨_, _, h⟩ := List.mem_flatMap.1 h
    rcases List.mem_cons.1 h with rfl | h
    · rw [s3_len]; rfl
    · unfold dbI at h
      obtain ⟨_, _, rfl⟩ := List.mem_map.1 h
      rw [s3_len]; rfl
/-- A block of three, where it lies. -/
theorem row3 {W : World} {ua : Option Addr} {uc : Nat} {b : List Nat} (h3 : b.length = 3) (h : Sl W (.slice ua b.length uc) (b.map Int.ofNat)) : ∃ bb off, ua = some ⟨bb, off, none⟩ ∧ ∀ j, j < 3 → W.cell? ⟨bb, off + j, none⟩ = some (.int .i64 ((b.getD j 0 : Nat) : Int)) := by
  obtain ⟨a, cap, e, h⟩ := sl_at h
  cases e
  obtain ⟨bb, off, rfl, _⟩ := h 0 (by omega)
  refine ⟨bb, off, rfl, fun j hj => ?_⟩
  obtain ⟨b', o', e, hc⟩ := h j (by omega)
  cases e
  exact hc
set_option maxRecDepth 100000 in
set_option maxHeartbeats 16000000 in
theorem double_any (v : Nat) (B : List (List Nat)) (u : Value) (w : World) (hv : v ≤ 16) (hB2 : B.length ≤ 200) (hb3 : ∀ b ∈ B, b.length = 3 ∧ ∀ x ∈ b, x < v) (hu : Rw w u (toZ B)) :
    Calls Try.prog 34 #[.agg #[.int .i64 (v : Int), u]] w fun e w' => ∃ x Z, e = .returned (.agg #[.int .i64 ((2 * v + 1 : Nat) : Int), x]) ∧ Srtd (dbP v B) Z ∧ OR w' (w.heap.size + 3) x Z ∧ Below w.heap.size w w' := by
  obtain ⟨HBX, HRW⟩ := W3_bx w v v u
  have HBE : Hid (Below w.heap.size w (W3 w v v u)) := W3_below w v v u
  obtain ⟨a, c, rfl, hD⟩ := drow_of hu
  have HD : Hid (DRow w a B) := hD
  have HAT : Hid (∀ i, i < B.length → ∃ b, B[i]? = some b ∧ b.length = 3 ∧ ∀ j, b.getD j 0 ≤ 16) := fun i hi => ⟨_, List.getElem?_eq_getElem hi, (hb3 _ (List.getElem_mem hi)).1, fun j => by
    by_cases hj : j < B[i].length
    · have := (hb3 _ (List.getElem_mem hi)).2 (B[i].getD j 0) (getD_mem' hj)
      omega
    · have e0 : B[i].getD j 0 = 0 := by rw [List.getD_eq_getElem?_getD, List.getElem?_eq_none (by omega)]; rfl
      rw [e0]; omega⟩
  obtain ⟨M, HM⟩ : ∃ M, Hid (dbP v B = M) := ⟨_, rfl⟩
  have HM3 : Hid (∀ b ∈ M, b.length = 3) := by rw [← HM.out]; exact dbP_three v B
  have HML : Hid (M.length ≤ 6000) := by show _ ≤ _; rw [← HM.out]; unfold dbP; rw [List.length_append, duL_len, dbB_len]; omega
  have HME : Hid (duL v v ++ dbB v (B.take B.length) = M) := by show _ = _; rw [List.take_length]; exact HM.out
  rw [HM.out]
  obtain ⟨w3, Hw3⟩ : ∃ w3, Hid (w3 = W3 w v v (.slice a B.length c)) := ⟨_, rfl⟩
  rw [← Hw3.out] at HBX HRW HBE
  have HX : Hid (Bx3 w.heap.size v v (.slice a B.length c) w3) := HBX
  have HR : Hid (RowB w3 (w.heap.size + 3) (w.heap.size + 2) v (duL v 0)) := HRW
  have HUS : Hid (∀ x, duL v (x + 1) = duL v x ++ [s3 [0 * v + x, 1 * v + x, 2 * v + 0]]) := duL_succ v
  have HUL : Hid (∀ x, (duL v x).length = x) := duL_len v
  have HBS : Hid (∀ (i : Nat) (b : List Nat), B[i]? = some b → dbB v (B.take (i + 1)) = (dbB v (B.take i) ++ [s3 [b.getD 0 0, b.getD 1 0, b.getD 2 0]]) ++ dbI v b 3) := fun i b h => dbB_succ h
  have HBL : Hid (∀ i, (dbB v (B.take i)).length ≤ 800) := fun i => by rw [dbB_len, List.length_take]; omega
  have HIS : Hid (∀ (b : List Nat) (i : Nat), dbI v b (i + 1) = dbI v b i ++ [s3 [0 * v + b.getD i 0, 1 * v + b.getD ((i + 1) % 3) 0, 1 * v + b.getD ((i + 2) % 3) 0]]) := dbI_succ v
  have HIL : Hid (∀ (b : List Nat) (i : Nat), (dbI v b i).length = i) := dbI_len v
  have HAN : Hid (∀ (W : World) (r p : Nat), r ≤ 99 → p ≤ 99 → W.cell? ⟨w.heap.size + 1 + 1, 1, none⟩ = some (.int .i64 (v : Int)) → Calls Try.prog 50 #[.pointer (some ⟨w.heap.size + 1 + 1, 0, none⟩), .int .i64 (r : Int), .int .i64 (p : Int)] W fun e w' => e = .returned (.int .i64 ((r * v + p : Nat) : Int)) ∧ w' = W) := fun W r p hr hp hW => at_any r p (w.heap.size + 2) v W hW hr (by omega) hp
  have HADD : Hid (∀ (W : World) (x y z : Nat) (M : List (List Nat)), RowB W (w.heap.size + 3) (w.heap.size + 2) v M → M.length ≤ 6000 → Calls Try.prog 49 #[.pointer (some ⟨w.heap.size + 1 + 1, 0, none⟩), .int .i64 (x : Int), .int .i64 (y : Int), .int .i64 (z : Int)] W fun e w' => e = .returned (.tuple #[]) ∧ RowB w' (w.heap.size + 3) (w.heap.size + 2) v (M ++ [s3 [x, y, z]]) ∧ Kp (w.heap.size + 3) (w.heap.size + 2) W w') := fun W x y z M hM hl => add_any x y z (w.heap.size + 3) (w.heap.size + 2) 76 [.int .i64 (v : Int)] M W hM hl
  have HTE : Hid (∀ W : World, RowB W (w.heap.size + 3) (w.heap.size + 2) v M → Calls Try.prog 43 #[.pointer (some ⟨w.heap.size + 1 + 1, 0, none⟩), .int .i64 (2 * (v : Int) + 1)] W fun e w' => ∃ x Z, e = .returned (.agg #[.int .i64 (2 * (v : Int) + 1), x]) ∧ Srtd M Z ∧ OR w' (w.heap.size + 3) x Z ∧ Below (w.heap.size + 3) W w') := fun W hW => tell_any (2 * v + 1) _ _ _ _ M W hW HM3.out HML.out
  generalize hBn : B.length = n at *
  obtain ⟨x0, x1, x2⟩ := HBX.cells
  rw [Hw3.out] at x0 x1 x2
  clear HBX HRW HM3 HML HM hu hD hb3
  go_enter Try.func34, Try.ntmps34
  go_wp2
  change Code.wp _ _ _ _ (W3 w v v (.slice a n c))
  rw [← Hw3.out]
  clear Hw3 x0 x1 x2
  go_loopw [15] (fun xv wr => ∃ (x : Nat), xv = .int .i64 (x : Int) ∧ x ≤ v ∧ RowB wr (w.heap.size + 3) (w.heap.size + 2) v (duL v x) ∧ Bx3 w.heap.size v v (.slice a n c) wr ∧ Below w.heap.size w wr) (fun xv _ => (v - intOf xv).toNat)
  case atStart => exact ⟨0, rfl, by omega, HR.out, HX.out, HBE.out⟩
  case round =>
    clear HR HX HBE
    obtain ⟨x, rfl, hx, hR, hX, hB⟩ := hrel
    obtain ⟨y0, y1, y2⟩ := hX.cells
    have HX1 : Hid (Bx3 w.heap.size v v (.slice a n c) wr) := hX
    by_cases hlt : x < v
    · have hdi : decide ((x : Int) < (v : Int)) = true := by simp; omega
      have hii : (x : Int) < (v : Int) := by omega
      have hus := HUS.out x
      have hul := HUL.out x
      have HC1 : Hid (Calls Try.prog 50 #[.pointer (some ⟨w.heap.size + 1 + 1, 0, none⟩), .int .i64 0, .int .i64 (x : Int)] wr.drew fun e w' => e = .returned (.int .i64 ((0 * v + x : Nat) : Int)) ∧ w' = wr.drew) := HAN.out wr.drew 0 x (by omega) (by omega) y2
      have HC2 : Hid (Calls Try.prog 50 #[.pointer (some ⟨w.heap.size + 1 + 1, 0, none⟩), .int .i64 1, .int .i64 (x : Int)] wr.drew fun e w' => e = .returned (.int .i64 ((1 * v + x : Nat) : Int)) ∧ w' = wr.drew) := HAN.out wr.drew 1 x (by omega) (by omega) y2
      have HC3 : Hid (Calls Try.prog 50 #[.pointer (some ⟨w.heap.size + 1 + 1, 0, none⟩), .int .i64 2, .int .i64 0] wr.drew fun e w' => e = .returned (.int .i64 ((2 * v + 0 : Nat) : Int)) ∧ w' = wr.drew) := HAN.out wr.drew 2 0 (by omega) (by omega) y2
      have HC4 : Hid (Calls Try.prog 49 #[.pointer (some ⟨w.heap.size + 1 + 1, 0, none⟩), .int .i64 ((0 * v + x : Nat) : Int), .int .i64 ((1 * v + x : Nat) : Int), .int .i64 ((2 * v + 0 : Nat) : Int)] wr.drew fun e w' => e = .returned (.tuple #[]) ∧ RowB w' (w.heap.size + 3) (w.heap.size + 2) v (duL v x ++ [s3 [0 * v + x, 1 * v + x, 2 * v + 0]]) ∧ Kp (w.heap.size + 3) (w.heap.size + 2) wr.drew w') := HADD.out wr.drew _ _ _ _ hR.drew (by omega)
      rw [← hus] at HC4
      generalize 0 * v + x = a1 at *
      generalize 1 * v + x = a2 at *
      generalize 2 * v + 0 = a3 at *
      clear hus hul hR hX
      go_wp2
      refine wp_region_noPanic ?_
      refine wp_region_held_drew (S := fun _ => True) (by kernel_rfl) (trivial) (fun hSx => ?_)
      refine wpAnyH_take (i := 0) (v := .pointer (some ⟨w.heap.size + 1 + 1, 0, none⟩)) rfl (by kernel_rfl) (by kernel_rfl) (by kernel_rfl) (fun _ _ _ h => h) (Or.inl ⟨by rfl, fun w' hSw => by (try dsimp only at hSw); have hs0 := hSw; go_simp⟩) hSx ?_
      try simp only [Act.put, List.setIfInBounds_toArray]
      refine wpAnyH_take (i := 1) (v := .pointer (some ⟨w.heap.size + 1 + 1, 0, none⟩)) rfl (by kernel_rfl) (by kernel_rfl) (by kernel_rfl) (fun _ _ _ h => h) (Or.inl ⟨by rfl, fun w' hSw => by (try dsimp only at hSw); have hs0 := hSw; go_simp⟩) hSx ?_
      try simp only [Act.put]
      refine wpAnyH_take (i := 2) (v := .pointer (some ⟨w.heap.size + 1 + 1, 0, none⟩)) rfl (by kernel_rfl) (by kernel_rfl) (by kernel_rfl) (fun _ _ _ h => h) (Or.inl ⟨by rfl, fun w' hSw => by (try dsimp only at hSw); have hs0 := hSw; go_simp⟩) hSx ?_
      try simp only [Act.put]
      refine wpAnyH_take (i := 3) (v := .pointer (some ⟨w.heap.size + 1 + 1, 0, none⟩)) rfl (by kernel_rfl) (by kernel_rfl) (by kernel_rfl) (fun _ _ _ h => h) (Or.inl ⟨by rfl, fun w' hSw => by (try dsimp only at hSw); have hs0 := hSw; go_simp⟩) hSx ?_
      try simp only [Act.put]
      refine wpAnyH_take (i := 4) (v := .int .i64 (x : Int)) rfl (by kernel_rfl) (by kernel_rfl) (by kernel_rfl) (fun _ _ _ h => h) (Or.inl ⟨by rfl, fun w' hSw => by (try dsimp only at hSw); have hs0 := hSw; go_simp⟩) hSx ?_
      try simp only [Act.put]
      refine wpAnyH_take (i := 6) (v := .pointer (some ⟨w.heap.size + 1 + 1, 0, none⟩)) rfl (by kernel_rfl) (by kernel_rfl) (by kernel_rfl) (fun _ _ _ h => h) (Or.inl ⟨by rfl, fun w' hSw => by (try dsimp only at hSw); have hs0 := hSw; go_simp⟩) hSx ?_
      try simp only [Act.put]
      refine wpAnyH_take (i := 7) (v := .int .i64 (x : Int)) rfl (by kernel_rfl) (by kernel_rfl) (by kernel_rfl) (fun _ _ _ h => h) (Or.inl ⟨by rfl, fun w' hSw => by (try dsimp only at hSw); have hs0 := hSw; go_simp⟩) hSx ?_
      try simp only [Act.put]
      refine wpAnyH_take (i := 9) (v := .pointer (some ⟨w.heap.size + 1 + 1, 0, none⟩)) rfl (by kernel_rfl) (by kernel_rfl) (by kernel_rfl) (fun _ _ _ h => h) (Or.inl ⟨by rfl, fun w' hSw => by (try dsimp only at hSw); have hs0 := hSw; go_simp⟩) hSx ?_
      try simp only [Act.put]
      refine wpAnyH_ready (rs := [5]) (by kernel_rfl) (by simp) ?_
      refine AllReadyH.cons rfl (fun J hJ => ?_) AllReadyH.nil
      go_simp
      refine (HC1.out).mono ?_
      rintro e v1 ⟨rfl, hw⟩
      replace hw := hw.symm
      subst hw
      go_wp2_with fail
      refine hJ.out _ _ (trivial) (fun hSx => ?_)
      clear hJ J
      try simp only [Act.put, List.setIfInBounds_toArray, List.set_cons_zero, List.set_cons_succ]
      refine wpAnyH_ready (rs := [8]) (by kernel_rfl) (by simp) ?_
      refine AllReadyH.cons rfl (fun J hJ => ?_) AllReadyH.nil
      go_simp
      refine (HC2.out).mono ?_
      rintro e v2 ⟨rfl, hw⟩
      replace hw := hw.symm
      subst hw
      go_wp2_with fail
      refine hJ.out _ _ (trivial) (fun hSx => ?_)
      clear hJ J
      try simp only [Act.put, List.setIfInBounds_toArray, List.set_cons_zero, List.set_cons_succ]
      refine wpAnyH_ready (rs := [10]) (by kernel_rfl) (by simp) ?_
      refine AllReadyH.cons rfl (fun J hJ => ?_) AllReadyH.nil
      go_simp
      refine (HC3.out).mono ?_
      rintro e v3 ⟨rfl, hw⟩
      replace hw := hw.symm
      subst hw
      go_wp2_with fail
      refine hJ.out _ _ (trivial) (fun hSx => ?_)
      clear hJ J
      try simp only [Act.put, List.setIfInBounds_toArray, List.set_cons_zero, List.set_cons_succ]
      refine wpAnyH_ready (rs := [11]) (by kernel_rfl) (by simp) ?_
      refine AllReadyH.cons rfl (fun J hJ => ?_) AllReadyH.nil
      go_simp
      refine (HC4.out).mono ?_
      rintro e v4 ⟨rfl, hL, hK⟩
      go_wp2_with fail
      refine hJ.out _ _ (trivial) (fun hSx => ?_)
      clear hJ J
      try simp only [Act.put, List.setIfInBounds_toArray, List.set_cons_zero, List.set_cons_succ]
      refine wpAnyH_done (by kernel_rfl) ?_ _
      refine NoPanic.normal ?_
      have hX3 := HX1.out.kp ((Kp.drew _ _ _).trans hK) hL
      have hB3 : Below w.heap.size w v4 := hB.trans (((Kp.drew _ _ _).trans hK).lo.mono (by omega))
      clear hK HC4 HC3 HC2 HC1 HX1 hSx y0 y1 y2
      go_wp2
      go_roundw
      case rel => exact ⟨x + 1, by go_num, by omega, hL, hX3, hB3⟩
      case measure => simp [intOf]; omega
    · have hdi : decide ((x : Int) < (v : Int)) = false := by simp; omega
      have hxv : v = x := by omega
      subst hxv
      obtain ⟨PP, HPP⟩ : ∃ PP, Hid (duL v v = PP) := ⟨_, rfl⟩
      have hpl : PP.length = v := by rw [← HPP.out]; exact HUL.out v
      rw [HPP.out] at hR HME
      have HRP : Hid (RowB wr (w.heap.size + 3) (w.heap.size + 2) v (PP ++ dbB v (B.take 0))) := by show Lst _ _ _ _ _ _; simpa [dbB] using hR
      have HXP : Hid (Bx3 w.heap.size v v (.slice a n c) wr) := hX
      have HBP : Hid (Below w.heap.size w wr) := hB
      clear hR hX hB HX1 HUS HUL
      go_wp2
      go_loopw [34] (fun iv wr => ∃ (i : Nat), iv = .int .i64 (i : Int) ∧ i ≤ n ∧ RowB wr (w.heap.size + 3) (w.heap.size + 2) v (PP ++ dbB v (B.take i)) ∧ Bx3 w.heap.size v v (.slice a n c) wr ∧ Below w.heap.size w wr) (fun iv _ => (n - intOf iv).toNat)
      case atStart => exact ⟨0, rfl, by omega, HRP.out, HXP.out, HBP.out⟩
      case round =>
        clear HRP HXP HBP y0 y1 y2
        obtain ⟨i, rfl, hi, hR, hX, hB⟩ := hrel
        obtain ⟨y0, y1, y2⟩ := hX.cells
        have HX1 : Hid (Bx3 w.heap.size v v (.slice a n c) wr) := hX
        by_cases hlt : i < n
        · have hdi : decide ((i : Int) < (n : Int)) = true := by simp; omega
          have hii : (i : Int) < (n : Int) := by omega
          obtain ⟨b, hbi, hb3, hb16⟩ := HAT.out i hlt
          obtain ⟨bb, off, ua, uc, rfl, hrow⟩ := HD.out i b hbi
          obtain ⟨r0, rs⟩ := hrow _ hB
          obtain ⟨bq, oq, rfl, _⟩ := row3 hb3 rs
          have HRO : Hid (∀ W, Below w.heap.size w W → W.cell? ⟨bb, off + i, none⟩ = some (.slice (some ⟨bq, oq, none⟩) 3 uc) ∧ ∀ j, j < 3 → W.cell? ⟨bq, oq + j, none⟩ = some (.int .i64 ((b.getD j 0 : Nat) : Int))) := fun W h => by
            obtain ⟨r0, rs⟩ := hrow W h
            obtain ⟨_, _, e, hc⟩ := row3 hb3 rs
            cases e
            rw [hb3] at r0
            exact ⟨r0, hc⟩
          rw [hb3] at r0
          have hbs := HBS.out i b hbi
          have hbl := HBL.out i
          obtain ⟨Li, HLi⟩ : ∃ Li, Hid (PP ++ dbB v (B.take i) = Li) := ⟨_, rfl⟩
          have hli : Li.length ≤ 900 := by rw [← HLi.out, List.length_append]; omega
          have HNX : Hid (PP ++ dbB v (B.take (i + 1)) = (Li ++ [s3 [b.getD 0 0, b.getD 1 0, b.getD 2 0]]) ++ dbI v b 3) := by show _ = _; rw [hbs, ← HLi.out]; simp only [List.append_assoc]
          rw [HLi.out] at hR
          have HC4 : Hid (Calls Try.prog 49 #[.pointer (some ⟨w.heap.size + 1 + 1, 0, none⟩), .int .i64 ((b.getD 0 0 : Nat) : Int), .int .i64 ((b.getD 1 0 : Nat) : Int), .int .i64 ((b.getD 2 0 : Nat) : Int)] wr.drew fun e w' => e = .returned (.tuple #[]) ∧ RowB w' (w.heap.size + 3) (w.heap.size + 2) v (Li ++ [s3 [b.getD 0 0, b.getD 1 0, b.getD 2 0]]) ∧ Kp (w.heap.size + 3) (w.heap.size + 2) wr.drew w') := HADD.out wr.drew _ _ _ _ hR.drew (by omega)
          have HLS : Hid ((Li ++ [s3 [b.getD 0 0, b.getD 1 0, b.getD 2 0]]).length ≤ 999) := by show _ ≤ _; rw [List.length_append]; simp; omega
          obtain ⟨Lb, HLb⟩ : ∃ Lb, Hid (Li ++ [s3 [b.getD 0 0, b.getD 1 0, b.getD 2 0]] = Lb) := ⟨_, rfl⟩
          rw [HLb.out] at HC4 HNX HLS
          have HS : Hid (∀ W' : World, Below w.heap.size wr W' → (W'.cell? ⟨bq, oq, none⟩ = some (.int .i64 ((b.getD 0 0 : Nat) : Int)) ∧ W'.cell? ⟨bq, oq + 1, none⟩ = some (.int .i64 ((b.getD 1 0 : Nat) : Int)) ∧ W'.cell? ⟨bq, oq + 2, none⟩ = some (.int .i64 ((b.getD 2 0 : Nat) : Int)))) := fun W' h => by
            have := (HRO.out W' (hB.trans h)).2
            exact ⟨this 0 (by omega), this 1 (by omega), this 2 (by omega)⟩
          obtain ⟨c0, Hc0⟩ : ∃ q, Hid (b.getD 0 0 = q) := ⟨_, rfl⟩
          obtain ⟨c1, Hc1⟩ : ∃ q, Hid (b.getD 1 0 = q) := ⟨_, rfl⟩
          obtain ⟨c2, Hc2⟩ : ∃ q, Hid (b.getD 2 0 = q) := ⟨_, rfl⟩
          rw [Hc0.out, Hc1.out, Hc2.out] at HS HC4
          clear hbs hbl hli hrow rs HLi HLb hR hX
          go_wp2
          refine wp_region_noPanic ?_
          refine wp_region_held_drew (S := fun w' => w'.cell? ⟨bq, oq, none⟩ = some (.int .i64 (c0 : Int)) ∧ w'.cell? ⟨bq, oq + 1, none⟩ = some (.int .i64 (c1 : Int)) ∧ w'.cell? ⟨bq, oq + 2, none⟩ = some (.int .i64 (c2 : Int))) (by kernel_rfl) (HS.out _ ((Below.refl _ wr).drew)) (fun hSx => ?_)
          refine wpAnyH_take (i := 0) (v := .pointer (some ⟨w.heap.size + 1 + 1, 0, none⟩)) rfl (by kernel_rfl) (by kernel_rfl) (by kernel_rfl) (fun _ _ _ h => h) (Or.inl ⟨by rfl, fun w' hSw => by (try dsimp only at hSw); obtain ⟨hs0, hs1, hs2⟩ := hSw; go_simp⟩) hSx ?_
          try simp only [Act.put, List.setIfInBounds_toArray]
          refine wpAnyH_take (i := 1) (v := .pointer (some ⟨w.heap.size + 1 + 1, 0, none⟩)) rfl (by kernel_rfl) (by kernel_rfl) (by kernel_rfl) (fun _ _ _ h => h) (Or.inl ⟨by rfl, fun w' hSw => by (try dsimp only at hSw); obtain ⟨hs0, hs1, hs2⟩ := hSw; go_simp⟩) hSx ?_
          try simp only [Act.put]
          refine wpAnyH_take (i := 2) (v := .pointer (some ⟨w.heap.size + 1 + 1, 0, none⟩)) rfl (by kernel_rfl) (by kernel_rfl) (by kernel_rfl) (fun _ _ _ h => h) (Or.inl ⟨by rfl, fun w' hSw => by (try dsimp only at hSw); obtain ⟨hs0, hs1, hs2⟩ := hSw; go_simp⟩) hSx ?_
          try simp only [Act.put]
          refine wpAnyH_take (i := 3) (v := .slice (some ⟨bq, oq, none⟩) 3 uc) rfl (by kernel_rfl) (by kernel_rfl) (by kernel_rfl) (fun _ _ _ h => h) (Or.inl ⟨by rfl, fun w' hSw => by (try dsimp only at hSw); obtain ⟨hs0, hs1, hs2⟩ := hSw; go_simp⟩) hSx ?_
          try simp only [Act.put]
          refine wpAnyH_take (i := 4) (v := .pointer (some ⟨bq, oq, none⟩)) rfl (by kernel_rfl) (by kernel_rfl) (by kernel_rfl) (fun _ _ _ h => h) (Or.inl ⟨by rfl, fun w' hSw => by (try dsimp only at hSw); obtain ⟨hs0, hs1, hs2⟩ := hSw; go_simp⟩) hSx ?_
          try simp only [Act.put]
          refine wpAnyH_take (i := 5) (v := .int .i64 (c0 : Int)) rfl (by kernel_rfl) (by kernel_rfl) (by kernel_rfl) (fun _ _ _ h => h) (Or.inl ⟨by rfl, fun w' hSw => by (try dsimp only at hSw); obtain ⟨hs0, hs1, hs2⟩ := hSw; go_simp⟩) hSx ?_
          try simp only [Act.put]
          refine wpAnyH_take (i := 6) (v := .slice (some ⟨bq, oq, none⟩) 3 uc) rfl (by kernel_rfl) (by kernel_rfl) (by kernel_rfl) (fun _ _ _ h => h) (Or.inl ⟨by rfl, fun w' hSw => by (try dsimp only at hSw); obtain ⟨hs0, hs1, hs2⟩ := hSw; go_simp⟩) hSx ?_
          try simp only [Act.put]
          refine wpAnyH_take (i := 7) (v := .pointer (some ⟨bq, oq + 1, none⟩)) rfl (by kernel_rfl) (by kernel_rfl) (by kernel_rfl) (fun _ _ _ h => h) (Or.inl ⟨by rfl, fun w' hSw => by (try dsimp only at hSw); obtain ⟨hs0, hs1, hs2⟩ := hSw; go_simp⟩) hSx ?_
          try simp only [Act.put]
          refine wpAnyH_take (i := 8) (v := .int .i64 (c1 : Int)) rfl (by kernel_rfl) (by kernel_rfl) (by kernel_rfl) (fun _ _ _ h => h) (Or.inl ⟨by rfl, fun w' hSw => by (try dsimp only at hSw); obtain ⟨hs0, hs1, hs2⟩ := hSw; go_simp⟩) hSx ?_
          try simp only [Act.put]
          refine wpAnyH_take (i := 9) (v := .slice (some ⟨bq, oq, none⟩) 3 uc) rfl (by kernel_rfl) (by kernel_rfl) (by kernel_rfl) (fun _ _ _ h => h) (Or.inl ⟨by rfl, fun w' hSw => by (try dsimp only at hSw); obtain ⟨hs0, hs1, hs2⟩ := hSw; go_simp⟩) hSx ?_
          try simp only [Act.put]
          refine wpAnyH_take (i := 10) (v := .pointer (some ⟨bq, oq + 2, none⟩)) rfl (by kernel_rfl) (by kernel_rfl) (by kernel_rfl) (fun _ _ _ h => h) (Or.inl ⟨by rfl, fun w' hSw => by (try dsimp only at hSw); obtain ⟨hs0, hs1, hs2⟩ := hSw; go_simp⟩) hSx ?_
          try simp only [Act.put]
          refine wpAnyH_take (i := 11) (v := .int .i64 (c2 : Int)) rfl (by kernel_rfl) (by kernel_rfl) (by kernel_rfl) (fun _ _ _ h => h) (Or.inl ⟨by rfl, fun w' hSw => by (try dsimp only at hSw); obtain ⟨hs0, hs1, hs2⟩ := hSw; go_simp⟩) hSx ?_
          try simp only [Act.put]
          refine wpAnyH_ready (rs := [12]) (by kernel_rfl) (by simp) ?_
          refine AllReadyH.cons rfl (fun J hJ => ?_) AllReadyH.nil
          go_simp
          refine (HC4.out).mono ?_
          rintro e v4 ⟨rfl, hL, hK⟩
          have hk4 := (Kp.drew _ _ wr).trans hK
          go_wp2_with fail
          refine hJ.out _ _ (HS.out _ (hk4.lo.mono (by omega))) (fun hSx => ?_)
          clear hJ J
          try simp only [Act.put, List.setIfInBounds_toArray, List.set_cons_zero, List.set_cons_succ]
          refine wpAnyH_done (by kernel_rfl) ?_ _
          refine NoPanic.normal ?_
          have hX3 := HX1.out.kp hk4 hL
          have hB3 : Below w.heap.size w v4 := hB.trans (hk4.lo.mono (by omega))
          have HRQ : Hid (RowB v4 (w.heap.size + 3) (w.heap.size + 2) v (Lb ++ dbI v b 0)) := by show Lst _ _ _ _ _ _; simpa [dbI] using hL
          have HXQ : Hid (Bx3 w.heap.size v v (.slice (some ⟨bb, off, none⟩) n c) v4) := hX3
          have HBQ : Hid (Below w.heap.size w v4) := hB3
          clear hK hk4 HC4 HX1 hSx y0 y1 y2 r0 HS hL hX3 hB3 hB
          go_wp2
          go_loopw [53] (fun jv wr => ∃ (j : Nat), jv = .int .i64 (j : Int) ∧ j ≤ 3 ∧ RowB wr (w.heap.size + 3) (w.heap.size + 2) v (Lb ++ dbI v b j) ∧ Bx3 w.heap.size v v (.slice (some ⟨bb, off, none⟩) n c) wr ∧ Below w.heap.size w wr) (fun jv _ => (3 - intOf jv).toNat)
          case atStart => exact ⟨0, rfl, by omega, HRQ.out, HXQ.out, HBQ.out⟩
          case round =>
            clear HRQ HXQ HBQ
            obtain ⟨j, rfl, hj, hR, hX, hB⟩ := hrel
            obtain ⟨y0, y1, y2⟩ := hX.cells
            have HX1 : Hid (Bx3 w.heap.size v v (.slice (some ⟨bb, off, none⟩) n c) wr) := hX
            by_cases hlj : j < 3
            · have hdj : decide ((j : Int) < 3) = true := by simp; omega
              have hji : (j : Int) < 3 := by omega
              have his := HIS.out b j
              have hil := HIL.out b j
              have hls := HLS.out
              have hrem1 : ((j : Int) + 1).tmod 3 = (((j + 1) % 3 : Nat) : Int) := by rw [Int.tmod_eq_emod_of_nonneg (by omega)]; rfl
              have hrem2 : ((j : Int) + 2).tmod 3 = (((j + 2) % 3 : Nat) : Int) := by rw [Int.tmod_eq_emod_of_nonneg (by omega)]; rfl
              have hw1 : IntKind.i64.wrap ((j : Int) + 1) = (j : Int) + 1 := by simp [IntKind.wrap, IntKind.bits, IntKind.signed]; omega
              have hw2 : IntKind.i64.wrap ((j : Int) + 2) = (j : Int) + 2 := by simp [IntKind.wrap, IntKind.bits, IntKind.signed]; omega
              have hr1 : (j + 1) % 3 < 3 := Nat.mod_lt _ (by omega)
              have hr2 : (j + 2) % 3 < 3 := Nat.mod_lt _ (by omega)
              have g0 := hb16 j
              have g1 := hb16 ((j + 1) % 3)
              have g2 := hb16 ((j + 2) % 3)
              have HS : Hid (∀ W' : World, Below w.heap.size wr W' → (W'.cell? ⟨bq, oq + (j + 1) % 3, none⟩ = some (.int .i64 ((b.getD ((j + 1) % 3) 0 : Nat) : Int)) ∧ W'.cell? ⟨bq, oq + (j + 2) % 3, none⟩ = some (.int .i64 ((b.getD ((j + 2) % 3) 0 : Nat) : Int)))) := fun W' h => by
                have := (HRO.out W' (hB.trans h)).2
                exact ⟨this _ hr1, this _ hr2⟩
              have q0 := (HRO.out wr hB).2 j hlj
              have HC1 : Hid (Calls Try.prog 50 #[.pointer (some ⟨w.heap.size + 1 + 1, 0, none⟩), .int .i64 0, .int .i64 ((b.getD j 0 : Nat) : Int)] wr.drew fun e w' => e = .returned (.int .i64 ((0 * v + b.getD j 0 : Nat) : Int)) ∧ w' = wr.drew) := HAN.out wr.drew 0 _ (by omega) (by omega) y2
              have HC2 : Hid (Calls Try.prog 50 #[.pointer (some ⟨w.heap.size + 1 + 1, 0, none⟩), .int .i64 1, .int .i64 ((b.getD ((j + 1) % 3) 0 : Nat) : Int)] wr.drew fun e w' => e = .returned (.int .i64 ((1 * v + b.getD ((j + 1) % 3) 0 : Nat) : Int)) ∧ w' = wr.drew) := HAN.out wr.drew 1 _ (by omega) (by omega) y2
              have HC3 : Hid (Calls Try.prog 50 #[.pointer (some ⟨w.heap.size + 1 + 1, 0, none⟩), .int .i64 1, .int .i64 ((b.getD ((j + 2) % 3) 0 : Nat) : Int)] wr.drew fun e w' => e = .returned (.int .i64 ((1 * v + b.getD ((j + 2) % 3) 0 : Nat) : Int)) ∧ w' = wr.drew) := HAN.out wr.drew 1 _ (by omega) (by omega) y2
              have HC4 : Hid (Calls Try.prog 49 #[.pointer (some ⟨w.heap.size + 1 + 1, 0, none⟩), .int .i64 ((0 * v + b.getD j 0 : Nat) : Int), .int .i64 ((1 * v + b.getD ((j + 1) % 3) 0 : Nat) : Int), .int .i64 ((1 * v + b.getD ((j + 2) % 3) 0 : Nat) : Int)] wr.drew fun e w' => e = .returned (.tuple #[]) ∧ RowB w' (w.heap.size + 3) (w.heap.size + 2) v ((Lb ++ dbI v b j) ++ [s3 [0 * v + b.getD j 0, 1 * v + b.getD ((j + 1) % 3) 0, 1 * v + b.getD ((j + 2) % 3) 0]]) ∧ Kp (w.heap.size + 3) (w.heap.size + 2) wr.drew w') := HADD.out wr.drew _ _ _ _ hR.drew (by rw [List.length_append]; omega)
              rw [List.append_assoc, ← his] at HC4
              generalize 0 * v + b.getD j 0 = a1 at *
              generalize 1 * v + b.getD ((j + 1) % 3) 0 = a2 at *
              generalize 1 * v + b.getD ((j + 2) % 3) 0 = a3 at *
              generalize b.getD j 0 = e0 at *
              generalize b.getD ((j + 1) % 3) 0 = e1 at *
              generalize b.getD ((j + 2) % 3) 0 = e2 at *
              generalize (j + 1) % 3 = r1 at *
              generalize (j + 2) % 3 = r2 at *
              have hn1 : ¬ (3 : Int) ≤ (r1 : Int) := by omega
              have hn2 : ¬ (3 : Int) ≤ (r2 : Int) := by omega
              clear his hil hls hR hX g0 g1 g2
              go_wp2
              refine wp_region_noPanic ?_
              refine wp_region_held_drew (S := fun w' => w'.cell? ⟨bq, oq + r1, none⟩ = some (.int .i64 (e1 : Int)) ∧ w'.cell? ⟨bq, oq + r2, none⟩ = some (.int .i64 (e2 : Int))) (by kernel_rfl) (HS.out _ ((Below.refl _ wr).drew)) (fun hSx => ?_)
              refine wpAnyH_take (i := 0) (v := .pointer (some ⟨w.heap.size + 1 + 1, 0, none⟩)) rfl (by kernel_rfl) (by kernel_rfl) (by kernel_rfl) (fun _ _ _ h => h) (Or.inl ⟨by rfl, fun w' hSw => by (try dsimp only at hSw); obtain ⟨hs0, hs1⟩ := hSw; go_simp⟩) hSx ?_
              try simp only [Act.put, List.setIfInBounds_toArray]
              refine wpAnyH_take (i := 1) (v := .pointer (some ⟨w.heap.size + 1 + 1, 0, none⟩)) rfl (by kernel_rfl) (by kernel_rfl) (by kernel_rfl) (fun _ _ _ h => h) (Or.inl ⟨by rfl, fun w' hSw => by (try dsimp only at hSw); obtain ⟨hs0, hs1⟩ := hSw; go_simp⟩) hSx ?_
              try simp only [Act.put]
              refine wpAnyH_take (i := 2) (v := .pointer (some ⟨w.heap.size + 1 + 1, 0, none⟩)) rfl (by kernel_rfl) (by kernel_rfl) (by kernel_rfl) (fun _ _ _ h => h) (Or.inl ⟨by rfl, fun w' hSw => by (try dsimp only at hSw); obtain ⟨hs0, hs1⟩ := hSw; go_simp⟩) hSx ?_
              try simp only [Act.put]
              refine wpAnyH_take (i := 3) (v := .pointer (some ⟨w.heap.size + 1 + 1, 0, none⟩)) rfl (by kernel_rfl) (by kernel_rfl) (by kernel_rfl) (fun _ _ _ h => h) (Or.inl ⟨by rfl, fun w' hSw => by (try dsimp only at hSw); obtain ⟨hs0, hs1⟩ := hSw; go_simp⟩) hSx ?_
              try simp only [Act.put]
              refine wpAnyH_take (i := 4) (v := .int .i64 (e0 : Int)) rfl (by kernel_rfl) (by kernel_rfl) (by kernel_rfl) (fun _ _ _ h => h) (Or.inl ⟨by rfl, fun w' hSw => by (try dsimp only at hSw); obtain ⟨hs0, hs1⟩ := hSw; go_simp⟩) hSx ?_
              try simp only [Act.put]
              refine wpAnyH_take (i := 6) (v := .pointer (some ⟨w.heap.size + 1 + 1, 0, none⟩)) rfl (by kernel_rfl) (by kernel_rfl) (by kernel_rfl) (fun _ _ _ h => h) (Or.inl ⟨by rfl, fun w' hSw => by (try dsimp only at hSw); obtain ⟨hs0, hs1⟩ := hSw; go_simp⟩) hSx ?_
              try simp only [Act.put]
              refine wpAnyH_take (i := 7) (v := .slice (some ⟨bq, oq, none⟩) 3 uc) rfl (by kernel_rfl) (by kernel_rfl) (by kernel_rfl) (fun _ _ _ h => h) (Or.inl ⟨by rfl, fun w' hSw => by (try dsimp only at hSw); obtain ⟨hs0, hs1⟩ := hSw; go_simp⟩) hSx ?_
              try simp only [Act.put]
              refine wpAnyH_take (i := 8) (v := .int .i64 (j : Int)) rfl (by kernel_rfl) (by kernel_rfl) (by kernel_rfl) (fun _ _ _ h => h) (Or.inl ⟨by rfl, fun w' hSw => by (try dsimp only at hSw); obtain ⟨hs0, hs1⟩ := hSw; go_simp⟩) hSx ?_
              try simp only [Act.put]
              refine wpAnyH_take (i := 9) (v := .int .i64 ((j : Int) + 1)) rfl (by kernel_rfl) (by kernel_rfl) (by kernel_rfl) (fun _ _ _ h => h) (Or.inl ⟨by rfl, fun w' hSw => by (try dsimp only at hSw); obtain ⟨hs0, hs1⟩ := hSw; go_simp⟩) hSx ?_
              try simp only [Act.put]
              refine wpAnyH_take (i := 10) (v := .int .i64 (r1 : Int)) rfl (by kernel_rfl) (by kernel_rfl) (by kernel_rfl) (fun _ _ _ h => h) (Or.inl ⟨by rfl, fun w' hSw => by (try dsimp only at hSw); obtain ⟨hs0, hs1⟩ := hSw; go_simp⟩) hSx ?_
              try simp only [Act.put]
              refine wpAnyH_take (i := 11) (v := .pointer (some ⟨bq, oq + r1, none⟩)) rfl (by kernel_rfl) (by kernel_rfl) (by kernel_rfl) (fun _ _ _ h => h) (Or.inl ⟨by rfl, fun w' hSw => by (try dsimp only at hSw); obtain ⟨hs0, hs1⟩ := hSw; go_simp⟩) hSx ?_
              try simp only [Act.put]
              refine wpAnyH_take (i := 12) (v := .int .i64 (e1 : Int)) rfl (by kernel_rfl) (by kernel_rfl) (by kernel_rfl) (fun _ _ _ h => h) (Or.inl ⟨by rfl, fun w' hSw => by (try dsimp only at hSw); obtain ⟨hs0, hs1⟩ := hSw; go_simp⟩) hSx ?_
              try simp only [Act.put]
              refine wpAnyH_take (i := 14) (v := .pointer (some ⟨w.heap.size + 1 + 1, 0, none⟩)) rfl (by kernel_rfl) (by kernel_rfl) (by kernel_rfl) (fun _ _ _ h => h) (Or.inl ⟨by rfl, fun w' hSw => by (try dsimp only at hSw); obtain ⟨hs0, hs1⟩ := hSw; go_simp⟩) hSx ?_
              try simp only [Act.put]
              refine wpAnyH_take (i := 15) (v := .slice (some ⟨bq, oq, none⟩) 3 uc) rfl (by kernel_rfl) (by kernel_rfl) (by kernel_rfl) (fun _ _ _ h => h) (Or.inl ⟨by rfl, fun w' hSw => by (try dsimp only at hSw); obtain ⟨hs0, hs1⟩ := hSw; go_simp⟩) hSx ?_
              try simp only [Act.put]
              refine wpAnyH_take (i := 16) (v := .int .i64 (j : Int)) rfl (by kernel_rfl) (by kernel_rfl) (by kernel_rfl) (fun _ _ _ h => h) (Or.inl ⟨by rfl, fun w' hSw => by (try dsimp only at hSw); obtain ⟨hs0, hs1⟩ := hSw; go_simp⟩) hSx ?_
              try simp only [Act.put]
              refine wpAnyH_take (i := 17) (v := .int .i64 ((j : Int) + 2)) rfl (by kernel_rfl) (by kernel_rfl) (by kernel_rfl) (fun _ _ _ h => h) (Or.inl ⟨by rfl, fun w' hSw => by (try dsimp only at hSw); obtain ⟨hs0, hs1⟩ := hSw; go_simp⟩) hSx ?_
              try simp only [Act.put]
              refine wpAnyH_take (i := 18) (v := .int .i64 (r2 : Int)) rfl (by kernel_rfl) (by kernel_rfl) (by kernel_rfl) (fun _ _ _ h => h) (Or.inl ⟨by rfl, fun w' hSw => by (try dsimp only at hSw); obtain ⟨hs0, hs1⟩ := hSw; go_simp⟩) hSx ?_
              try simp only [Act.put]
              refine wpAnyH_take (i := 19) (v := .pointer (some ⟨bq, oq + r2, none⟩)) rfl (by kernel_rfl) (by kernel_rfl) (by kernel_rfl) (fun _ _ _ h => h) (Or.inl ⟨by rfl, fun w' hSw => by (try dsimp only at hSw); obtain ⟨hs0, hs1⟩ := hSw; go_simp⟩) hSx ?_
              try simp only [Act.put]
              refine wpAnyH_take (i := 20) (v := .int .i64 (e2 : Int)) rfl (by kernel_rfl) (by kernel_rfl) (by kernel_rfl) (fun _ _ _ h => h) (Or.inl ⟨by rfl, fun w' hSw => by (try dsimp only at hSw); obtain ⟨hs0, hs1⟩ := hSw; go_simp⟩) hSx ?_
              try simp only [Act.put]
              refine wpAnyH_ready (rs := [5]) (by kernel_rfl) (by simp) ?_
              refine AllReadyH.cons rfl (fun J hJ => ?_) AllReadyH.nil
              go_simp
              refine (HC1.out).mono ?_
              rintro e v1 ⟨rfl, hw⟩
              replace hw := hw.symm
              subst hw
              go_wp2_with fail
              refine hJ.out _ _ (HS.out _ ((Below.refl _ wr).drew)) (fun hSx => ?_)
              clear hJ J
              try simp only [Act.put, List.setIfInBounds_toArray, List.set_cons_zero, List.set_cons_succ]
              refine wpAnyH_ready (rs := [13]) (by kernel_rfl) (by simp) ?_
              refine AllReadyH.cons rfl (fun J hJ => ?_) AllReadyH.nil
              go_simp
              refine (HC2.out).mono ?_
              rintro e v2 ⟨rfl, hw⟩
              replace hw := hw.symm
              subst hw
              go_wp2_with fail
              refine hJ.out _ _ (HS.out _ ((Below.refl _ wr).drew)) (fun hSx => ?_)
              clear hJ J
              try simp only [Act.put, List.setIfInBounds_toArray, List.set_cons_zero, List.set_cons_succ]
              refine wpAnyH_ready (rs := [21]) (by kernel_rfl) (by simp) ?_
              refine AllReadyH.cons rfl (fun J hJ => ?_) AllReadyH.nil
              go_simp
              refine (HC3.out).mono ?_
              rintro e v3 ⟨rfl, hw⟩
              replace hw := hw.symm
              subst hw
              go_wp2_with fail
              refine hJ.out _ _ (HS.out _ ((Below.refl _ wr).drew)) (fun hSx => ?_)
              clear hJ J
              try simp only [Act.put, List.setIfInBounds_toArray, List.set_cons_zero, List.set_cons_succ]
              refine wpAnyH_ready (rs := [22]) (by kernel_rfl) (by simp) ?_
              refine AllReadyH.cons rfl (fun J hJ => ?_) AllReadyH.nil
              go_simp
              refine (HC4.out).mono ?_
              rintro e v4 ⟨rfl, hL, hK⟩
              have hk4 := (Kp.drew _ _ wr).trans hK
              go_wp2_with fail
              refine hJ.out _ _ (HS.out _ (hk4.lo.mono (by omega))) (fun hSx => ?_)
              clear hJ J
              try simp only [Act.put, List.setIfInBounds_toArray, List.set_cons_zero, List.set_cons_succ]
              refine wpAnyH_done (by kernel_rfl) ?_ _
              refine NoPanic.normal ?_
              have hX3 := HX1.out.kp hk4 hL
              have hB3 : Below w.heap.size w v4 := hB.trans (hk4.lo.mono (by omega))
              clear hK hk4 HC4 HC3 HC2 HC1 HX1 hSx y0 y1 y2 HS hB
              go_wp2
              go_roundw
              case rel => exact ⟨j + 1, by go_num, by omega, hL, hX3, hB3⟩
              case measure => simp [intOf]; omega
            · have hdj : decide ((j : Int) < 3) = false := by simp; omega
              obtain rfl : j = 3 := by omega
              rw [← HNX.out] at hR
              clear HX1 y0 y1 y2
              go_wp2
              go_roundw
              case rel => exact ⟨i + 1, by go_num, by omega, hR, hX, hB⟩
              case measure => simp [intOf]; omega
        · have hdi : decide ((i : Int) < (n : Int)) = false := by simp; omega
          have hin : n = i := by omega
          subst hin
          rw [HME.out] at hR
          have HR5 : Hid (RowB wr (w.heap.size + 3) (w.heap.size + 2) v M) := hR
          have HS : Hid (∀ W' : World, (W'.heap[w.heap.size]? = wr.heap[w.heap.size]?) → W'.cell? ⟨w.heap.size, 0, none⟩ = some (.int .i64 (v : Int))) := fun W' k => (cell_same k).trans y0
          have hw6 : IntKind.i64.wrap (2 * (v : Int)) = 2 * (v : Int) := by simp [IntKind.wrap, IntKind.bits, IntKind.signed]; omega
          have hw63 : IntKind.i64.wrap (2 * (v : Int) + 1) = 2 * (v : Int) + 1 := by simp [IntKind.wrap, IntKind.bits, IntKind.signed]; omega
          clear hR hX y0 y1 y2 HADD HAN HIS HIL HBS HBL
          go_wp2
          refine wp_region_noPanic ?_
          refine wp_region_held_drew (S := fun w' => w'.cell? ⟨w.heap.size, 0, none⟩ = some (.int .i64 (v : Int))) (by kernel_rfl) (HS.out _ rfl) (fun hSx => ?_)
          refine wpAnyH_take (i := 0) (v := .pointer (some ⟨w.heap.size + 1 + 1, 0, none⟩)) rfl (by kernel_rfl) (by kernel_rfl) (by kernel_rfl) (fun _ _ _ h => h) (Or.inl ⟨by rfl, fun w' hSw => by (try dsimp only at hSw); have hs0 := hSw; go_simp⟩) hSx ?_
          try simp only [Act.put, List.setIfInBounds_toArray]
          refine wpAnyH_take (i := 1) (v := .pointer (some ⟨w.heap.size + 1 + 1, 0, none⟩)) rfl (by kernel_rfl) (by kernel_rfl) (by kernel_rfl) (fun _ _ _ h => h) (Or.inl ⟨by rfl, fun w' hSw => by (try dsimp only at hSw); have hs0 := hSw; go_simp⟩) hSx ?_
          try simp only [Act.put]
          refine wpAnyH_take (i := 2) (v := .pointer (some ⟨w.heap.size + 1 + 1, 0, none⟩)) rfl (by kernel_rfl) (by kernel_rfl) (by kernel_rfl) (fun _ _ _ h => h) (Or.inl ⟨by rfl, fun w' hSw => by (try dsimp only at hSw); have hs0 := hSw; go_simp⟩) hSx ?_
          try simp only [Act.put]
          refine wpAnyH_take (i := 3) (v := .pointer (some ⟨w.heap.size, 0, none⟩)) rfl (by kernel_rfl) (by kernel_rfl) (by kernel_rfl) (fun _ _ _ h => h) (Or.inl ⟨by rfl, fun w' hSw => by (try dsimp only at hSw); have hs0 := hSw; go_simp⟩) hSx ?_
          try simp only [Act.put]
          refine wpAnyH_take (i := 4) (v := .int .i64 (v : Int)) rfl (by kernel_rfl) (by kernel_rfl) (by kernel_rfl) (fun _ _ _ h => h) (Or.inl ⟨by rfl, fun w' hSw => by (try dsimp only at hSw); have hs0 := hSw; go_simp⟩) hSx ?_
          try simp only [Act.put]
          refine wpAnyH_take (i := 5) (v := .int .i64 (2 * (v : Int))) rfl (by kernel_rfl) (by kernel_rfl) (by kernel_rfl) (fun _ _ _ h => h) (Or.inl ⟨by rfl, fun w' hSw => by (try dsimp only at hSw); have hs0 := hSw; go_simp⟩) hSx ?_
          try simp only [Act.put]
          refine wpAnyH_take (i := 6) (v := .int .i64 (2 * (v : Int) + 1)) rfl (by kernel_rfl) (by kernel_rfl) (by kernel_rfl) (fun _ _ _ h => h) (Or.inl ⟨by rfl, fun w' hSw => by (try dsimp only at hSw); have hs0 := hSw; go_simp⟩) hSx ?_
          try simp only [Act.put]
          refine wpAnyH_ready (rs := [7]) (by kernel_rfl) (by simp) ?_
          refine AllReadyH.cons rfl (fun J hJ => ?_) AllReadyH.nil
          go_simp
          refine (HTE.out wr.drew HR5.out.drew).mono ?_
          rintro e w6 ⟨x6, Z, rfl, hZ, hO, hb6⟩
          have hk6 : Kp (w.heap.size + 3) (w.heap.size + 2) wr w6 := (Kp.drew _ _ wr).trans (Kp.of hb6 (Nat.le_refl _) (by omega))
          have hr : w6.heap[w.heap.size + 1]? = _ := (hk6.at' _ (by omega) (by omega)).trans HX1.out.r
          obtain ⟨xa, xc, rfl⟩ := hO.cap
          have hZl := hZ.len
          have HO : Hid (OR w6 (w.heap.size + 3) (.slice xa Z.length xc) Z) := hO
          clear hO
          rw [hZl] at HO ⊢
          clear hZl
          have t0 : w6.cell? ⟨w.heap.size + 1, 0, none⟩ = some (.int .i64 0) := by rw [cell_of_row _ _ _ _ _ _ hr]; rfl
          have t1 : w6.cell? ⟨w.heap.size + 1, 1, none⟩ = some (.slice none 0 0) := by rw [cell_of_row _ _ _ _ _ _ hr]; rfl
          have f0 : w6.frozen? ⟨w.heap.size + 1, 0, none⟩ = false := frozen_of_row w6 _ 0 _ _ hr
          have f1 : w6.frozen? ⟨w.heap.size + 1, 1, none⟩ = false := frozen_of_row w6 _ 1 _ _ hr
          go_wp2_with fail
          refine hJ.out _ _ (HS.out _ (hk6.at' _ (by omega) (by omega))) (fun hSx => ?_)
          clear hJ J
          try simp only [Act.put, List.setIfInBounds_toArray, List.set_cons_zero, List.set_cons_succ]
          refine wpAnyH_ready (rs := [8]) (by kernel_rfl) (by simp) ?_
          refine AllReadyH.cons rfl (fun J hJ => ?_) AllReadyH.nil
          go_simp
          refine hJ.out _ _ (HS.out _ ((fun hk => (heap_setCell_other _ ⟨w.heap.size + 1, 1, none⟩ w.heap.size _ (by show w.heap.size ≠ w.heap.size + 1; omega)).trans ((heap_setCell_other w6 ⟨w.heap.size + 1, 0, none⟩ w.heap.size _ (by show w.heap.size ≠ w.heap.size + 1; omega)).trans hk)) (hk6.at' _ (by omega) (by omega)))) (fun hSx => ?_)
          clear hJ J
          try simp only [Act.put, List.setIfInBounds_toArray, List.set_cons_zero, List.set_cons_succ]
          refine wpAnyH_done (by kernel_rfl) ?_ _
          refine NoPanic.normal ?_
          go_wp2
          have hn1 := heap_setCell_same w6 (w.heap.size + 1) 0 _ _ (.int .i64 (2 * (v : Int) + 1)) hr
          have hn2 := heap_setCell_same _ (w.heap.size + 1) 1 _ _ (.slice xa M.length xc) hn1
          exact post_d 2 Try.results34 rfl hn2 rfl ⟨_, Z, rfl, hZ, HO.out.keep (fun b hb _ => (heap_setCell_other _ ⟨w.heap.size + 1, 1, none⟩ b _ (by show b ≠ w.heap.size + 1; omega)).trans (heap_setCell_other w6 ⟨w.heap.size + 1, 0, none⟩ b _ (by show b ≠ w.heap.size + 1; omega))), ((hB.trans (hk6.lo.mono (by omega))).setCell (p := ⟨w.heap.size + 1, 0, none⟩) (by show _ ≤ w.heap.size + 1; omega) _).setCell (p := ⟨w.heap.size + 1, 1, none⟩) (by show _ ≤ w.heap.size + 1; omega) _⟩

end Go.Proofs.Ytdeofjmgjhfkcaa

namespace Go.Proofs.Ytdeofjmgjhfkcaa
open Go.RowKit

/-- Rows of numbers stay. -/
def KpI (w w' : World) : Prop := ∀ (k : Nat) (c : Array Value) (fz : Nat × Nat), w.heap[k]? = some (Obj.cells c 3 fz) → w'.heap[k]? = some (Obj.cells c 3 fz)
theorem KpI.refl (w : World) : KpI w w := fun _ _ _ h => h
theorem KpI.trans {a b c : World} (h : KpI a b) (k : KpI b c) : KpI a c := fun i x fz e => k i x fz (h i x fz e)
theorem KpI.of {a b : World} (h : Below a.heap.size a b) : KpI a b := fun k _ _ e => (h.block k (Array.getElem?_eq_some_iff.1 e).1).trans e
set_option maxRecDepth 100000 in
set_option maxHeartbeats 4000000 in
theorem add_int (x y z base gb : Nat) (ty : TypeId) (rest : List Value) (L : List (List Nat)) (w : World) (h : Lst w base gb ty rest L) (hl : L.length ≤ 6000) (hty : ty ≠ 3) :
    Calls Try.prog 49 #[.pointer (some ⟨gb, 0, none⟩), .int .i64 (x : Int), .int .i64 (y : Int), .int .i64 (z : Int)] w fun e w' => e = .returned (.tuple #[]) ∧ Lst w' base gb ty rest (L ++ [s3 [x, y, z]]) ∧ Kp base gb w w' ∧ KpI w w' := by
  obtain ⟨v, hbx, hO, hgb, hbs⟩ := h
  have C := sort3_any x y z w
  obtain ⟨i45, ji3, jz0, jz1, jz2⟩ := info36
  obtain ⟨va, vc, rfl⟩ := hO.cap
  have HBX : Hid (∀ W, Below w.heap.size w W → W.heap[gb]? = some (.cells (.slice va L.length vc :: rest).toArray ty (0, 0))) := fun W b => (b.block gb (by omega)).trans hbx
  have HO : Hid (OR w base (.slice va L.length vc) L) := hO
  have HS3 : Hid ((s3 [x, y, z]).length = 3) := s3_len _
  obtain ⟨s, Hs⟩ : ∃ s, Hid (s3 [x, y, z] = s) := ⟨_, rfl⟩
  rw [Hs.out] at C HS3 ⊢
  obtain ⟨n, Hn⟩ : ∃ n, Hid (L.length = n) := ⟨_, rfl⟩
  rw [Hn.out] at HO HBX hl
  clear hbx hO
  go_enter Try.func49, Try.ntmps49
  go_wp2_with (first
    | (go_at_call 71; refine C.mono ?_; rintro e w1 ⟨rfl, hrow, hB⟩; clear C; have hbx := HBX.out w1 hB; have c0 : w1.cell? ⟨gb, 0, none⟩ = some (.slice va n vc) := (by rw [cell_of_row _ _ _ _ _ _ hbx]; rfl); obtain ⟨vals, h1, h2⟩ := HO.out.below hB; have HB : Hid (Below w.heap.size w w1) := hB; have HROW : Hid (w1.ownsRow w.heap.size 3 1 (.slice (some ⟨w.heap.size, 0, none⟩) 3 3) 3 ((s.map Int.ofNat).map (Value.int .i64))) := hrow; have hsz := hB.size; have HBXX : Hid (w1.heap[gb]? = some (.cells (.slice va n vc :: rest).toArray ty (0, 0))) := hbx; have H2 : Hid (∀ (i : Nat) (u : Value) (l : List Nat), vals[i]? = some u → L[i]? = some l → ORow w1 base u l) := h2; have H1 : Hid (w1.ownsRow base 45 1 (.slice va n vc) L.length vals) := h1; rw [Hn.out] at h1; clear hB hrow hbx h2 HBX)
    | (at_builtin; refine wpList_append_own _ rfl _ _ 22 rfl base 45 i45 (.slice none 0 0) 1 24 undR ji3 jz0 jz1 jz2 rfl (by decide) _ _ _ rfl (h1.alloc _) ⟨w1.heap.size, 0, none⟩ 1 1 [.slice (some ⟨w.heap.size, 0, none⟩) 3 3] rfl rfl ?c1 ?c2 ?c3 ?c4 ?c5 ?_)
    | go_in)
  case c1 =>
    intro j u hj
    match j, hj with
    | 0, hj => simp at hj; subst hj; simp [Addr.add]
  case c2 => intro u hu; simp at hu; subst hu; rfl
  case c3 => unfold maxLen; omega
  case c4 => omega
  case c5 => simp; omega
  · intro v' w2 hown' hgrow _
    have hal := balloc w1 (.cells #[.slice (some ⟨w.heap.size, 0, none⟩) 3 3] 45)
    have hB2 : Below base w1 w2 := ((Below.refl _ w1).alloc (by omega) _).grown hgrow (by simp; omega) (fun k hk => (h1.lt k hk).1)
    have hrw : ORow w1 base (.slice (some ⟨w.heap.size, 0, none⟩) 3 3) s := by
      have := own_low HROW.out hbs
      unfold ORow
      rw [HS3.out]; exact this
    have hO2 : OR w2 base v' (L ++ [s]) := OR.more (own_keep H1.out fun b _ hb => hal.block b hb) (fun i_1 u l' e1 e2 => (H2.out i_1 u l' e1 e2).below hal) (hrw.below hal) (by rw [Hn.out]; exact hown') hgrow
    obtain ⟨na, nc, rfl⟩ := own_form hown'
    have hb2 : w2.heap[gb]? = _ := (hB2.block gb hgb).trans HBXX.out
    have c1 : w2.cell? ⟨gb, 0, none⟩ = some (.slice va n vc) := by rw [cell_of_row _ _ _ _ _ _ hb2]; rfl
    have hfz : w2.frozen? ⟨gb, 0, none⟩ = false := frozen_of_row w2 gb 0 _ _ hb2
    have hb3 := heap_setCell_same w2 gb 0 _ ty (.slice na (n + 1) nc) hb2
    have hO3 := hO2.keep (w' := w2.setCell ⟨gb, 0, none⟩ (.slice na (n + 1) nc)) (fun b hb _ => heap_setCell_other w2 ⟨gb, 0, none⟩ b _ (by show b ≠ gb; omega))
    have hlo : Below gb w w2 := (HB.out.mono (by omega)).trans (hB2.mono (by omega))
    have hK : Kp base gb w (w2.setCell ⟨gb, 0, none⟩ (.slice na (n + 1) nc)) := ⟨hlo.setCell (p := ⟨gb, 0, none⟩) (Nat.le_refl _) _, fun k h1 h2 => (heap_setCell_other w2 ⟨gb, 0, none⟩ k _ h2).trans ((hB2.block k h1).trans (HB.out.block k (by omega)))⟩
    have hz : base ≤ (w2.setCell ⟨gb, 0, none⟩ (.slice na (n + 1) nc)).heap.size := by have := hB2.size; simp; omega
    have hKI : KpI w (w2.setCell ⟨gb, 0, none⟩ (.slice na (n + 1) nc)) := fun k c fz hk => by
      have hkl : k < w.heap.size := (Array.getElem?_eq_some_iff.1 hk).1
      have hk1 : w1.heap[k]? = _ := (HB.out.block k hkl).trans hk
      have hne : k ≠ gb := fun e => by
        rw [e, HBXX.out] at hk1
        simp at hk1
        exact hty hk1.2.1
      have hno : (Value.slice va n vc).ownBlock ≠ some k := fun e => by
        obtain ⟨_, ⟨e1, _⟩ | ⟨g, cap, cur, e1, _, hg, _⟩⟩ := h1
        · cases e1; simp [Value.ownBlock] at e
        · cases e1
          have e2 : g = k := by simpa [Value.ownBlock] using e
          rw [e2, hk1] at hg
          simp at hg
      exact (heap_setCell_other w2 ⟨gb, 0, none⟩ k _ hne).trans ((hgrow.block k (by simp; omega) fun e => hno e.symm).trans ((hal.block k (by omega)).trans hk1))
    clear hO2 hb2 hB2 hlo hal hgrow hown' h1 hrw c0
    go_wp2
    go_end0
    exact ⟨rfl, ⟨_, by simpa using hb3, hO3, hgb, hz⟩, hK, hKI⟩

/-- Three numbers that are read, whatever is added meanwhile. -/
def R3 (base gb : Nat) (w : World) (b o : Nat) (x y z : Nat) : Prop := ∀ W, Kp base gb w W → KpI w W → W.cell? ⟨b, o, none⟩ = some (.int .i64 (x : Int)) ∧ W.cell? ⟨b, o + 1, none⟩ = some (.int .i64 (y : Int)) ∧ W.cell? ⟨b, o + 2, none⟩ = some (.int .i64 (z : Int))
theorem R3.step {base gb b o x y z : Nat} {w w' : World} (h : R3 base gb w b o x y z) (k : Kp base gb w w') (i : KpI w w') : R3 base gb w' b o x y z := fun W hk hi => h W (k.trans hk) (i.trans hi)
theorem R3.new (base gb : Nat) (w : World) (x y z : Nat) : R3 base gb (w.alloc (.cells #[.int .i64 (x : Int), .int .i64 (y : Int), .int .i64 (z : Int)] 3)) w.heap.size 0 x y z := fun W _ hi => by
  have h := hi _ _ _ (heap_alloc_new w (.cells #[.int .i64 (x : Int), .int .i64 (y : Int), .int .i64 (z : Int)] 3))
  exact ⟨by rw [cell_of_row _ _ _ _ _ _ h]; rfl, by rw [cell_of_row _ _ _ _ _ _ h]; rfl, by rw [cell_of_row _ _ _ _ _ _ h]; rfl⟩
set_option maxRecDepth 100000 in
set_option maxHeartbeats 4000000 in
theorem pair_any (r0 r1 r2 p0 p1 p2 base gb m rb ro rc pb po pc : Nat) (L : List (List Nat)) (w : World) (h : RowB w base gb m L) (hl : L.length ≤ 6000) (hm : m ≤ 99) (hr : r0 ≤ 99 ∧ r1 ≤ 99 ∧ r2 ≤ 99) (hp : p0 ≤ 99 ∧ p1 ≤ 99 ∧ p2 ≤ 99) (hR : R3 base gb w rb ro r0 r1 r2) (hP : R3 base gb w pb po p0 p1 p2) :
    Calls Try.prog 57 #[.pointer (some ⟨gb, 0, none⟩), .slice (some ⟨rb, ro, none⟩) 3 rc, .slice (some ⟨pb, po, none⟩) 3 pc] w fun e w' => e = .returned (.tuple #[]) ∧ RowB w' base gb m (L ++ [s3 [r0 * m + p0, r1 * m + p1, r2 * m + p2]]) ∧ Kp base gb w w' ∧ KpI w w' := by
  obtain ⟨hr0, hr1, hr2⟩ := hr
  obtain ⟨hp0, hp1, hp2⟩ := hp
  have c1 := h.width
  have HC1 : Hid (Calls Try.prog 50 #[.pointer (some ⟨gb, 0, none⟩), .int .i64 (r0 : Int), .int .i64 (p0 : Int)] w.drew fun e w' => e = .returned (.int .i64 ((r0 * m + p0 : Nat) : Int)) ∧ w' = w.drew) := at_any r0 p0 gb m w.drew c1 hr0 hm hp0
  have HC2 : Hid (Calls Try.prog 50 #[.pointer (some ⟨gb, 0, none⟩), .int .i64 (r1 : Int), .int .i64 (p1 : Int)] w.drew fun e w' => e = .returned (.int .i64 ((r1 * m + p1 : Nat) : Int)) ∧ w' = w.drew) := at_any r1 p1 gb m w.drew c1 hr1 hm hp1
  have HC3 : Hid (Calls Try.prog 50 #[.pointer (some ⟨gb, 0, none⟩), .int .i64 (r2 : Int), .int .i64 (p2 : Int)] w.drew fun e w' => e = .returned (.int .i64 ((r2 * m + p2 : Nat) : Int)) ∧ w' = w.drew) := at_any r2 p2 gb m w.drew c1 hr2 hm hp2
  have HC4 : Hid (Calls Try.prog 49 #[.pointer (some ⟨gb, 0, none⟩), .int .i64 ((r0 * m + p0 : Nat) : Int), .int .i64 ((r1 * m + p1 : Nat) : Int), .int .i64 ((r2 * m + p2 : Nat) : Int)] w.drew fun e w' => e = .returned (.tuple #[]) ∧ RowB w' base gb m (L ++ [s3 [r0 * m + p0, r1 * m + p1, r2 * m + p2]]) ∧ Kp base gb w.drew w' ∧ KpI w.drew w') := add_int _ _ _ base gb 76 [.int .i64 (m : Int)] L w.drew h.drew hl (by decide)
  have HS : Hid (∀ W', Kp base gb w W' → KpI w W' → (W'.cell? ⟨rb, ro, none⟩ = some (.int .i64 (r0 : Int)) ∧ W'.cell? ⟨rb, ro + 1, none⟩ = some (.int .i64 (r1 : Int)) ∧ W'.cell? ⟨rb, ro + 2, none⟩ = some (.int .i64 (r2 : Int)) ∧ W'.cell? ⟨pb, po, none⟩ = some (.int .i64 (p0 : Int)) ∧ W'.cell? ⟨pb, po + 1, none⟩ = some (.int .i64 (p1 : Int)) ∧ W'.cell? ⟨pb, po + 2, none⟩ = some (.int .i64 (p2 : Int)))) := fun W' k i => by
    obtain ⟨a, b, c⟩ := hR W' k i
    obtain ⟨d, e, f⟩ := hP W' k i
    exact ⟨a, b, c, d, e, f⟩
  have HK0 : Hid (Kp base gb w w.drew ∧ KpI w w.drew) := ⟨Kp.drew _ _ _, KpI.of (Below.refl _ w).drew⟩
  generalize s3 [r0 * m + p0, r1 * m + p1, r2 * m + p2] = sb at *
  generalize r0 * m + p0 = a1 at *
  generalize r1 * m + p1 = a2 at *
  generalize r2 * m + p2 = a3 at *
  clear hR hP h c1
  go_enter Try.func57, Try.ntmps57
  go_wp2
  refine wp_region_noPanic ?_
  refine wp_region_held_drew (S := fun w' => w'.cell? ⟨rb, ro, none⟩ = some (.int .i64 (r0 : Int)) ∧ w'.cell? ⟨rb, ro + 1, none⟩ = some (.int .i64 (r1 : Int)) ∧ w'.cell? ⟨rb, ro + 2, none⟩ = some (.int .i64 (r2 : Int)) ∧ w'.cell? ⟨pb, po, none⟩ = some (.int .i64 (p0 : Int)) ∧ w'.cell? ⟨pb, po + 1, none⟩ = some (.int .i64 (p1 : Int)) ∧ w'.cell? ⟨pb, po + 2, none⟩ = some (.int .i64 (p2 : Int))) (by kernel_rfl) (HS.out _ HK0.out.1 HK0.out.2) (fun hSx => ?_)
  refine wpAnyH_take (i := 0) (v := .pointer (some ⟨gb, 0, none⟩)) rfl (by kernel_rfl) (by kernel_rfl) (by kernel_rfl) (fun _ _ _ h => h) (Or.inl ⟨by rfl, fun w' hSw => by (try dsimp only at hSw); obtain ⟨hs0, hs1, hs2, hs3, hs4, hs5⟩ := hSw; go_simp⟩) hSx ?_
  try simp only [Act.put, List.setIfInBounds_toArray]
  refine wpAnyH_take (i := 1) (v := .pointer (some ⟨gb, 0, none⟩)) rfl (by kernel_rfl) (by kernel_rfl) (by kernel_rfl) (fun _ _ _ h => h) (Or.inl ⟨by rfl, fun w' hSw => by (try dsimp only at hSw); obtain ⟨hs0, hs1, hs2, hs3, hs4, hs5⟩ := hSw; go_simp⟩) hSx ?_
  try simp only [Act.put]
  refine wpAnyH_take (i := 2) (v := .pointer (some ⟨gb, 0, none⟩)) rfl (by kernel_rfl) (by kernel_rfl) (by kernel_rfl) (fun _ _ _ h => h) (Or.inl ⟨by rfl, fun w' hSw => by (try dsimp only at hSw); obtain ⟨hs0, hs1, hs2, hs3, hs4, hs5⟩ := hSw; go_simp⟩) hSx ?_
  try simp only [Act.put]
  refine wpAnyH_take (i := 3) (v := .pointer (some ⟨gb, 0, none⟩)) rfl (by kernel_rfl) (by kernel_rfl) (by kernel_rfl) (fun _ _ _ h => h) (Or.inl ⟨by rfl, fun w' hSw => by (try dsimp only at hSw); obtain ⟨hs0, hs1, hs2, hs3, hs4, hs5⟩ := hSw; go_simp⟩) hSx ?_
  try simp only [Act.put]
  refine wpAnyH_take (i := 4) (v := .slice (some ⟨rb, ro, none⟩) 3 rc) rfl (by kernel_rfl) (by kernel_rfl) (by kernel_rfl) (fun _ _ _ h => h) (Or.inl ⟨by rfl, fun w' hSw => by (try dsimp only at hSw); obtain ⟨hs0, hs1, hs2, hs3, hs4, hs5⟩ := hSw; go_simp⟩) hSx ?_
  try simp only [Act.put]
  refine wpAnyH_take (i := 5) (v := .pointer (some ⟨rb, ro, none⟩)) rfl (by kernel_rfl) (by kernel_rfl) (by kernel_rfl) (fun _ _ _ h => h) (Or.inl ⟨by rfl, fun w' hSw => by (try dsimp only at hSw); obtain ⟨hs0, hs1, hs2, hs3, hs4, hs5⟩ := hSw; go_simp⟩) hSx ?_
  try simp only [Act.put]
  refine wpAnyH_take (i := 6) (v := .int .i64 (r0 : Int)) rfl (by kernel_rfl) (by kernel_rfl) (by kernel_rfl) (fun _ _ _ h => h) (Or.inl ⟨by rfl, fun w' hSw => by (try dsimp only at hSw); obtain ⟨hs0, hs1, hs2, hs3, hs4, hs5⟩ := hSw; go_simp⟩) hSx ?_
  try simp only [Act.put]
  refine wpAnyH_take (i := 7) (v := .slice (some ⟨pb, po, none⟩) 3 pc) rfl (by kernel_rfl) (by kernel_rfl) (by kernel_rfl) (fun _ _ _ h => h) (Or.inl ⟨by rfl, fun w' hSw => by (try dsimp only at hSw); obtain ⟨hs0, hs1, hs2, hs3, hs4, hs5⟩ := hSw; go_simp⟩) hSx ?_
  try simp only [Act.put]
  refine wpAnyH_take (i := 8) (v := .pointer (some ⟨pb, po, none⟩)) rfl (by kernel_rfl) (by kernel_rfl) (by kernel_rfl) (fun _ _ _ h => h) (Or.inl ⟨by rfl, fun w' hSw => by (try dsimp only at hSw); obtain ⟨hs0, hs1, hs2, hs3, hs4, hs5⟩ := hSw; go_simp⟩) hSx ?_
  try simp only [Act.put]
  refine wpAnyH_take (i := 9) (v := .int .i64 (p0 : Int)) rfl (by kernel_rfl) (by kernel_rfl) (by kernel_rfl) (fun _ _ _ h => h) (Or.inl ⟨by rfl, fun w' hSw => by (try dsimp only at hSw); obtain ⟨hs0, hs1, hs2, hs3, hs4, hs5⟩ := hSw; go_simp⟩) hSx ?_
  try simp only [Act.put]
  refine wpAnyH_take (i := 11) (v := .pointer (some ⟨gb, 0, none⟩)) rfl (by kernel_rfl) (by kernel_rfl) (by kernel_rfl) (fun _ _ _ h => h) (Or.inl ⟨by rfl, fun w' hSw => by (try dsimp only at hSw); obtain ⟨hs0, hs1, hs2, hs3, hs4, hs5⟩ := hSw; go_simp⟩) hSx ?_
  try simp only [Act.put]
  refine wpAnyH_take (i := 12) (v := .slice (some ⟨rb, ro, none⟩) 3 rc) rfl (by kernel_rfl) (by kernel_rfl) (by kernel_rfl) (fun _ _ _ h => h) (Or.inl ⟨by rfl, fun w' hSw => by (try dsimp only at hSw); obtain ⟨hs0, hs1, hs2, hs3, hs4, hs5⟩ := hSw; go_simp⟩) hSx ?_
  try simp only [Act.put]
  refine wpAnyH_take (i := 13) (v := .pointer (some ⟨rb, ro + 1, none⟩)) rfl (by kernel_rfl) (by kernel_rfl) (by kernel_rfl) (fun _ _ _ h => h) (Or.inl ⟨by rfl, fun w' hSw => by (try dsimp only at hSw); obtain ⟨hs0, hs1, hs2, hs3, hs4, hs5⟩ := hSw; go_simp⟩) hSx ?_
  try simp only [Act.put]
  refine wpAnyH_take (i := 14) (v := .int .i64 (r1 : Int)) rfl (by kernel_rfl) (by kernel_rfl) (by kernel_rfl) (fun _ _ _ h => h) (Or.inl ⟨by rfl, fun w' hSw => by (try dsimp only at hSw); obtain ⟨hs0, hs1, hs2, hs3, hs4, hs5⟩ := hSw; go_simp⟩) hSx ?_
  try simp only [Act.put]
  refine wpAnyH_take (i := 15) (v := .slice (some ⟨pb, po, none⟩) 3 pc) rfl (by kernel_rfl) (by kernel_rfl) (by kernel_rfl) (fun _ _ _ h => h) (Or.inl ⟨by rfl, fun w' hSw => by (try dsimp only at hSw); obtain ⟨hs0, hs1, hs2, hs3, hs4, hs5⟩ := hSw; go_simp⟩) hSx ?_
  try simp only [Act.put]
  refine wpAnyH_take (i := 16) (v := .pointer (some ⟨pb, po + 1, none⟩)) rfl (by kernel_rfl) (by kernel_rfl) (by kernel_rfl) (fun _ _ _ h => h) (Or.inl ⟨by rfl, fun w' hSw => by (try dsimp only at hSw); obtain ⟨hs0, hs1, hs2, hs3, hs4, hs5⟩ := hSw; go_simp⟩) hSx ?_
  try simp only [Act.put]
  refine wpAnyH_take (i := 17) (v := .int .i64 (p1 : Int)) rfl (by kernel_rfl) (by kernel_rfl) (by kernel_rfl) (fun _ _ _ h => h) (Or.inl ⟨by rfl, fun w' hSw => by (try dsimp only at hSw); obtain ⟨hs0, hs1, hs2, hs3, hs4, hs5⟩ := hSw; go_simp⟩) hSx ?_
  try simp only [Act.put]
  refine wpAnyH_take (i := 19) (v := .pointer (some ⟨gb, 0, none⟩)) rfl (by kernel_rfl) (by kernel_rfl) (by kernel_rfl) (fun _ _ _ h => h) (Or.inl ⟨by rfl, fun w' hSw => by (try dsimp only at hSw); obtain ⟨hs0, hs1, hs2, hs3, hs4, hs5⟩ := hSw; go_simp⟩) hSx ?_
  try simp only [Act.put]
  refine wpAnyH_take (i := 20) (v := .slice (some ⟨rb, ro, none⟩) 3 rc) rfl (by kernel_rfl) (by kernel_rfl) (by kernel_rfl) (fun _ _ _ h => h) (Or.inl ⟨by rfl, fun w' hSw => by (try dsimp only at hSw); obtain ⟨hs0, hs1, hs2, hs3, hs4, hs5⟩ := hSw; go_simp⟩) hSx ?_
  try simp only [Act.put]
  refine wpAnyH_take (i := 21) (v := .pointer (some ⟨rb, ro + 2, none⟩)) rfl (by kernel_rfl) (by kernel_rfl) (by kernel_rfl) (fun _ _ _ h => h) (Or.inl ⟨by rfl, fun w' hSw => by (try dsimp only at hSw); obtain ⟨hs0, hs1, hs2, hs3, hs4, hs5⟩ := hSw; go_simp⟩) hSx ?_
  try simp only [Act.put]
  refine wpAnyH_take (i := 22) (v := .int .i64 (r2 : Int)) rfl (by kernel_rfl) (by kernel_rfl) (by kernel_rfl) (fun _ _ _ h => h) (Or.inl ⟨by rfl, fun w' hSw => by (try dsimp only at hSw); obtain ⟨hs0, hs1, hs2, hs3, hs4, hs5⟩ := hSw; go_simp⟩) hSx ?_
  try simp only [Act.put]
  refine wpAnyH_take (i := 23) (v := .slice (some ⟨pb, po, none⟩) 3 pc) rfl (by kernel_rfl) (by kernel_rfl) (by kernel_rfl) (fun _ _ _ h => h) (Or.inl ⟨by rfl, fun w' hSw => by (try dsimp only at hSw); obtain ⟨hs0, hs1, hs2, hs3, hs4, hs5⟩ := hSw; go_simp⟩) hSx ?_
  try simp only [Act.put]
  refine wpAnyH_take (i := 24) (v := .pointer (some ⟨pb, po + 2, none⟩)) rfl (by kernel_rfl) (by kernel_rfl) (by kernel_rfl) (fun _ _ _ h => h) (Or.inl ⟨by rfl, fun w' hSw => by (try dsimp only at hSw); obtain ⟨hs0, hs1, hs2, hs3, hs4, hs5⟩ := hSw; go_simp⟩) hSx ?_
  try simp only [Act.put]
  refine wpAnyH_take (i := 25) (v := .int .i64 (p2 : Int)) rfl (by kernel_rfl) (by kernel_rfl) (by kernel_rfl) (fun _ _ _ h => h) (Or.inl ⟨by rfl, fun w' hSw => by (try dsimp only at hSw); obtain ⟨hs0, hs1, hs2, hs3, hs4, hs5⟩ := hSw; go_simp⟩) hSx ?_
  try simp only [Act.put]
  refine wpAnyH_ready (rs := [10]) (by kernel_rfl) (by simp) ?_
  refine AllReadyH.cons rfl (fun J hJ => ?_) AllReadyH.nil
  go_simp
  refine (HC1.out).mono ?_
  rintro e v1 ⟨rfl, hw⟩
  replace hw := hw.symm
  subst hw
  go_wp2_with fail
  refine hJ.out _ _ (HS.out _ HK0.out.1 HK0.out.2) (fun hSx => ?_)
  clear hJ J
  try simp only [Act.put, List.setIfInBounds_toArray, List.set_cons_zero, List.set_cons_succ]
  refine wpAnyH_ready (rs := [18]) (by kernel_rfl) (by simp) ?_
  refine AllReadyH.cons rfl (fun J hJ => ?_) AllReadyH.nil
  go_simp
  refine (HC2.out).mono ?_
  rintro e v2 ⟨rfl, hw⟩
  replace hw := hw.symm
  subst hw
  go_wp2_with fail
  refine hJ.out _ _ (HS.out _ HK0.out.1 HK0.out.2) (fun hSx => ?_)
  clear hJ J
  try simp only [Act.put, List.setIfInBounds_toArray, List.set_cons_zero, List.set_cons_succ]
  refine wpAnyH_ready (rs := [26]) (by kernel_rfl) (by simp) ?_
  refine AllReadyH.cons rfl (fun J hJ => ?_) AllReadyH.nil
  go_simp
  refine (HC3.out).mono ?_
  rintro e v3 ⟨rfl, hw⟩
  replace hw := hw.symm
  subst hw
  go_wp2_with fail
  refine hJ.out _ _ (HS.out _ HK0.out.1 HK0.out.2) (fun hSx => ?_)
  clear hJ J
  try simp only [Act.put, List.setIfInBounds_toArray, List.set_cons_zero, List.set_cons_succ]
  refine wpAnyH_ready (rs := [27]) (by kernel_rfl) (by simp) ?_
  refine AllReadyH.cons rfl (fun J hJ => ?_) AllReadyH.nil
  go_simp
  refine (HC4.out).mono ?_
  rintro e v4 ⟨rfl, hL, hK, hI⟩
  have hk4 := HK0.out.1.trans hK
  have hi4 := HK0.out.2.trans hI
  go_wp2_with fail
  refine hJ.out _ _ (HS.out _ hk4 hi4) (fun hSx => ?_)
  clear hJ J
  try simp only [Act.put, List.setIfInBounds_toArray, List.set_cons_zero, List.set_cons_succ]
  refine wpAnyH_done (by kernel_rfl) ?_ _
  refine NoPanic.normal ?_
  go_wp2
  go_end0
  exact ⟨rfl, hL, hk4, hi4⟩
def sxI (m : Nat) (R P : Nat → Nat) (i : Nat) : List (List Nat) := (List.range i).flatMap fun i => [s3 [R 0 * m + P i, R 1 * m + P ((i + 1) % 3), R 2 * m + P ((i + 2) % 3)], s3 [R 0 * m + P i, R 1 * m + P ((i + 2) % 3), R 2 * m + P ((i + 1) % 3)]]
theorem sxI_succ (m : Nat) (R P : Nat → Nat) (i : Nat) : sxI m R P (i + 1) = (sxI m R P i ++ [s3 [R 0 * m + P i, R 1 * m + P ((i + 1) % 3), R 2 * m + P ((i + 2) % 3)]]) ++ [s3 [R 0 * m + P i, R 1 * m + P ((i + 2) % 3), R 2 * m + P ((i + 1) % 3)]] := by unfold sxI; rw [List.range_succ, List.flatMap_append]; simp
theorem sxI_len (m : Nat) (R P : Nat → Nat) : ∀ i, (sxI m R P i).length = 2 * i
  | 0 => rfl
  | i + 1 => by rw [sxI_succ, List.length_append, List.length_append, sxI_len m R P i]; simp; omega
theorem Kp.alloc {base gb : Nat} {w : World} (o : Obj) (h1 : base ≤ w.heap.size) (h2 : gb ≤ w.heap.size) : Kp base gb w (w.alloc o) := Kp.of (balloc w o) h1 h2
theorem Lst.alloc {w : World} {base gb : Nat} {ty : TypeId} {rest : List Value} {L : List (List Nat)} (h : Lst w base gb ty rest L) (o : Obj) : Lst (w.alloc o) base gb ty rest L := h.below (balloc w o)
set_option maxRecDepth 100000 in
set_option maxHeartbeats 8000000 in
theorem pairAll_any (R P : Nat → Nat) (base gb m rb ro rc pb po pc : Nat) (L : List (List Nat)) (w : World) (h : RowB w base gb m L) (hl : L.length ≤ 5000) (hm : m ≤ 99) (hr : ∀ j, R j ≤ 99) (hp : ∀ j, P j ≤ 99) (hR : R3 base gb w rb ro (R 0) (R 1) (R 2)) (hP : R3 base gb w pb po (P 0) (P 1) (P 2)) :
    Calls Try.prog 58 #[.pointer (some ⟨gb, 0, none⟩), .slice (some ⟨rb, ro, none⟩) 3 rc, .slice (some ⟨pb, po, none⟩) 3 pc] w fun e w' => e = .returned (.tuple #[]) ∧ RowB w' base gb m (L ++ sxI m R P 3) ∧ Kp base gb w w' ∧ KpI w w' := by
  have HP : Hid (∀ W, Kp base gb w W → KpI w W → ∀ j, j < 3 → W.cell? ⟨pb, po + j, none⟩ = some (.int .i64 (P j : Int))) := fun W k i j hj => by
    obtain ⟨a, b, c⟩ := hP W k i
    match j, hj with
    | 0, _ => exact a
    | 1, _ => exact b
    | 2, _ => exact c
  have HR : Hid (R3 base gb w rb ro (R 0) (R 1) (R 2)) := hR
  have HPA : Hid (∀ (W : World) (M : List (List Nat)) (b x y z : Nat), Kp base gb w W → KpI w W → RowB W base gb m M → M.length ≤ 6000 → (x ≤ 99 ∧ y ≤ 99 ∧ z ≤ 99) → R3 base gb W b 0 x y z → Calls Try.prog 57 #[.pointer (some ⟨gb, 0, none⟩), .slice (some ⟨rb, ro, none⟩) 3 rc, .slice (some ⟨b, 0, none⟩) 3 3] W fun e w' => e = .returned (.tuple #[]) ∧ RowB w' base gb m (M ++ [s3 [R 0 * m + x, R 1 * m + y, R 2 * m + z]]) ∧ Kp base gb W w' ∧ KpI W w') := fun W M b x y z k i hM hl hx h3 => pair_any (R 0) (R 1) (R 2) x y z base gb m rb ro rc b 0 3 M W hM hl hm ⟨hr 0, hr 1, hr 2⟩ hx (HR.out.step k i) h3
  have HPJ : Hid (∀ j, P j ≤ 99) := hp
  have HLI : Hid (∀ i, (sxI m R P i).length = 2 * i) := sxI_len m R P
  have HIS : Hid (∀ i, sxI m R P (i + 1) = (sxI m R P i ++ [s3 [R 0 * m + P i, R 1 * m + P ((i + 1) % 3), R 2 * m + P ((i + 2) % 3)]]) ++ [s3 [R 0 * m + P i, R 1 * m + P ((i + 2) % 3), R 2 * m + P ((i + 1) % 3)]]) := sxI_succ m R P
  have HL0 : Hid (RowB w base gb m (L ++ sxI m R P 0)) := by show Lst _ _ _ _ _ _; simpa [sxI] using h
  clear hR hP h hr hp
  go_enter Try.func58, Try.ntmps58
  go_wp2
  go_loopw [10] (fun iv wr => ∃ (i : Nat), iv = .int .i64 (i : Int) ∧ i ≤ 3 ∧ RowB wr base gb m (L ++ sxI m R P i) ∧ Kp base gb w wr ∧ KpI w wr) (fun iv _ => (3 - intOf iv).toNat)
  case atStart => exact ⟨0, rfl, by omega, HL0.out, Kp.refl _ _ _, KpI.refl _⟩
  case round =>
    clear HL0
    obtain ⟨i, rfl, hi, hRW, hK, hI⟩ := hrel
    by_cases hli : i < 3
    · have hdi : decide ((i : Int) < 3) = true := by simp; omega
      have hii : (i : Int) < 3 := by omega
      have hrem1 : ((i : Int) + 1).tmod 3 = (((i + 1) % 3 : Nat) : Int) := by rw [Int.tmod_eq_emod_of_nonneg (by omega)]; rfl
      have hrem2 : ((i : Int) + 2).tmod 3 = (((i + 2) % 3 : Nat) : Int) := by rw [Int.tmod_eq_emod_of_nonneg (by omega)]; rfl
      have hr1 : (i + 1) % 3 < 3 := Nat.mod_lt _ (by omega)
      have hr2 : (i + 2) % 3 < 3 := Nat.mod_lt _ (by omega)
      have q0 := HP.out wr hK hI i hli
      have q1 := HP.out wr hK hI _ hr1
      have q2 := HP.out wr hK hI _ hr2
      have his := HIS.out i
      have hil := HLI.out i
      have g0 := HPJ.out i
      have g1 := HPJ.out ((i + 1) % 3)
      have g2 := HPJ.out ((i + 2) % 3)
      obtain ⟨Li, HLi⟩ : ∃ Li, Hid (L ++ sxI m R P i = Li) := ⟨_, rfl⟩
      have hlil : Li.length ≤ 5900 := by rw [← HLi.out, List.length_append]; omega
      generalize P i = x at *
      generalize P ((i + 1) % 3) = y at *
      generalize P ((i + 2) % 3) = z at *
      generalize (i + 1) % 3 = s1 at *
      generalize (i + 2) % 3 = s2 at *
      have HNX : Hid (L ++ sxI m R P (i + 1) = (Li ++ [s3 [R 0 * m + x, R 1 * m + y, R 2 * m + z]]) ++ [s3 [R 0 * m + x, R 1 * m + z, R 2 * m + y]]) := by show _ = _; rw [his, ← HLi.out]; simp only [List.append_assoc]
      rw [HLi.out] at hRW
      have HRI : Hid (RowB wr base gb m Li) := hRW
      have HKI : Hid (Kp base gb w wr ∧ KpI w wr) := ⟨hK, hI⟩
      have hn1 : ¬ (3 : Int) ≤ (s1 : Int) := by omega
      have hn2 : ¬ (3 : Int) ≤ (s2 : Int) := by omega
      have HLL : Hid ((Li ++ [s3 [R 0 * m + x, R 1 * m + y, R 2 * m + z]]).length ≤ 6000) := by show _ ≤ _; rw [List.length_append]; simp; omega
      clear his hil HLi hRW hK hI
      go_wp2
      go_quiet (fail)
      have HD : Hid (Below wr.heap.size wr (wr.drewN nq)) := ⟨rfl, rfl, rfl, Nat.le_refl _, fun _ _ => rfl⟩
      obtain ⟨wd, Hwd⟩ : ∃ wd, Hid (wd = wr.drewN nq) := ⟨_, rfl⟩
      rw [← Hwd.out] at HD ⊢
      have HRD : Hid (RowB wd base gb m Li) := HRI.out.below HD.out
      have HKD : Hid (Kp base gb w wd ∧ KpI w wd) := ⟨HKI.out.1.trans (Kp.of HD.out HRI.out.le HRI.out.le2), HKI.out.2.trans (KpI.of HD.out)⟩
      clear HD Hwd HRI HKI q0 q1 q2
      go_wp2_with (first
        | (go_at_call 57; refine (HPA.out _ (Li ++ [s3 [R 0 * m + x, R 1 * m + y, R 2 * m + z]]) v1.heap.size x z y (HK1.out.1.trans (Kp.alloc _ HR1.out.le HR1.out.le2)) (HK1.out.2.trans (KpI.of (balloc _ _))) (HR1.out.alloc _) HLL.out ⟨g0, g2, g1⟩ (R3.new _ _ _ _ _ _)).mono ?_; rintro e v2 ⟨rfl, hL2, hK2, hI2⟩; have HK2 : Hid (Kp base gb w v2 ∧ KpI w v2) := ⟨(HK1.out.1.trans (Kp.alloc _ HR1.out.le HR1.out.le2)).trans hK2, (HK1.out.2.trans (KpI.of (balloc _ _))).trans hI2⟩; rw [← HNX.out] at hL2; clear hK2 hI2)
        | (go_at_call 57; refine (HPA.out _ Li wd.heap.size x y z (HKD.out.1.trans (Kp.alloc _ HRD.out.le HRD.out.le2)) (HKD.out.2.trans (KpI.of (balloc _ _))) (HRD.out.alloc _) (by omega) ⟨g0, g1, g2⟩ (R3.new _ _ _ _ _ _)).mono ?_; rintro e v1 ⟨rfl, hL1, hK1, hI1⟩; have HR1 : Hid (RowB v1 base gb m (Li ++ [s3 [R 0 * m + x, R 1 * m + y, R 2 * m + z]])) := hL1; have HK1 : Hid (Kp base gb w v1 ∧ KpI w v1) := ⟨(HKD.out.1.trans (Kp.alloc _ HRD.out.le HRD.out.le2)).trans hK1, (HKD.out.2.trans (KpI.of (balloc _ _))).trans hI1⟩; clear hL1 hK1 hI1))
      go_roundw
      case rel => exact ⟨i + 1, by go_num, by omega, hL2, HK2.out.1, HK2.out.2⟩
      case measure => simp [intOf]; omega
    · have hdi : decide ((i : Int) < 3) = false := by simp; omega
      obtain rfl : i = 3 := by omega
      go_wp2
      go_end0
      exact ⟨rfl, hRW, hK, hI⟩

end Go.Proofs.Ytdeofjmgjhfkcaa

namespace Go.Proofs.Ytdeofjmgjhfkcaa
open Go.RowKit

/-- The boxes of the product. -/
structure Bx5 (s v m : Nat) (ua ub : Value) (W : World) : Prop where
  a : W.heap[s]? = some (.cells #[.int .i64 (v : Int), ua] 24 (0, 0))
  b : W.heap[s + 1]? = some (.cells #[.int .i64 (m : Int), ub] 24 (0, 0))
  r : W.heap[s + 2]? = some (.cells #[.int .i64 0, .slice none 0 0] 24 (0, 0))
  x : ∃ x, W.heap[s + 3]? = some (.cells #[x, .int .i64 (m : Int)] 76 (0, 0))
theorem Bx5.kp {s v m : Nat} {ua ub : Value} {W W' : World} {L : List (List Nat)} (h : Bx5 s v m ua ub W) (k : Kp (s + 4) (s + 3) W W') (hL : RowB W' (s + 4) (s + 3) m L) : Bx5 s v m ua ub W' := by
  obtain ⟨x, h1, _⟩ := hL
  exact ⟨(k.at' s (by omega) (by omega)).trans h.a, (k.at' (s + 1) (by omega) (by omega)).trans h.b, (k.at' (s + 2) (by omega) (by omega)).trans h.r, x, h1⟩
theorem Bx5.cells {s v m : Nat} {ua ub : Value} {W : World} (h : Bx5 s v m ua ub W) : (W.cell? ⟨s, 0, none⟩ = some (.int .i64 (v : Int)) ∧ W.cell? ⟨s, 1, none⟩ = some ua) ∧ (W.cell? ⟨s + 1, 0, none⟩ = some (.int .i64 (m : Int)) ∧ W.cell? ⟨s + 1, 1, none⟩ = some ub) :=
  ⟨⟨by rw [cell_of_row _ _ _ _ _ _ h.a]; rfl, by rw [cell_of_row _ _ _ _ _ _ h.a]; rfl⟩, by rw [cell_of_row _ _ _ _ _ _ h.b]; rfl, by rw [cell_of_row _ _ _ _ _ _ h.b]; rfl⟩
def W5 (w : World) (v m : Nat) (ua ub : Value) : World := (((w.alloc (.cells #[.int .i64 (v : Int), ua] 24)).alloc (.cells #[.int .i64 (m : Int), ub] 24)).alloc (.cells #[.int .i64 0, .slice none 0 0] 24)).alloc (.cells #[.slice none 0 0, .int .i64 (m : Int)] 76)
theorem W5_size (w : World) (v m : Nat) (ua ub : Value) : (W5 w v m ua ub).heap.size = w.heap.size + 4 := by simp [W5]
theorem W5_bx (w : World) (v m : Nat) (ua ub : Value) : Bx5 w.heap.size v m ua ub (W5 w v m ua ub) ∧ RowB (W5 w v m ua ub) (w.heap.size + 4) (w.heap.size + 3) m [] := by
  have e1 := heap_alloc_new w (.cells #[.int .i64 (v : Int), ua] 24)
  have e2 := heap_alloc_new (w.alloc (.cells #[.int .i64 (v : Int), ua] 24)) (.cells #[.int .i64 (m : Int), ub] 24)
  have e3 := heap_alloc_new ((w.alloc (.cells #[.int .i64 (v : Int), ua] 24)).alloc (.cells #[.int .i64 (m : Int), ub] 24)) (.cells #[.int .i64 0, .slice none 0 0] 24)
  have e4 := heap_alloc_new (((w.alloc (.cells #[.int .i64 (v : Int), ua] 24)).alloc (.cells #[.int .i64 (m : Int), ub] 24)).alloc (.cells #[.int .i64 0, .slice none 0 0] 24)) (.cells #[.slice none 0 0, .int .i64 (m : Int)] 76)
  rw [show (w.alloc (.cells #[.int .i64 (v : Int), ua] 24)).heap.size = w.heap.size + 1 by simp] at e2
  rw [show ((w.alloc (.cells #[.int .i64 (v : Int), ua] 24)).alloc (.cells #[.int .i64 (m : Int), ub] 24)).heap.size = w.heap.size + 2 by simp] at e3
  rw [show (((w.alloc (.cells #[.int .i64 (v : Int), ua] 24)).alloc (.cells #[.int .i64 (m : Int), ub] 24)).alloc (.cells #[.int .i64 0, .slice none 0 0] 24)).heap.size = w.heap.size + 3 by simp] at e4
  have k := fun (W : World) (o : Obj) (b : Nat) (hb : b < W.heap.size) => (balloc W o).block b hb
  exact ⟨⟨(k _ _ _ (by simp <;> omega)).trans ((k _ _ _ (by simp <;> omega)).trans ((k _ _ _ (by simp)).trans e1)), (k _ _ _ (by simp <;> omega)).trans ((k _ _ _ (by simp)).trans e2), (k _ _ _ (by simp)).trans e3, _, e4⟩, .slice none 0 0, e4, OR.nil _ _, by omega, by rw [W5_size]; exact Nat.le_refl _⟩
theorem W5_below (w : World) (v m : Nat) (ua ub : Value) : Below w.heap.size w (W5 w v m ua ub) := Below.next (Below.next (Below.next (balloc _ _) (balloc _ _)) (balloc _ _)) (balloc _ _)
def p1i (m x : Nat) (C : List (List Nat)) : List (List Nat) := C.map fun c => s3 [x * m + c.getD 0 0, x * m + c.getD 1 0, x * m + c.getD 2 0]
def p1 (m : Nat) (C : List (List Nat)) (x : Nat) : List (List Nat) := (List.range x).flatMap fun x => p1i m x C
def p2y (m : Nat) (a : List Nat) (y : Nat) : List (List Nat) := (List.range y).map fun y => s3 [a.getD 0 0 * m + y, a.getD 1 0 * m + y, a.getD 2 0 * m + y]
def p2c (m : Nat) (a : List Nat) (C : List (List Nat)) : List (List Nat) := C.flatMap fun c => sxI m (fun j => a.getD j 0) (fun j => c.getD j 0) 3
def p2 (m : Nat) (C A : List (List Nat)) : List (List Nat) := A.flatMap fun a => p2y m a m ++ p2c m a C
def prP (v m : Nat) (A C : List (List Nat)) : List (List Nat) := p1 m C v ++ p2 m C A
theorem p1i_succ {m x i : Nat} {C : List (List Nat)} {c : List Nat} (h : C[i]? = some c) : p1i m x (C.take (i + 1)) = p1i m x (C.take i) ++ [s3 [x * m + c.getD 0 0, x * m + c.getD 1 0, x * m + c.getD 2 0]] := by unfold p1i; rw [List.take_add_one, h, List.map_append]; rfl
theorem p1_succ (m : Nat) (C : List (List Nat)) (x : Nat) : p1 m C (x + 1) = p1 m C x ++ p1i m x C := by unfold p1; rw [List.range_succ, List.flatMap_append]; simp
theorem p2y_succ (m : Nat) (a : List Nat) (y : Nat) : p2y m a (y + 1) = p2y m a y ++ [s3 [a.getD 0 0 * m + y, a.getD 1 0 * m + y, a.getD 2 0 * m + y]] := by unfold p2y; rw [List.range_succ, List.map_append]; rfl
theorem p2c_succ {m i : Nat} {a : List Nat} {C : List (List Nat)} {c : List Nat} (h : C[i]? = some c) : p2c m a (C.take (i + 1)) = p2c m a (C.take i) ++ sxI m (fun j => a.getD j 0) (fun j => c.getD j 0) 3 := by unfold p2c; rw [List.take_add_one, h, List.flatMap_append]; simp
theorem p2_succ {m i : Nat} {A C : List (List Nat)} {a : List Nat} (h : A[i]? = some a) : p2 m C (A.take (i + 1)) = (p2 m C (A.take i) ++ p2y m a m) ++ p2c m a C := by unfold p2; rw [List.take_add_one, h, List.flatMap_append]; simp
theorem p1i_len (m x : Nat) (C : List (List Nat)) : (p1i m x C).length = C.length := by simp [p1i]
theorem p1_len (m : Nat) (C : List (List Nat)) : ∀ x, (p1 m C x).length = x * C.length
  | 0 => by simp [p1]
  | x + 1 => by rw [p1_succ, List.length_append, p1_len m C x, p1i_len, Nat.add_mul, Nat.one_mul]
theorem p2y_len (m : Nat) (a : List Nat) (y : Nat) : (p2y m a y).length = y := by simp [p2y]
theorem p2c_len (m : Nat) (a : List Nat) : ∀ C : List (List Nat), (p2c m a C).length = 6 * C.length
  | [] => rfl
  | c :: C => by
    have := p2c_len m a C
    unfold p2c at this ⊢
    rw [List.flatMap_cons, List.length_append, this, sxI_len, List.length_cons]; omega
theorem p2_len (m : Nat) (C : List (List Nat)) : ∀ A : List (List Nat), (p2 m C A).length = A.length * (m + 6 * C.length)
  | [] => by simp [p2]
  | a :: A => by
    have := p2_len m C A
    unfold p2 at this ⊢
    rw [List.flatMap_cons, List.length_append, this, List.length_append, p2y_len, p2c_len, List.length_cons, Nat.add_mul, Nat.one_mul]; omega
theorem prP_three (v m : Nat) (A C : List (List Nat)) : ∀ b ∈ prP v m A C, b.length = 3 := fun b hb => by
  rcases List.mem_append.1 hb with h | h
  · unfold p1 at h
    obtain ⟨_, _, h⟩ := List.mem_flatMap.1 h
    unfold p1i at h
    obtain ⟨_, _, rfl⟩ := List.mem_map.1 h
    rw [s3_len]; rfl
  · unfold p2 at h
    obtain ⟨_, _, h⟩ := List.mem_flatMap.1 h
    rcases List.mem_append.1 h with h | h
    · unfold p2y at h
      obtain ⟨_, _, rfl⟩ := List.mem_map.1 h
      rw [s3_len]; rfl
    · unfold p2c at h
      obtain ⟨_, _, h⟩ := List.mem_flatMap.1 h
      unfold sxI at h
      obtain ⟨_, _, h⟩ := List.mem_flatMap.1 h
      simp only [List.mem_cons, List.not_mem_nil, or_false] at h
      rcases h with rfl | rfl
      · rw [s3_len]; rfl
      · rw [s3_len]; rfl
theorem R3.read {base gb s b o : Nat} {w wr : World} {R : Nat → Nat} (hB : Below s w wr) (hs : s ≤ gb) (h : ∀ W, Below s w W → ∀ j, j < 3 → W.cell? ⟨b, o + j, none⟩ = some (.int .i64 (R j : Int))) : R3 base gb wr b o (R 0) (R 1) (R 2) := fun W k _ => by
  have := h W (hB.trans (k.lo.mono hs))
  exact ⟨this 0 (by omega), this 1 (by omega), this 2 (by omega)⟩
/-- The rows of a system, each of three. -/
theorem rows3 {w : World} {a : Option Addr} {B : List (List Nat)} (h3 : ∀ b ∈ B, b.length = 3 ∧ ∀ x ∈ b, x ≤ 40) (hD : DRow w a B) (i : Nat) (hi : i < B.length) : ∃ b bb off bq oq uc, B[i]? = some b ∧ (∀ j, b.getD j 0 ≤ 99) ∧ a = some ⟨bb, off, none⟩ ∧ ∀ W, Below w.heap.size w W → W.cell? ⟨bb, off + i, none⟩ = some (.slice (some ⟨bq, oq, none⟩) 3 uc) ∧ ∀ j, j < 3 → W.cell? ⟨bq, oq + j, none⟩ = some (.int .i64 ((b.getD j 0 : Nat) : Int)) := by
  have hb := List.getElem?_eq_getElem hi
  obtain ⟨g3, g4⟩ := h3 _ (List.getElem_mem hi)
  obtain ⟨bb, off, ua, uc, rfl, hrow⟩ := hD i _ hb
  obtain ⟨r0, rs⟩ := hrow _ (Below.refl _ _)
  obtain ⟨bq, oq, rfl, _⟩ := row3 g3 rs
  refine ⟨_, bb, off, bq, oq, uc, hb, fun j => ?_, rfl, fun W h => ?_⟩
  · by_cases hj : j < B[i].length
    · have := g4 _ (getD_mem' hj); omega
    · have e0 : B[i].getD j 0 = 0 := by rw [List.getD_eq_getElem?_getD, List.getElem?_eq_none (by omega)]; rfl
      rw [e0]; omega
  · obtain ⟨r0, rs⟩ := hrow W h
    obtain ⟨_, _, e, hc⟩ := row3 g3 rs
    cases e
    rw [g3] at r0
    exact ⟨r0, hc⟩
set_option maxRecDepth 100000 in
set_option maxHeartbeats 16000000 in
theorem product_any (v m : Nat) (A C : List (List Nat)) (ua ub : Value) (w : World) (hv : v ≤ 33) (hm : m ≤ 33) (hvm : v * m ≤ 33) (hA2 : A.length ≤ 200) (hC2 : C.length ≤ 200) (hT1 : v * C.length ≤ 400) (hT2 : A.length * (m + 6 * C.length) ≤ 400) (hA3 : ∀ b ∈ A, b.length = 3 ∧ ∀ x ∈ b, x ≤ 40) (hC3 : ∀ b ∈ C, b.length = 3 ∧ ∀ x ∈ b, x ≤ 40) (hua : Rw w ua (toZ A)) (hub : Rw w ub (toZ C)) :
    Calls Try.prog 35 #[.agg #[.int .i64 (v : Int), ua], .agg #[.int .i64 (m : Int), ub]] w fun e w' => ∃ x Z, e = .returned (.agg #[.int .i64 ((v * m : Nat) : Int), x]) ∧ Srtd (prP v m A C) Z ∧ OR w' (w.heap.size + 4) x Z ∧ Below w.heap.size w w' := by
  obtain ⟨HBX, HRW⟩ := W5_bx w v m ua ub
  have HBE : Hid (Below w.heap.size w (W5 w v m ua ub)) := W5_below w v m ua ub
  obtain ⟨aa, ac, rfl, hDA⟩ := drow_of hua
  obtain ⟨ba, bc, rfl, hDC⟩ := drow_of hub
  have HAT : Hid (∀ i, i < A.length → _) := fun i hi => rows3 hA3 hDA i hi
  have HCT : Hid (∀ i, i < C.length → _) := fun i hi => rows3 hC3 hDC i hi
  obtain ⟨M, HM⟩ : ∃ M, Hid (prP v m A C = M) := ⟨_, rfl⟩
  have HM3 : Hid (∀ b ∈ M, b.length = 3) := by rw [← HM.out]; exact prP_three v m A C
  have HML : Hid (M.length ≤ 6000) := by show _ ≤ _; rw [← HM.out]; unfold prP; rw [List.length_append, p1_len, p2_len]; omega
  have HME : Hid (p1 m C v ++ p2 m C (A.take A.length) = M) := by show _ = _; rw [List.take_length]; exact HM.out
  rw [HM.out]
  have HP1S : Hid (∀ x, p1 m C (x + 1) = p1 m C x ++ p1i m x (C.take C.length)) := fun x => by rw [List.take_length]; exact p1_succ m C x
  have HP1L : Hid (∀ x, x ≤ v → (p1 m C x).length ≤ 400) := fun x hx => by rw [p1_len]; exact Nat.le_trans (Nat.mul_le_mul_right _ hx) hT1
  have HPIS : Hid (∀ (x i : Nat) (c : List Nat), C[i]? = some c → p1i m x (C.take (i + 1)) = p1i m x (C.take i) ++ [s3 [x * m + c.getD 0 0, x * m + c.getD 1 0, x * m + c.getD 2 0]]) := fun x i c h => p1i_succ h
  have HPIL : Hid (∀ x i, (p1i m x (C.take i)).length ≤ 200) := fun x i => by rw [p1i_len, List.length_take]; omega
  have HYS : Hid (∀ (a : List Nat) (y : Nat), p2y m a (y + 1) = p2y m a y ++ [s3 [a.getD 0 0 * m + y, a.getD 1 0 * m + y, a.getD 2 0 * m + y]]) := p2y_succ m
  have HYL : Hid (∀ (a : List Nat) (y : Nat), (p2y m a y).length = y) := p2y_len m
  have HCS : Hid (∀ (a : List Nat) (i : Nat) (c : List Nat), C[i]? = some c → p2c m a (C.take (i + 1)) = p2c m a (C.take i) ++ sxI m (fun j => a.getD j 0) (fun j => c.getD j 0) 3) := fun a i c h => p2c_succ h
  have HCL : Hid (∀ (a : List Nat) (i : Nat), (p2c m a (C.take i)).length ≤ 1200) := fun a i => by rw [p2c_len, List.length_take]; omega
  have H2S : Hid (∀ (i : Nat) (a : List Nat), A[i]? = some a → p2 m C (A.take (i + 1)) = (p2 m C (A.take i) ++ p2y m a m) ++ p2c m a (C.take C.length)) := fun i a h => by rw [List.take_length]; exact p2_succ h
  have H2L : Hid (∀ i, (p2 m C (A.take i)).length ≤ 400) := fun i => by rw [p2_len, List.length_take]; exact Nat.le_trans (Nat.mul_le_mul_right _ (Nat.min_le_right _ _)) hT2
  obtain ⟨w5, Hw5⟩ : ∃ w5, Hid (w5 = W5 w v m (.slice aa A.length ac) (.slice ba C.length bc)) := ⟨_, rfl⟩
  rw [← Hw5.out] at HBX HRW HBE
  have HX : Hid (Bx5 w.heap.size v m (.slice aa A.length ac) (.slice ba C.length bc) w5) := HBX
  have HR : Hid (RowB w5 (w.heap.size + 4) (w.heap.size + 3) m (p1 m C 0)) := HRW
  have HPA : Hid (∀ (W : World) (L : List (List Nat)) (r0 r1 r2 p0 p1 p2 rb ro rc pb po pc : Nat), RowB W (w.heap.size + 4) (w.heap.size + 3) m L → L.length ≤ 6000 → (r0 ≤ 99 ∧ r1 ≤ 99 ∧ r2 ≤ 99) → (p0 ≤ 99 ∧ p1 ≤ 99 ∧ p2 ≤ 99) → R3 (w.heap.size + 4) (w.heap.size + 3) W rb ro r0 r1 r2 → R3 (w.heap.size + 4) (w.heap.size + 3) W pb po p0 p1 p2 → Calls Try.prog 57 #[.pointer (some ⟨w.heap.size + 1 + 1 + 1, 0, none⟩), .slice (some ⟨rb, ro, none⟩) 3 rc, .slice (some ⟨pb, po, none⟩) 3 pc] W fun e w' => e = .returned (.tuple #[]) ∧ RowB w' (w.heap.size + 4) (w.heap.size + 3) m (L ++ [s3 [r0 * m + p0, r1 * m + p1, r2 * m + p2]]) ∧ Kp (w.heap.size + 4) (w.heap.size + 3) W w' ∧ KpI W w') := fun W L r0 r1 r2 p0 p1 p2 rb ro rc pb po pc h1 h2 h3 h4 h5 h6 => pair_any r0 r1 r2 p0 p1 p2 (w.heap.size + 4) (w.heap.size + 3) m rb ro rc pb po pc L W h1 h2 (by omega) h3 h4 h5 h6
  have HPP : Hid (∀ (W : World) (L : List (List Nat)) (R P : Nat → Nat) (rb ro rc pb po pc : Nat), RowB W (w.heap.size + 4) (w.heap.size + 3) m L → L.length ≤ 5000 → (∀ j, R j ≤ 99) → (∀ j, P j ≤ 99) → R3 (w.heap.size + 4) (w.heap.size + 3) W rb ro (R 0) (R 1) (R 2) → R3 (w.heap.size + 4) (w.heap.size + 3) W pb po (P 0) (P 1) (P 2) → Calls Try.prog 58 #[.pointer (some ⟨w.heap.size + 1 + 1 + 1, 0, none⟩), .slice (some ⟨rb, ro, none⟩) 3 rc, .slice (some ⟨pb, po, none⟩) 3 pc] W fun e w' => e = .returned (.tuple #[]) ∧ RowB w' (w.heap.size + 4) (w.heap.size + 3) m (L ++ sxI m R P 3) ∧ Kp (w.heap.size + 4) (w.heap.size + 3) W w' ∧ KpI W w') := fun W L R P rb ro rc pb po pc h1 h2 h3 h4 h5 h6 => pairAll_any R P (w.heap.size + 4) (w.heap.size + 3) m rb ro rc pb po pc L W h1 h2 (by omega) h3 h4 h5 h6
  have hvm0 : (v : Int) * (m : Int) = ((v * m : Nat) : Int) := by simp
  have HTE : Hid (∀ W : World, RowB W (w.heap.size + 4) (w.heap.size + 3) m M → Calls Try.prog 43 #[.pointer (some ⟨w.heap.size + 1 + 1 + 1, 0, none⟩), .int .i64 ((v * m : Nat) : Int)] W fun e w' => ∃ x Z, e = .returned (.agg #[.int .i64 ((v * m : Nat) : Int), x]) ∧ Srtd M Z ∧ OR w' (w.heap.size + 4) x Z ∧ Below (w.heap.size + 4) W w') := fun W hW => tell_any (v * m) _ _ _ _ M W hW HM3.out HML.out
  generalize hvq : v * m = vm at *
  generalize hAn : A.length = na at *
  generalize hCn : C.length = nc at *
  obtain ⟨⟨x0, x1⟩, x2, x3⟩ := HBX.cells
  rw [Hw5.out] at x0 x1 x2 x3
  clear HBX HRW HM3 HML HM hua hub hDA hDC hA3 hC3 hvq hT1 hT2
  go_enter Try.func35, Try.ntmps35
  go_wp2
  change Code.wp _ _ _ _ (W5 w v m (.slice aa na ac) (.slice ba nc bc))
  rw [← Hw5.out]
  clear Hw5 x0 x1 x2 x3
  go_loopw [20] (fun xv wr => ∃ (x : Nat), xv = .int .i64 (x : Int) ∧ x ≤ v ∧ RowB wr (w.heap.size + 4) (w.heap.size + 3) m (p1 m C x) ∧ Bx5 w.heap.size v m (.slice aa na ac) (.slice ba nc bc) wr ∧ Below w.heap.size w wr) (fun xv _ => (v - intOf xv).toNat)
  case atStart => exact ⟨0, rfl, by omega, HR.out, HX.out, HBE.out⟩
  case round =>
    clear HR HX HBE
    obtain ⟨x, rfl, hx, hR, hX, hB⟩ := hrel
    obtain ⟨⟨y0, y1⟩, y2, y3⟩ := hX.cells
    by_cases hlt : x < v
    · have hdi : decide ((x : Int) < (v : Int)) = true := by simp; omega
      have hii : (x : Int) < (v : Int) := by omega
      have hps := HP1S.out x
      have hpl := HP1L.out x hx
      obtain ⟨Lx, HLx⟩ : ∃ Lx, Hid (p1 m C x = Lx) := ⟨_, rfl⟩
      rw [HLx.out] at hR hps hpl
      have HNX : Hid (p1 m C (x + 1) = Lx ++ p1i m x (C.take nc)) := hps
      have HLXL : Hid (Lx.length ≤ 400) := hpl
      have HR0 : Hid (RowB wr (w.heap.size + 4) (w.heap.size + 3) m (Lx ++ p1i m x (C.take 0))) := by show Lst _ _ _ _ _ _; simpa [p1i] using hR
      have HX0 : Hid (Bx5 w.heap.size v m (.slice aa na ac) (.slice ba nc bc) wr) := hX
      have HB0 : Hid (Below w.heap.size w wr) := hB
      clear hR hX hB hps hpl
      go_wp2
      go_loopw [26] (fun iv wr => ∃ (i : Nat), iv = .int .i64 (i : Int) ∧ i ≤ nc ∧ RowB wr (w.heap.size + 4) (w.heap.size + 3) m (Lx ++ p1i m x (C.take i)) ∧ Bx5 w.heap.size v m (.slice aa na ac) (.slice ba nc bc) wr ∧ Below w.heap.size w wr) (fun iv _ => (nc - intOf iv).toNat)
      case atStart => exact ⟨0, rfl, by omega, HR0.out, HX0.out, HB0.out⟩
      case round =>
        clear HR0 HX0 HB0 y0 y1 y2 y3
        obtain ⟨i, rfl, hi, hR, hX, hB⟩ := hrel
        by_cases hli : i < nc
        · have hdj : decide ((i : Int) < (nc : Int)) = true := by simp; omega
          have hji : (i : Int) < (nc : Int) := by omega
          obtain ⟨c, bb, off, bq, oq, uc, hci, hc99, rfl, hrow⟩ := HCT.out i hli
          have r0 := (hrow wr hB).1
          have HRO : Hid (∀ W, Below w.heap.size w W → ∀ j, j < 3 → W.cell? ⟨bq, oq + j, none⟩ = some (.int .i64 ((c.getD j 0 : Nat) : Int))) := fun W h => (hrow W h).2
          have his := HPIS.out x i c hci
          have hil := HPIL.out x i
          have hxl := HLXL.out
          have HX1 : Hid (Bx5 w.heap.size v m (.slice aa na ac) (.slice (some ⟨bb, off, none⟩) nc bc) wr) := hX
          have HNI : Hid (Lx ++ p1i m x (C.take (i + 1)) = (Lx ++ p1i m x (C.take i)) ++ [s3 [x * m + c.getD 0 0, x * m + c.getD 1 0, x * m + c.getD 2 0]]) := by show _ = _; rw [his, List.append_assoc]
          have HC : Hid (Calls Try.prog 57 #[.pointer (some ⟨w.heap.size + 1 + 1 + 1, 0, none⟩), .slice (some ⟨wr.heap.size, 0, none⟩) 3 3, .slice (some ⟨bq, oq, none⟩) 3 uc] (wr.alloc (.cells #[.int .i64 (x : Int), .int .i64 (x : Int), .int .i64 (x : Int)] 3)) fun e w' => e = .returned (.tuple #[]) ∧ RowB w' (w.heap.size + 4) (w.heap.size + 3) m ((Lx ++ p1i m x (C.take i)) ++ [s3 [x * m + c.getD 0 0, x * m + c.getD 1 0, x * m + c.getD 2 0]]) ∧ Kp (w.heap.size + 4) (w.heap.size + 3) (wr.alloc (.cells #[.int .i64 (x : Int), .int .i64 (x : Int), .int .i64 (x : Int)] 3)) w' ∧ KpI (wr.alloc (.cells #[.int .i64 (x : Int), .int .i64 (x : Int), .int .i64 (x : Int)] 3)) w') :=
            HPA.out _ _ x x x _ _ _ _ _ _ _ _ _ (hR.alloc _) (by rw [List.length_append]; omega) ⟨by omega, by omega, by omega⟩ ⟨hc99 0, hc99 1, hc99 2⟩ (R3.new _ _ _ _ _ _) (R3.read (R := fun j => c.getD j 0) (hB.trans ((balloc wr _).mono hB.size)) (by omega) HRO.out)
          rw [← HNI.out] at HC
          have HKA : Hid (Kp (w.heap.size + 4) (w.heap.size + 3) wr (wr.alloc (.cells #[.int .i64 (x : Int), .int .i64 (x : Int), .int .i64 (x : Int)] 3))) := Kp.alloc _ hR.le hR.le2
          clear his hil hxl hrow hR hX HNI hc99 hci
          go_wp2_with (go_at_call 57; refine HC.out.mono ?_; rintro e v1 ⟨rfl, hL1, hK1, hI1⟩; clear HC)
          have hk := HKA.out.trans hK1
          have hX1 := HX1.out.kp hk hL1
          have hB1 : Below w.heap.size w v1 := hB.trans (hk.lo.mono (by omega))
          clear hK1 hI1 hk hB HKA
          go_wp2
          go_roundw
          case rel => exact ⟨i + 1, by go_num, by omega, hL1, hX1, hB1⟩
          case measure => simp [intOf]; omega
        · have hdj : decide ((i : Int) < (nc : Int)) = false := by simp; omega
          have hin : nc = i := by omega
          subst hin
          rw [← HNX.out] at hR
          go_wp2
          go_roundw
          case rel => exact ⟨x + 1, by go_num, by omega, hR, hX, hB⟩
          case measure => simp [intOf]; omega
    · have hdi : decide ((x : Int) < (v : Int)) = false := by simp; omega
      have hxv : v = x := by omega
      subst hxv
      have hpl := HP1L.out v (Nat.le_refl _)
      obtain ⟨PP, HPPL⟩ : ∃ PP, Hid (p1 m C v = PP) := ⟨_, rfl⟩
      rw [HPPL.out] at hR HME hpl
      have HPL : Hid (PP.length ≤ 400) := hpl
      have HR0 : Hid (RowB wr (w.heap.size + 4) (w.heap.size + 3) m (PP ++ p2 m C (A.take 0))) := by show Lst _ _ _ _ _ _; simpa [p2] using hR
      have HX0 : Hid (Bx5 w.heap.size v m (.slice aa na ac) (.slice ba nc bc) wr) := hX
      have HB0 : Hid (Below w.heap.size w wr) := hB
      clear hR hX hB hpl HP1S HP1L HPIS HPIL
      go_wp2
      go_loopw [42] (fun iv wr => ∃ (i : Nat), iv = .int .i64 (i : Int) ∧ i ≤ na ∧ RowB wr (w.heap.size + 4) (w.heap.size + 3) m (PP ++ p2 m C (A.take i)) ∧ Bx5 w.heap.size v m (.slice aa na ac) (.slice ba nc bc) wr ∧ Below w.heap.size w wr) (fun iv _ => (na - intOf iv).toNat)
      case atStart => exact ⟨0, rfl, by omega, HR0.out, HX0.out, HB0.out⟩
      case round =>
        clear HR0 HX0 HB0 y0 y1 y2 y3
        obtain ⟨i, rfl, hi, hR, hX, hB⟩ := hrel
        obtain ⟨⟨y0, y1⟩, y2, y3⟩ := hX.cells
        by_cases hli : i < na
        · have hdj : decide ((i : Int) < (na : Int)) = true := by simp; omega
          have hji : (i : Int) < (na : Int) := by omega
          obtain ⟨a, bb, off, aq, ao, au, hai, ha99, rfl, hrow⟩ := HAT.out i hli
          have r0 := (hrow wr hB).1
          have HRA : Hid (∀ W, Below w.heap.size w W → ∀ j, j < 3 → W.cell? ⟨aq, ao + j, none⟩ = some (.int .i64 ((a.getD j 0 : Nat) : Int))) := fun W h => (hrow W h).2
          have HA99 : Hid (∀ j, a.getD j 0 ≤ 99) := ha99
          have h2s := H2S.out i a hai
          have h2l := H2L.out i
          obtain ⟨Li, HLi⟩ : ∃ Li, Hid (PP ++ p2 m C (A.take i) = Li) := ⟨_, rfl⟩
          have HNX : Hid (PP ++ p2 m C (A.take (i + 1)) = (Li ++ p2y m a m) ++ p2c m a (C.take nc)) := by show _ = _; rw [h2s, ← HLi.out]; simp only [List.append_assoc]
          have HLIL : Hid (Li.length ≤ 800) := by show _ ≤ _; rw [← HLi.out, List.length_append]; have := HPL.out; omega
          rw [HLi.out] at hR
          have HR0 : Hid (RowB wr (w.heap.size + 4) (w.heap.size + 3) m (Li ++ p2y m a 0)) := by show Lst _ _ _ _ _ _; simpa [p2y] using hR
          have HX0 : Hid (Bx5 w.heap.size v m (.slice (some ⟨bb, off, none⟩) na ac) (.slice ba nc bc) wr) := hX
          have HB0 : Hid (Below w.heap.size w wr) := hB
          clear hR hX hB h2s h2l hrow ha99 hai HLi
          go_wp2
          go_loopw [48] (fun yv wr => ∃ (y : Nat), yv = .int .i64 (y : Int) ∧ y ≤ m ∧ RowB wr (w.heap.size + 4) (w.heap.size + 3) m (Li ++ p2y m a y) ∧ Bx5 w.heap.size v m (.slice (some ⟨bb, off, none⟩) na ac) (.slice ba nc bc) wr ∧ Below w.heap.size w wr) (fun yv _ => (m - intOf yv).toNat)
          case atStart => exact ⟨0, rfl, by omega, HR0.out, HX0.out, HB0.out⟩
          case round =>
            clear HR0 HX0 HB0 y0 y1 y2 y3 r0
            obtain ⟨y, rfl, hy, hR, hX, hB⟩ := hrel
            obtain ⟨⟨y0, y1⟩, y2, y3⟩ := hX.cells
            by_cases hly : y < m
            · have hdy : decide ((y : Int) < (m : Int)) = true := by simp; omega
              have hyi : (y : Int) < (m : Int) := by omega
              have his := HYS.out a y
              have hil := HYL.out a y
              have hxl := HLIL.out
              have hA := HA99.out
              have HX1 : Hid (Bx5 w.heap.size v m (.slice (some ⟨bb, off, none⟩) na ac) (.slice ba nc bc) wr) := hX
              have HNI : Hid (Li ++ p2y m a (y + 1) = (Li ++ p2y m a y) ++ [s3 [a.getD 0 0 * m + y, a.getD 1 0 * m + y, a.getD 2 0 * m + y]]) := by show _ = _; rw [his, List.append_assoc]
              have HC : Hid (Calls Try.prog 57 #[.pointer (some ⟨w.heap.size + 1 + 1 + 1, 0, none⟩), .slice (some ⟨aq, ao, none⟩) 3 au, .slice (some ⟨wr.heap.size, 0, none⟩) 3 3] (wr.alloc (.cells #[.int .i64 (y : Int), .int .i64 (y : Int), .int .i64 (y : Int)] 3)) fun e w' => e = .returned (.tuple #[]) ∧ RowB w' (w.heap.size + 4) (w.heap.size + 3) m ((Li ++ p2y m a y) ++ [s3 [a.getD 0 0 * m + y, a.getD 1 0 * m + y, a.getD 2 0 * m + y]]) ∧ Kp (w.heap.size + 4) (w.heap.size + 3) (wr.alloc (.cells #[.int .i64 (y : Int), .int .i64 (y : Int), .int .i64 (y : Int)] 3)) w' ∧ KpI (wr.alloc (.cells #[.int .i64 (y : Int), .int .i64 (y : Int), .int .i64 (y : Int)] 3)) w') :=
                HPA.out _ _ _ _ _ y y y _ _ _ _ _ _ (hR.alloc _) (by rw [List.length_append]; omega) ⟨hA 0, hA 1, hA 2⟩ ⟨by omega, by omega, by omega⟩ (R3.read (R := fun j => a.getD j 0) (hB.trans ((balloc wr _).mono hB.size)) (by omega) HRA.out) (R3.new _ _ _ _ _ _)
              rw [← HNI.out] at HC
              have HKA : Hid (Kp (w.heap.size + 4) (w.heap.size + 3) wr (wr.alloc (.cells #[.int .i64 (y : Int), .int .i64 (y : Int), .int .i64 (y : Int)] 3))) := Kp.alloc _ hR.le hR.le2
              clear his hil hxl hR hX HNI hA
              go_wp2_with (go_at_call 57; refine HC.out.mono ?_; rintro e v1 ⟨rfl, hL1, hK1, hI1⟩; clear HC)
              have hk := HKA.out.trans hK1
              have hX1 := HX1.out.kp hk hL1
              have hB1 : Below w.heap.size w v1 := hB.trans (hk.lo.mono (by omega))
              clear hK1 hI1 hk hB HKA
              go_wp2
              go_roundw
              case rel => exact ⟨y + 1, by go_num, by omega, hL1, hX1, hB1⟩
              case measure => simp [intOf]; omega
            · have hdy : decide ((y : Int) < (m : Int)) = false := by simp; omega
              have hym : m = y := by omega
              subst hym
              obtain ⟨Ly, HLy⟩ : ∃ Ly, Hid (Li ++ p2y m a m = Ly) := ⟨_, rfl⟩
              have HLYL : Hid (Ly.length ≤ 900) := by show _ ≤ _; rw [← HLy.out, List.length_append, HYL.out]; have := HLIL.out; omega
              rw [HLy.out] at hR HNX
              have HR0 : Hid (RowB wr (w.heap.size + 4) (w.heap.size + 3) m (Ly ++ p2c m a (C.take 0))) := by show Lst _ _ _ _ _ _; simpa [p2c] using hR
              have HX0 : Hid (Bx5 w.heap.size v m (.slice (some ⟨bb, off, none⟩) na ac) (.slice ba nc bc) wr) := hX
              have HB0 : Hid (Below w.heap.size w wr) := hB
              clear hR hX hB HLy
              go_wp2
              go_loopw [62] (fun kv wr => ∃ (k : Nat), kv = .int .i64 (k : Int) ∧ k ≤ nc ∧ RowB wr (w.heap.size + 4) (w.heap.size + 3) m (Ly ++ p2c m a (C.take k)) ∧ Bx5 w.heap.size v m (.slice (some ⟨bb, off, none⟩) na ac) (.slice ba nc bc) wr ∧ Below w.heap.size w wr) (fun kv _ => (nc - intOf kv).toNat)
              case atStart => exact ⟨0, rfl, by omega, HR0.out, HX0.out, HB0.out⟩
              case round =>
                clear HR0 HX0 HB0 y0 y1 y2 y3
                obtain ⟨k, rfl, hk, hR, hX, hB⟩ := hrel
                by_cases hlk : k < nc
                · have hdk : decide ((k : Int) < (nc : Int)) = true := by simp; omega
                  have hki : (k : Int) < (nc : Int) := by omega
                  obtain ⟨c, cb, coff, bq, oq, uc, hci, hc99, rfl, hrow⟩ := HCT.out k hlk
                  have r0 := (hrow wr hB).1
                  have HRO : Hid (∀ W, Below w.heap.size w W → ∀ j, j < 3 → W.cell? ⟨bq, oq + j, none⟩ = some (.int .i64 ((c.getD j 0 : Nat) : Int))) := fun W h => (hrow W h).2
                  have his := HCS.out a k c hci
                  have hil := HCL.out a k
                  have hxl := HLYL.out
                  have HX1 : Hid (Bx5 w.heap.size v m (.slice (some ⟨bb, off, none⟩) na ac) (.slice (some ⟨cb, coff, none⟩) nc bc) wr) := hX
                  have HNI : Hid (Ly ++ p2c m a (C.take (k + 1)) = (Ly ++ p2c m a (C.take k)) ++ sxI m (fun j => a.getD j 0) (fun j => c.getD j 0) 3) := by show _ = _; rw [his, List.append_assoc]
                  have HC : Hid (Calls Try.prog 58 #[.pointer (some ⟨w.heap.size + 1 + 1 + 1, 0, none⟩), .slice (some ⟨aq, ao, none⟩) 3 au, .slice (some ⟨bq, oq, none⟩) 3 uc] wr fun e w' => e = .returned (.tuple #[]) ∧ RowB w' (w.heap.size + 4) (w.heap.size + 3) m ((Ly ++ p2c m a (C.take k)) ++ sxI m (fun j => a.getD j 0) (fun j => c.getD j 0) 3) ∧ Kp (w.heap.size + 4) (w.heap.size + 3) wr w' ∧ KpI wr w') :=
                    HPP.out wr _ (fun j => a.getD j 0) (fun j => c.getD j 0) _ _ _ _ _ _ hR (by rw [List.length_append]; omega) HA99.out hc99 (R3.read (R := fun j => a.getD j 0) hB (by omega) HRA.out) (R3.read (R := fun j => c.getD j 0) hB (by omega) HRO.out)
                  rw [← HNI.out] at HC
                  clear his hil hxl hrow hR hX HNI hc99 hci
                  go_wp2_with (go_at_call 58; refine HC.out.mono ?_; rintro e v1 ⟨rfl, hL1, hK1, hI1⟩; clear HC)
                  have hX1 := HX1.out.kp hK1 hL1
                  have hB1 : Below w.heap.size w v1 := hB.trans (hK1.lo.mono (by omega))
                  clear hK1 hI1 hB
                  go_wp2
                  go_roundw
                  case rel => exact ⟨k + 1, by go_num, by omega, hL1, hX1, hB1⟩
                  case measure => simp [intOf]; omega
                · have hdk : decide ((k : Int) < (nc : Int)) = false := by simp; omega
                  have hkn : nc = k := by omega
                  subst hkn
                  rw [← HNX.out] at hR
                  go_wp2
                  go_roundw
                  case rel => exact ⟨i + 1, by go_num, by omega, hR, hX, hB⟩
                  case measure => simp [intOf]; omega
        · have hdj : decide ((i : Int) < (na : Int)) = false := by simp; omega
          have hin : na = i := by omega
          subst hin
          rw [HME.out] at hR
          have HX1 : Hid (Bx5 w.heap.size v m (.slice aa na ac) (.slice ba nc bc) wr) := hX
          have HR5 : Hid (RowB wr (w.heap.size + 4) (w.heap.size + 3) m M) := hR
          have HS : Hid (∀ W' : World, (∀ k, k = w.heap.size ∨ k = w.heap.size + 1 → W'.heap[k]? = wr.heap[k]?) → (W'.cell? ⟨w.heap.size, 0, none⟩ = some (.int .i64 (v : Int)) ∧ W'.cell? ⟨w.heap.size + 1, 0, none⟩ = some (.int .i64 (m : Int)))) := fun W' k => ⟨(cell_same (k _ (.inl rfl))).trans y0, (cell_same (k _ (.inr rfl))).trans y2⟩
          have hwv : IntKind.i64.wrap (vm : Int) = (vm : Int) := by simp [IntKind.wrap, IntKind.bits, IntKind.signed]; omega
          clear hR hX y0 y1 y2 y3 HPA HPP HYS HYL HCS HCL H2S H2L
          go_wp2
          refine wp_region_noPanic ?_
          refine wp_region_held_drew (S := fun w' => w'.cell? ⟨w.heap.size, 0, none⟩ = some (.int .i64 (v : Int)) ∧ w'.cell? ⟨w.heap.size + 1, 0, none⟩ = some (.int .i64 (m : Int))) (by kernel_rfl) (HS.out _ (fun _ _ => rfl)) (fun hSx => ?_)
          refine wpAnyH_take (i := 0) (v := .pointer (some ⟨w.heap.size + 1 + 1 + 1, 0, none⟩)) rfl (by kernel_rfl) (by kernel_rfl) (by kernel_rfl) (fun _ _ _ h => h) (Or.inl ⟨by rfl, fun w' hSw => by (try dsimp only at hSw); obtain ⟨hs0, hs1⟩ := hSw; go_simp⟩) hSx ?_
          try simp only [Act.put, List.setIfInBounds_toArray]
          refine wpAnyH_take (i := 1) (v := .pointer (some ⟨w.heap.size + 1 + 1 + 1, 0, none⟩)) rfl (by kernel_rfl) (by kernel_rfl) (by kernel_rfl) (fun _ _ _ h => h) (Or.inl ⟨by rfl, fun w' hSw => by (try dsimp only at hSw); obtain ⟨hs0, hs1⟩ := hSw; go_simp⟩) hSx ?_
          try simp only [Act.put]
          refine wpAnyH_take (i := 2) (v := .pointer (some ⟨w.heap.size + 1 + 1 + 1, 0, none⟩)) rfl (by kernel_rfl) (by kernel_rfl) (by kernel_rfl) (fun _ _ _ h => h) (Or.inl ⟨by rfl, fun w' hSw => by (try dsimp only at hSw); obtain ⟨hs0, hs1⟩ := hSw; go_simp⟩) hSx ?_
          try simp only [Act.put]
          refine wpAnyH_take (i := 3) (v := .pointer (some ⟨w.heap.size, 0, none⟩)) rfl (by kernel_rfl) (by kernel_rfl) (by kernel_rfl) (fun _ _ _ h => h) (Or.inl ⟨by rfl, fun w' hSw => by (try dsimp only at hSw); obtain ⟨hs0, hs1⟩ := hSw; go_simp⟩) hSx ?_
          try simp only [Act.put]
          refine wpAnyH_take (i := 4) (v := .int .i64 (v : Int)) rfl (by kernel_rfl) (by kernel_rfl) (by kernel_rfl) (fun _ _ _ h => h) (Or.inl ⟨by rfl, fun w' hSw => by (try dsimp only at hSw); obtain ⟨hs0, hs1⟩ := hSw; go_simp⟩) hSx ?_
          try simp only [Act.put]
          refine wpAnyH_take (i := 5) (v := .pointer (some ⟨w.heap.size + 1, 0, none⟩)) rfl (by kernel_rfl) (by kernel_rfl) (by kernel_rfl) (fun _ _ _ h => h) (Or.inl ⟨by rfl, fun w' hSw => by (try dsimp only at hSw); obtain ⟨hs0, hs1⟩ := hSw; go_simp⟩) hSx ?_
          try simp only [Act.put]
          refine wpAnyH_take (i := 6) (v := .int .i64 (m : Int)) rfl (by kernel_rfl) (by kernel_rfl) (by kernel_rfl) (fun _ _ _ h => h) (Or.inl ⟨by rfl, fun w' hSw => by (try dsimp only at hSw); obtain ⟨hs0, hs1⟩ := hSw; go_simp⟩) hSx ?_
          try simp only [Act.put]
          refine wpAnyH_take (i := 7) (v := .int .i64 (vm : Int)) rfl (by kernel_rfl) (by kernel_rfl) (by kernel_rfl) (fun _ _ _ h => h) (Or.inl ⟨by rfl, fun w' hSw => by (try dsimp only at hSw); obtain ⟨hs0, hs1⟩ := hSw; go_simp⟩) hSx ?_
          try simp only [Act.put]
          refine wpAnyH_ready (rs := [8]) (by kernel_rfl) (by simp) ?_
          refine AllReadyH.cons rfl (fun J hJ => ?_) AllReadyH.nil
          go_simp
          refine (HTE.out wr.drew HR5.out.drew).mono ?_
          rintro e w6 ⟨x6, Z, rfl, hZ, hO, hb6⟩
          have hk6 : Kp (w.heap.size + 4) (w.heap.size + 3) wr w6 := (Kp.drew _ _ wr).trans (Kp.of hb6 (Nat.le_refl _) (by omega))
          have hr : w6.heap[w.heap.size + 2]? = _ := (hk6.at' _ (by omega) (by omega)).trans HX1.out.r
          obtain ⟨xa, xc, rfl⟩ := hO.cap
          have hZl := hZ.len
          have HO : Hid (OR w6 (w.heap.size + 4) (.slice xa Z.length xc) Z) := hO
          clear hO
          rw [hZl] at HO ⊢
          clear hZl
          have t0 : w6.cell? ⟨w.heap.size + 1 + 1, 0, none⟩ = some (.int .i64 0) := by rw [cell_of_row _ _ _ _ _ _ hr]; rfl
          have t1 : w6.cell? ⟨w.heap.size + 1 + 1, 1, none⟩ = some (.slice none 0 0) := by rw [cell_of_row _ _ _ _ _ _ hr]; rfl
          have f0 : w6.frozen? ⟨w.heap.size + 1 + 1, 0, none⟩ = false := frozen_of_row w6 _ 0 _ _ hr
          have f1 : w6.frozen? ⟨w.heap.size + 1 + 1, 1, none⟩ = false := frozen_of_row w6 _ 1 _ _ hr
          go_wp2_with fail
          refine hJ.out _ _ (HS.out _ (fun k hk => hk6.at' k (by omega) (by omega))) (fun hSx => ?_)
          clear hJ J
          try simp only [Act.put, List.setIfInBounds_toArray, List.set_cons_zero, List.set_cons_succ]
          refine wpAnyH_ready (rs := [9]) (by kernel_rfl) (by simp) ?_
          refine AllReadyH.cons rfl (fun J hJ => ?_) AllReadyH.nil
          go_simp
          refine hJ.out _ _ (HS.out _ (fun k hk => (heap_setCell_other _ ⟨w.heap.size + 2, 1, none⟩ k _ (by show k ≠ w.heap.size + 2; omega)).trans ((heap_setCell_other w6 ⟨w.heap.size + 2, 0, none⟩ k _ (by show k ≠ w.heap.size + 2; omega)).trans (hk6.at' k (by omega) (by omega))))) (fun hSx => ?_)
          clear hJ J
          try simp only [Act.put, List.setIfInBounds_toArray, List.set_cons_zero, List.set_cons_succ]
          refine wpAnyH_done (by kernel_rfl) ?_ _
          refine NoPanic.normal ?_
          go_wp2
          have hn1 := heap_setCell_same w6 (w.heap.size + 2) 0 _ _ (.int .i64 (vm : Int)) hr
          have hn2 := heap_setCell_same _ (w.heap.size + 2) 1 _ _ (.slice xa M.length xc) hn1
          exact post_d 4 Try.results35 rfl hn2 rfl ⟨_, Z, rfl, hZ, HO.out.keep (fun b hb _ => (heap_setCell_other _ ⟨w.heap.size + 2, 1, none⟩ b _ (by show b ≠ w.heap.size + 2; omega)).trans (heap_setCell_other w6 ⟨w.heap.size + 2, 0, none⟩ b _ (by show b ≠ w.heap.size + 2; omega))), ((hB.trans (hk6.lo.mono (by omega))).setCell (p := ⟨w.heap.size + 2, 0, none⟩) (by show _ ≤ w.heap.size + 2; omega) _).setCell (p := ⟨w.heap.size + 2, 1, none⟩) (by show _ ≤ w.heap.size + 2; omega) _⟩

end Go.Proofs.Ytdeofjmgjhfkcaa
