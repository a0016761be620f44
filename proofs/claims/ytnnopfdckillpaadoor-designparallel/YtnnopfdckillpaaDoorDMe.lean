/- The walk of the document's MeetsOf. -/
import Derived.Test.YtnnopfdckillpaaDoorDTo
import Derived.Test.YtnnopfdckillpaaDoorDCm
import Derived.OwnWalk
namespace Go.Proofs.YtnnopfdckillpaaDoor
open Go.RowKit

/-- In how many points two blocks meet. -/
def metB (B : List (List Nat)) (n : Nat) : Bool := (List.range B.length).any fun i => (List.range i).any fun j => mt (B.getD i []) (B.getD j []) == n
theorem metB_iff {B : List (List Nat)} {n : Nat} : metB B n = true ↔ ∃ i j, j < i ∧ i < B.length ∧ mt (B.getD i []) (B.getD j []) = n := by
  unfold metB
  rw [List.any_eq_true]
  constructor
  · rintro ⟨i, hi, h⟩
    rw [List.any_eq_true] at h
    obtain ⟨j, hj, h⟩ := h
    exact ⟨i, j, List.mem_range.1 hj, List.mem_range.1 hi, by simpa using h⟩
  · rintro ⟨i, j, hj, hi, h⟩
    refine ⟨i, List.mem_range.2 hi, ?_⟩
    rw [List.any_eq_true]
    exact ⟨j, List.mem_range.2 hj, by simpa using h⟩
def mtL (v : Nat) (B : List (List Nat)) : List Nat := (List.range (v + 1)).filter (metB B)
def SeenM (B : List (List Nat)) (i j : Nat) (f : Nat → Bool) : Prop := ∀ n, f n = true ↔ ∃ i' j', j' < i' ∧ (i' < i ∨ (i' = i ∧ j' < j)) ∧ mt (B.getD i' []) (B.getD j' []) = n
theorem SeenM.zero (B : List (List Nat)) : SeenM B 0 0 (fun _ => false) := fun n => by
  constructor
  · intro h; cases h
  · rintro ⟨i, j, h1, h2 | h2, _⟩ <;> omega
theorem SeenM.step {B : List (List Nat)} {i j : Nat} {f : Nat → Bool} (h : SeenM B i j f) (hj : j < i) : SeenM B i (j + 1) (upT f (mt (B.getD i []) (B.getD j [])) true) := fun n => by
  unfold upT
  by_cases e : n = mt (B.getD i []) (B.getD j [])
  · rw [if_pos e]
    exact ⟨fun _ => ⟨i, j, hj, .inr ⟨rfl, by omega⟩, e.symm⟩, fun _ => rfl⟩
  · rw [if_neg e, h n]
    constructor
    · rintro ⟨i', j', h1, h2, h3⟩
      exact ⟨i', j', h1, by omega, h3⟩
    · rintro ⟨i', j', h1, h2, h3⟩
      refine ⟨i', j', h1, ?_, h3⟩
      rcases h2 with h2 | ⟨h2, h4⟩
      · exact .inl h2
      · by_cases e2 : j' = j
        · subst h2 e2; exact (e h3.symm).elim
        · exact .inr ⟨h2, by omega⟩
theorem SeenM.row {B : List (List Nat)} {i : Nat} {f : Nat → Bool} (h : SeenM B i i f) : SeenM B (i + 1) 0 f := fun n => by
  rw [h n]
  constructor
  · rintro ⟨i', j', h1, h2, h3⟩
    exact ⟨i', j', h1, by omega, h3⟩
  · rintro ⟨i', j', h1, h2, h3⟩
    exact ⟨i', j', h1, by omega, h3⟩
theorem SeenM.all {B : List (List Nat)} {f : Nat → Bool} (h : SeenM B B.length 0 f) : f = metB B := by
  funext n
  rw [Bool.eq_iff_iff, h n, metB_iff]
  constructor
  · rintro ⟨i', j', h1, h2, h3⟩
    exact ⟨i', j', h1, by omega, h3⟩
  · rintro ⟨i', j', h1, h2, h3⟩
    exact ⟨i', j', h1, by omega, h3⟩
theorem und46 : Tryd.prog.underlying 56 = some (.slice 4) := by kernel_rfl
theorem info4 : ∃ i, Tryd.prog.info? 4 = some i ∧ i.zero = some (.bool false) ∧ i.size = 1 ∧ i.bytes = 1 := by
  have h1 : ((Tryd.prog.info? 4).bind fun i => i.zero) = some (.bool false) := by kernel_rfl
  have h2 : ((Tryd.prog.info? 4).map fun i => i.size) = some 1 := by kernel_rfl
  have h3 : ((Tryd.prog.info? 4).map fun i => i.bytes) = some 1 := by kernel_rfl
  cases h : Tryd.prog.info? 4 with
  | none => rw [h] at h2; cases h2
  | some i =>
    rw [h] at h1 h2 h3
    exact ⟨i, rfl, h1, Option.some.inj h2, Option.some.inj h3⟩
theorem run_makeB (n : Nat) (hn : n ≤ 100000000) (w : World) : (Instr.makeSlice 56 (.int .i64 (n : Int)) (.int .i64 (n : Int))).run Tryd.prog w = .ok (.slice (some ⟨w.heap.size, 0, none⟩) n n) (w.alloc (.cells (madeCells #[.bool false] n) 4)) := by
  obtain ⟨i4, hi, hz0, hz1, hz2⟩ := info4
  have h := run_make (P := Tryd.prog) w 56 4 i4 (.bool false) und46 hi hz0 .i64 .i64 n n (by omega) (by omega) (by rw [hz2]; omega) (by omega)
  simpa [hz1, Value.cells] using h
theorem bo_new (w : World) (n : Nat) : Bo (w.alloc (.cells (madeCells #[.bool false] n) 4)) w.heap.size n (fun _ => false) := by
  refine ⟨_, 4, heap_alloc_new w _, fun j hj => ?_⟩
  rw [Array.getElem?_eq_getElem (by rw [size_madeCells]; exact hj)]
  simp [madeCells, Nat.mod_one]
theorem own_low {w : World} {b b' n : Nat} {v : Value} {l : List Value} (h : w.ownsRow b 3 1 v n l) (hb : b' ≤ b) : w.ownsRow b' 3 1 v n l := by
  obtain ⟨h0, h | ⟨g, cap, cur, h1, h2, h3⟩⟩ := h
  · exact ⟨h0, .inl h⟩
  · exact ⟨h0, .inr ⟨g, cap, cur, h1, Nat.le_trans hb h2, h3⟩⟩
theorem filter_succ (f : Nat → Bool) (m : Nat) : (List.range (m + 1)).filter f = (List.range m).filter f ++ if f m = true then [m] else [] := by
  rw [List.range_succ, List.filter_append]
  cases h : f m <;> simp [h]
set_option maxRecDepth 100000 in
set_option maxHeartbeats 8000000 in
theorem MeetsOf_any (v : Nat) (B : List (List Nat)) (u : Value) (w : World) (G : GoodD v B) (hu : Rw w u (toZ B)) :
    Calls Tryd.prog 18 #[.agg #[.int .i64 (v : Int), u]] w fun e w' => ∃ x, e = .returned x ∧ w'.ownsRow w.heap.size 3 1 x (mtL v B).length (((mtL v B).map Int.ofNat).map (Value.int .i64)) ∧ Below w.heap.size w w' := by
  obtain ⟨a, cap, rfl, hD⟩ := drow_of hu
  obtain ⟨i3, hi3, hz0, hz1, hz2⟩ := info3
  have h200 := G.few
  have hv40 := G.le
  have HD : Hid (DRow w a B) := hD
  have HBL : Hid (∀ b ∈ B, b.length ≤ v) := fun b hb => (G.bls b hb).le
  have HAT : Hid (∀ i, i < B.length → ∃ b, B[i]? = some b) := fun i hi => ⟨_, List.getElem?_eq_getElem hi⟩
  have HAL : Hid (∀ f, SeenM B B.length 0 f → f = metB B) := fun f h => h.all
  have HFI : Hid (mtL v B = (List.range (v + 1)).filter (metB B)) := rfl
  obtain ⟨V, hV⟩ : ∃ V, V = v + 1 := ⟨_, rfl⟩
  rw [← hV] at HFI
  have hVi : (v : Int) + 1 = (V : Int) := by omega
  obtain ⟨ML, HML⟩ : ∃ ML, Hid (mtL v B = ML) := ⟨_, rfl⟩
  rw [HML.out] at HFI ⊢
  have HC : Hid (∀ W, Below (w.alloc (.cells #[.int .i64 (v : Int), .slice a B.length cap] 24)).heap.size (w.alloc (.cells #[.int .i64 (v : Int), .slice a B.length cap] 24)) W → W.cell? ⟨w.heap.size, 0, none⟩ = some (.int .i64 (v : Int)) ∧ W.cell? ⟨w.heap.size, 1, none⟩ = some (.slice a B.length cap)) := des_box v (.slice a B.length cap) w
  obtain ⟨w0, Hw0⟩ : ∃ w0, Hid (w0 = w.alloc (.cells #[.int .i64 (v : Int), .slice a B.length cap] 24)) := ⟨_, rfl⟩
  rw [← Hw0.out] at HC
  have HB0 : Hid (Below w.heap.size w w0) := by rw [Hw0.out]; exact balloc _ _
  have HS0 : Hid (w.heap.size < w0.heap.size) := by rw [Hw0.out]; show _ < _; simp
  obtain ⟨x0, x1⟩ := HC.out _ (Below.refl _ _)
  rw [Hw0.out] at x0 x1
  have hmk : ∀ w : World, (Instr.makeSlice 56 (.int .i64 ((v : Int) + 1)) (.int .i64 ((v : Int) + 1))).run Tryd.prog w = .ok (.slice (some ⟨w.heap.size, 0, none⟩) V V) (w.alloc (.cells (madeCells #[.bool false] V) 4)) := fun w => by
    rw [hVi]; exact run_makeB V (by omega) w
  have hbo0 := bo_new w0 V
  have hb0 := balloc w0 (.cells (madeCells #[.bool false] V) 4)
  obtain ⟨g, Hg⟩ : ∃ g, Hid (w0.heap.size = g) := ⟨_, rfl⟩
  rw [Hg.out] at hbo0
  have hgw : (w.alloc (.cells #[.int .i64 (v : Int), .slice a B.length cap] 24)).heap.size = g := by rw [← Hw0.out]; exact Hg.out
  generalize hBn : B.length = n at *
  have hV41 : V ≤ 41 := by omega
  have HV : Hid (V = v + 1) := hV
  clear hD hu hVi hV
  go_enter Tryd.func18, Tryd.ntmps18
  go_wp2
  rw [← Hw0.out]
  go_loopw [4] (fun iv wr => ∃ (i : Nat) (f : Nat → Bool), iv = .int .i64 (i : Int) ∧ i ≤ n ∧ Hid (SeenM B i 0 f) ∧ Bo wr g V f ∧ Below w0.heap.size w0 wr) (fun iv _ => (n - intOf iv).toNat)
  case atStart => exact ⟨0, _, rfl, by omega, SeenM.zero B, hbo0, hb0⟩
  case round =>
    clear x0 x1 hbo0 hb0 hmk
    obtain ⟨i, f, rfl, hi, HS, hbo, hB⟩ := hrel
    obtain ⟨x0, x1⟩ := HC.out _ hB
    by_cases hlt : i < n
    · have hdi : decide ((i : Int) < (n : Int)) = true := by simp; omega
      have hii : (i : Int) < (n : Int) := by omega
      obtain ⟨b, hbi⟩ := HAT.out i hlt
      go_wp2
      go_loopw [5] (fun jv wr' => ∃ (j : Nat) (f : Nat → Bool), jv = .int .i64 (j : Int) ∧ j ≤ i ∧ Hid (SeenM B i j f) ∧ Bo wr' g V f ∧ Below w0.heap.size w0 wr') (fun jv _ => (i - intOf jv).toNat)
      case atStart => exact ⟨0, f, rfl, by omega, HS, hbo, hB⟩
      case round =>
        clear x0 x1 hbo hB HS f
        obtain ⟨j, f, rfl, hj, HS0', hbo, hB⟩ := hrel
        obtain ⟨x0, x1⟩ := HC.out _ hB
        by_cases hlj : j < i
        · have hdj : decide ((j : Int) < (i : Int)) = true := by simp; omega
          have hji : (j : Int) < (n : Int) := by omega
          obtain ⟨c, hcj⟩ := HAT.out j (by omega)
          obtain ⟨bb, off, ua, uc, rfl, hrow⟩ := HD.out i b hbi
          obtain ⟨hr, hrs⟩ := hrow _ (Below.next HB0.out hB)
          obtain ⟨bb', off', va, vc, e, hrow'⟩ := HD.out j c hcj
          obtain ⟨rfl, rfl⟩ : bb = bb' ∧ off = off' := by
            simp only [Option.some.injEq, Addr.mk.injEq] at e
            exact ⟨e.1, e.2.1⟩
          obtain ⟨hr', hrs'⟩ := hrow' _ (Below.next HB0.out hB)
          have hbl := HBL.out b (List.mem_of_getElem? hbi)
          have hcl := HBL.out c (List.mem_of_getElem? hcj)
          have CT := fun W (b' : Below wr.heap.size wr W) => (Together_any b c _ _ W (hrs.below b') (hrs'.below b') (by omega) (by omega)).mono (R' := fun e w' => e = .returned (.int .i64 ((mt b c : Nat) : Int)) ∧ Below W.heap.size W w') (by rintro e w' ⟨h, rfl⟩; exact ⟨h, Below.refl _ _⟩)
          have hms : mt b c ≤ b.length := List.countP_le_length
          have HS2 : Hid (SeenM B i (j + 1) (upT f (mt b c) true)) := by
            have := HS0'.out.step hlj
            rw [List.getD_eq_getElem?_getD, List.getD_eq_getElem?_getD, hbi, hcj] at this
            exact this
          have hmV : mt b c < V := by rw [HV.out]; omega
          generalize mt b c = m at *
          generalize b.length = bl at *
          generalize c.length = cl at *
          have hmi : (m : Int) < (V : Int) := by omega
          have HS : Hid (∀ W', Below wr.heap.size wr W' → (fun w' => w'.cell? ⟨w.heap.size, 1, none⟩ = some (.slice (some ⟨bb, off, none⟩) n cap) ∧ w'.cell? ⟨bb, off + i, none⟩ = some (.slice ua bl uc) ∧ w'.cell? ⟨bb, off + j, none⟩ = some (.slice va cl vc)) W') := fun W' b => ⟨(b.cell (World.block_lt_of_cell? _ _ x1)).trans x1, (b.cell (World.block_lt_of_cell? _ _ hr)).trans hr, (b.cell (World.block_lt_of_cell? _ _ hr')).trans hr'⟩
          clear hrow hrow' hbi hcj e hrs hrs' x0 x1 hr hr'
          go_wp2
          refine wp_region_noPanic ?_
          refine wp_region_held_drew (S := fun w' => w'.cell? ⟨w.heap.size, 1, none⟩ = some (.slice (some ⟨bb, off, none⟩) n cap) ∧ w'.cell? ⟨bb, off + i, none⟩ = some (.slice ua bl uc) ∧ w'.cell? ⟨bb, off + j, none⟩ = some (.slice va cl vc)) (by kernel_rfl) (HS.out _ (Below.refl _ wr).drew) (fun hSx => ?_)
          have d0 : Below wr.heap.size wr wr.drew := (Below.refl _ wr).drew
          refine wpAnyH_take (i := 0) (v := .pointer (some ⟨w.heap.size, 1, none⟩)) rfl (by kernel_rfl) (by kernel_rfl) (by kernel_rfl) (fun _ _ _ h => h) (Or.inl ⟨by rfl, fun w' hSw => by (try dsimp only at hSw); obtain ⟨hs0, hs1, hs2⟩ := hSw; go_simp⟩) hSx ?_
          try simp only [Act.put, List.setIfInBounds_toArray]
          refine wpAnyH_take (i := 1) (v := .slice (some ⟨bb, off, none⟩) n cap) rfl (by kernel_rfl) (by kernel_rfl) (by kernel_rfl) (fun _ _ _ h => h) (Or.inl ⟨by rfl, fun w' hSw => by (try dsimp only at hSw); obtain ⟨hs0, hs1, hs2⟩ := hSw; go_simp⟩) hSx ?_
          try simp only [Act.put]
          refine wpAnyH_take (i := 2) (v := .int .i64 (i : Int)) rfl (by kernel_rfl) (by kernel_rfl) (by kernel_rfl) (fun _ _ _ h => h) (Or.inl ⟨by rfl, fun w' hSw => by (try dsimp only at hSw); obtain ⟨hs0, hs1, hs2⟩ := hSw; go_simp⟩) hSx ?_
          try simp only [Act.put]
          refine wpAnyH_take (i := 3) (v := .pointer (some ⟨bb, off + i, none⟩)) rfl (by kernel_rfl) (by kernel_rfl) (by kernel_rfl) (fun _ _ _ h => h) (Or.inl ⟨by rfl, fun w' hSw => by (try dsimp only at hSw); obtain ⟨hs0, hs1, hs2⟩ := hSw; go_simp⟩) hSx ?_
          try simp only [Act.put]
          refine wpAnyH_take (i := 4) (v := .slice ua bl uc) rfl (by kernel_rfl) (by kernel_rfl) (by kernel_rfl) (fun _ _ _ h => h) (Or.inl ⟨by rfl, fun w' hSw => by (try dsimp only at hSw); obtain ⟨hs0, hs1, hs2⟩ := hSw; go_simp⟩) hSx ?_
          try simp only [Act.put]
          refine wpAnyH_take (i := 5) (v := .pointer (some ⟨w.heap.size, 1, none⟩)) rfl (by kernel_rfl) (by kernel_rfl) (by kernel_rfl) (fun _ _ _ h => h) (Or.inl ⟨by rfl, fun w' hSw => by (try dsimp only at hSw); obtain ⟨hs0, hs1, hs2⟩ := hSw; go_simp⟩) hSx ?_
          try simp only [Act.put]
          refine wpAnyH_take (i := 6) (v := .slice (some ⟨bb, off, none⟩) n cap) rfl (by kernel_rfl) (by kernel_rfl) (by kernel_rfl) (fun _ _ _ h => h) (Or.inl ⟨by rfl, fun w' hSw => by (try dsimp only at hSw); obtain ⟨hs0, hs1, hs2⟩ := hSw; go_simp⟩) hSx ?_
          try simp only [Act.put]
          refine wpAnyH_take (i := 7) (v := .int .i64 (j : Int)) rfl (by kernel_rfl) (by kernel_rfl) (by kernel_rfl) (fun _ _ _ h => h) (Or.inl ⟨by rfl, fun w' hSw => by (try dsimp only at hSw); obtain ⟨hs0, hs1, hs2⟩ := hSw; go_simp⟩) hSx ?_
          try simp only [Act.put]
          refine wpAnyH_take (i := 8) (v := .pointer (some ⟨bb, off + j, none⟩)) rfl (by kernel_rfl) (by kernel_rfl) (by kernel_rfl) (fun _ _ _ h => h) (Or.inl ⟨by rfl, fun w' hSw => by (try dsimp only at hSw); obtain ⟨hs0, hs1, hs2⟩ := hSw; go_simp⟩) hSx ?_
          try simp only [Act.put]
          refine wpAnyH_take (i := 9) (v := .slice va cl vc) rfl (by kernel_rfl) (by kernel_rfl) (by kernel_rfl) (fun _ _ _ h => h) (Or.inl ⟨by rfl, fun w' hSw => by (try dsimp only at hSw); obtain ⟨hs0, hs1, hs2⟩ := hSw; go_simp⟩) hSx ?_
          try simp only [Act.put]
          refine wpAnyH_ready (rs := [10]) (by kernel_rfl) (by simp) ?_
          refine AllReadyH.cons rfl (fun J hJ => ?_) AllReadyH.nil
          go_simp
          refine (CT _ d0).mono ?_
          rintro e w1 ⟨rfl, b1⟩
          have d1 := Below.next d0 b1
          go_wp2_with fail
          refine hJ.out _ _ (HS.out _ d1) (fun hSx => ?_)
          clear hJ J
          try simp only [Act.put, List.setIfInBounds_toArray, List.set_cons_zero, List.set_cons_succ]
          refine wpAnyH_take (i := 11) (v := .int .i64 (m : Int)) rfl (by kernel_rfl) (by kernel_rfl) (by kernel_rfl) (fun _ _ _ h => h) (Or.inl ⟨by rfl, fun w' hSw => by (try dsimp only at hSw); obtain ⟨hs0, hs1, hs2⟩ := hSw; go_simp⟩) hSx ?_
          try simp only [Act.put, List.setIfInBounds_toArray]
          refine wpAnyH_done (by kernel_rfl) ?_ _
          refine NoPanic.normal ?_
          clear hSx HS CT
          have hbo1 := hbo.below d1
          have hB1 := Below.next hB d1
          have hfz := hbo1.frozen m
          have hbn := hbo1.set m true
          have hBn := hB1.setCell (p := ⟨g, m, none⟩) (Nat.le_of_eq Hg.out) (.bool true)
          have hcm := hbo1.cell m hmV
          generalize f m = fm at hcm
          clear hbo hbo1 hB hB1
          go_wp2
          go_roundw
          case rel => exact ⟨j + 1, _, by go_num, by omega, HS2, hbn, hBn⟩
          case measure => simp [intOf]; omega
        · have hdj : decide ((j : Int) < (i : Int)) = false := by simp; omega
          obtain rfl : j = i := by omega
          have HS2 : Hid (SeenM B (j + 1) 0 f) := HS0'.out.row
          go_wp2
          go_roundw
          case rel => exact ⟨j + 1, f, by go_num, by omega, HS2, hbo, hB⟩
          case measure => simp [intOf]; omega
    · have hdi : decide ((i : Int) < (n : Int)) = false := by simp; omega
      obtain rfl : i = n := by omega
      have HF : Hid (f = metB B) := HAL.out f HS.out
      rw [← HF.out] at HFI
      have HLE : Hid (∀ m, ((List.range m).filter f).length ≤ m) := fun m => by
        have := List.length_filter_le f (List.range m)
        rw [List.length_range] at this
        exact this
      have HSU : Hid (∀ m, (List.range (m + 1)).filter f = (List.range m).filter f ++ if f m = true then [m] else []) := filter_succ f
      obtain ⟨w1, Hw1⟩ : ∃ w1 : World, Hid (w1 = wr) := ⟨_, rfl⟩
      have HBO : Hid (Bo w1 g V f) := by rw [Hw1.out]; exact hbo
      have HB1 : Hid (Below w0.heap.size w0 w1) := by rw [Hw1.out]; exact hB
      clear hbo hB HS hdi
      go_wp2
      go_loopw [7, 8] (fun o mv wr' => ∃ (m : Nat) (l : List Nat), mv = .int .i64 (m : Int) ∧ m ≤ V ∧ Hid ((List.range m).filter f = l) ∧ wr'.ownsRow w1.heap.size 3 1 o l.length ((l.map Int.ofNat).map (Value.int .i64)) ∧ Below w1.heap.size w1 wr') (fun _ mv _ => (V - intOf mv).toNat)
      case atStart => exact ⟨0, [], rfl, by omega, rfl, World.ownsRow_nil _ _ _ _, by rw [Hw1.out]; exact Below.refl _ _⟩
      case round =>
        obtain ⟨m, l, rfl, hm, HL, hown, hB⟩ := hrel
        have hbz := hB.size
        have hll : l.length ≤ m := by rw [← HL.out]; exact HLE.out m
        by_cases hlm : m < V
        · have hdm : decide ((m : Int) < (V : Int)) = true := by simp; omega
          have hmi : (m : Int) < (V : Int) := by omega
          have hc := (HBO.out.below hB).cell m hlm
          have hs := HSU.out m
          rw [HL.out] at hs
          cases hf : f m with
          | false =>
            rw [hf] at hc hs
            have HL2 : Hid ((List.range (m + 1)).filter f = l) := by rw [hs]; show _ = _; simp
            clear hs hf HL
            go_wp2
            go_roundw
            case rel => exact ⟨m + 1, l, by go_num, by omega, HL2, hown, hB⟩
            case measure => simp [intOf]; omega
          | true =>
            rw [hf] at hc hs
            have HL2 : Hid ((List.range (m + 1)).filter f = l ++ [m]) := by rw [hs]; show _ = _; simp
            clear hs hf HL
            obtain ⟨k, Hk⟩ : ∃ k, Hid (l.length = k) := ⟨_, rfl⟩
            rw [Hk.out] at hown hll
            go_wp2_with (first
              | (at_builtin; refine wpList_append_own _ rfl _ _ 33 rfl w1.heap.size 3 i3 (.int .i64 0) 1 8 und22 hi3 hz0 hz1 hz2 rfl (by decide) _ _ _ rfl (hown.alloc _) ⟨wr.heap.size, 0, none⟩ 1 1 [.int .i64 (m : Int)] rfl rfl ?c1 ?c2 ?c3 ?c4 ?c5 ?_)
              | go_in)
            case c1 =>
              intro j u hj
              match j, hj with
              | 0, hj => simp at hj; subst hj; simp [Addr.add]
            case c2 => intro u hu; simp at hu; subst hu; rfl
            case c3 => unfold maxLen; omega
            case c4 => omega
            case c5 => simp; omega
            · intro v' w2 hown' hgrow _
              have hb2 : Below w1.heap.size w1 w2 := (hB.alloc hbz _).grown hgrow (by simp; omega) (fun k hk => (hown.lt k hk).1)
              go_wp2
              go_roundw
              case rel => exact ⟨m + 1, l ++ [m], by go_num, by omega, HL2, by simpa [Hk.out] using hown', hb2⟩
              case measure => simp [intOf]; omega
        · have hdm : decide ((m : Int) < (V : Int)) = false := by simp; omega
          obtain rfl : m = V := by omega
          obtain rfl : ML = l := by rw [HFI.out, HL.out]
          have hfin := own_low hown (Nat.le_trans HB0.out.size HB1.out.size)
          have hBf : Below w.heap.size w wr := Below.next HB0.out (Below.next HB1.out hB)
          go_wp2
          go_ret
          exact ⟨_, rfl, hfin, hBf⟩
end Go.Proofs.YtnnopfdckillpaaDoor
