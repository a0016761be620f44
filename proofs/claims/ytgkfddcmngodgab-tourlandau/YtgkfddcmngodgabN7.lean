/- The library's Contains; the program's mayFollow and isClosed, walked. -/
import Derived.Test.YtgkfddcmngodgabN3
import Derived.Test.YtgkfddcmngodgabTsG
namespace Go.Proofs.Ytgkfddcmngodgab
open Go.RowKit

theorem contZ_get {b : List Int} {j : Nat} {x : Int} (hj : j < b.length) (e : b.getD j 0 = x) : b.contains x = true := by
  rw [List.contains_iff_mem, ← e, List.getD_eq_getElem?_getD, List.getElem?_eq_getElem hj]
  exact List.getElem_mem hj
theorem contZ_no {b : List Int} {x : Int} (h : ∀ j, j < b.length → b.getD j 0 ≠ x) : b.contains x = false := by
  refine Bool.eq_false_iff.2 fun k => ?_
  obtain ⟨j, hj, e⟩ := List.mem_iff_getElem.1 (List.contains_iff_mem.1 k)
  refine h j hj ?_
  rw [List.getD_eq_getElem?_getD, List.getElem?_eq_getElem hj]
  exact e
theorem cont_map (b : List Nat) (x : Nat) : (b.map Int.ofNat).contains (x : Int) = b.contains x := by
  refine Bool.eq_iff_iff.2 ?_
  rw [List.contains_iff_mem, List.contains_iff_mem, List.mem_map]
  constructor
  · rintro ⟨y, hy, e⟩
    have : y = x := Int.ofNat.inj e
    rw [← this]; exact hy
  · exact fun h => ⟨x, h, rfl⟩
def IxP (q : Bool) (w : World) (e : Ending) (w' : World) : Prop := ∃ r : Int, e = .returned (.int .i64 r) ∧ -1 ≤ r ∧ r ≤ 100 ∧ (0 ≤ r ↔ q = true) ∧ w' = w
set_option maxRecDepth 100000 in
set_option maxHeartbeats 4000000 in
theorem Index_any (b : List Int) (x : Int) (v : Value) (w : World) (hv : Sl w v b) (hb : b.length ≤ 100) :
    Calls Try.prog 43 #[v, .int .i64 x] w (IxP (b.contains x) w) := by
  obtain ⟨ua, uc, rfl, hub⟩ := hv
  have HUB : Hid (∀ j, j < b.length → ∃ g o, ua = some ⟨g, o, none⟩ ∧ w.cell? ⟨g, o + j, none⟩ = some (.int .i64 (b.getD j 0))) := hub
  have HY : Hid (∀ j, j < b.length → b.getD j 0 = x → b.contains x = true) := fun j hj e => contZ_get hj e
  have HN : Hid ((∀ j, j < b.length → b.getD j 0 ≠ x) → b.contains x = false) := fun h => contZ_no h
  obtain ⟨q, Hq⟩ : ∃ q, Hid (b.contains x = q) := ⟨_, rfl⟩
  rw [Hq.out] at HY HN ⊢
  generalize b.length = n at *
  clear hub
  go_enter Try.func43, Try.ntmps43
  go_wp2
  go_loopw [8] (fun iv wr => ∃ i : Nat, iv = .int .i64 (i : Int) ∧ i ≤ n ∧ Hid (∀ j, j < i → b.getD j 0 ≠ x) ∧ wr = w) (fun iv _ => (n - intOf iv).toNat)
  case atStart => exact ⟨0, rfl, by omega, (show ∀ j, j < 0 → _ from fun j h => by omega), rfl⟩
  case round =>
    obtain ⟨i, rfl, hi, HI, rfl⟩ := hrel
    by_cases hlt : i < n
    · have hdi : decide ((i : Int) < (n : Int)) = true := by simp; omega
      have hii : (i : Int) < (n : Int) := by omega
      obtain ⟨g, o, rfl, hc⟩ := HUB.out i hlt
      by_cases he : b.getD i 0 = x
      · obtain rfl := HY.out i hlt he
        rw [he] at hc
        have hxx : (x == x) = true := by simp
        clear he HY HN HI
        go_wp2
        go_ret
        exact ⟨(i : Int), rfl, by omega, by omega, ⟨fun _ => rfl, fun _ => by omega⟩, rfl⟩
      · have HI2 : Hid (∀ j, j < i + 1 → b.getD j 0 ≠ x) := fun j hj => by
          by_cases e : j = i
          · rw [e]; exact he
          · exact HI.out j (by omega)
        obtain ⟨y, Hy⟩ : ∃ y, Hid (b.getD i 0 = y) := ⟨_, rfl⟩
        rw [Hy.out] at hc he
        have hxy : (x == y) = false := by simpa using fun h => he h.symm
        have hxy' : ¬ x = y := fun h => he h.symm
        clear he HI
        go_wp2
        go_roundw
        case rel => exact ⟨i + 1, by go_num, by omega, HI2, by first | rfl | trivial⟩
        case measure => simp [intOf]; omega
    · have hdi : decide ((i : Int) < (n : Int)) = false := by simp; omega
      obtain rfl := HN.out fun j hj => HI.out j (by omega)
      go_wp2
      go_ret
      exact ⟨-1, rfl, by omega, by omega, ⟨fun h => absurd h (by omega), fun h => by cases h⟩, rfl⟩
set_option maxHeartbeats 4000000 in
theorem ContainsZ_any (b : List Int) (x : Int) (v : Value) (w : World) (hv : Sl w v b) (hb : b.length ≤ 100) :
    Calls Try.prog 31 #[v, .int .i64 x] w fun e w' => e = .returned (.bool (b.contains x)) ∧ w' = w := by
  have C := Index_any b x v w hv hb
  obtain ⟨q, Hq⟩ : ∃ q, Hid (b.contains x = q) := ⟨_, rfl⟩
  rw [Hq.out] at C ⊢
  clear hv
  cases q
  · go_enter Try.func31, Try.ntmps31
    go_wp2_with (go_at_call 43; refine C.mono ?_; rintro e w1 ⟨r, rfl, h1, h2, h3, rfl⟩; clear C; have h4 : decide (0 ≤ r) = false := decide_eq_false fun h => by have := h3.1 h; cases this)
    go_ret
    exact ⟨by first | rfl | (rw [h4]), rfl⟩
  · go_enter Try.func31, Try.ntmps31
    go_wp2_with (go_at_call 43; refine C.mono ?_; rintro e w1 ⟨r, rfl, h1, h2, h3, rfl⟩; clear C; have h4 : decide (0 ≤ r) = true := decide_eq_true (h3.2 rfl))
    go_ret
    exact ⟨by first | rfl | (rw [h4]), rfl⟩
theorem Contains_any (b : List Nat) (x : Nat) (v : Value) (w : World) (hv : Sl w v (b.map Int.ofNat)) (hb : b.length ≤ 100) :
    Calls Try.prog 31 #[v, .int .i64 (x : Int)] w fun e w' => e = .returned (.bool (b.contains x)) ∧ w' = w := by
  have h := ContainsZ_any (b.map Int.ofNat) x v w hv (by rw [List.length_map]; exact hb)
  rw [cont_map] at h
  exact h
/-- A list of players as it lies: nothing, or cells with room. -/
def Slc (w : World) (u : Value) (M : List Nat) : Prop := (M = [] ∧ u = .slice none 0 0) ∨ ∃ b o c, u = .slice (some ⟨b, o, none⟩) M.length c ∧ M.length ≤ c ∧ 0 < M.length ∧ ∀ j, j < M.length → w.cell? ⟨b, o + j, none⟩ = some (.int .i64 ((M.getD j 0 : Nat) : Int))
theorem map_getD (M : List Nat) (j : Nat) : (M.map Int.ofNat).getD j 0 = ((M.getD j 0 : Nat) : Int) := by
  rw [List.getD_eq_getElem?_getD, List.getD_eq_getElem?_getD, List.getElem?_map]
  cases M[j]? <;> rfl
theorem Slc.sl {w : World} {u : Value} {M : List Nat} (h : Slc w u M) : Sl w u (M.map Int.ofNat) := by
  rcases h with ⟨rfl, rfl⟩ | ⟨b, o, c, rfl, _, _, hc⟩
  · exact Sl.nil w
  · exact ⟨_, c, by simp, fun j hj => ⟨b, o, rfl, by rw [map_getD]; exact hc j (by simpa using hj)⟩⟩
theorem Slc.below {w w' : World} {u : Value} {M : List Nat} (h : Slc w u M) (hb : Below w.heap.size w w') : Slc w' u M := by
  rcases h with h | ⟨b, o, c, e, h1, h2, hc⟩
  · exact .inl h
  · exact .inr ⟨b, o, c, e, h1, h2, fun j hj => (hb.cell (World.block_lt_of_cell? _ _ (hc j hj))).trans (hc j hj)⟩
set_option maxRecDepth 100000 in
set_option maxHeartbeats 16000000 in
theorem mayFollow_any {n : Nat} {l : List Int} (hg : GoodT n l) (v : Value) (w : World) (hv : Sl w v l) {M : List Nat} {u : Value} (hu : Slc w u M) (hM9 : M.length ≤ 9) (hMn : ∀ x ∈ M, x < n) {b : Nat} (hb : b < n) :
    Calls Try.prog 27 #[.agg #[.int .i64 (n : Int), v], u, .int .i64 (b : Int)] w fun e w' => e = .returned (.bool (mfB (tB n l) M b)) ∧ Below w.heap.size w w' := by
  have hus := hu.sl
  rcases hu with ⟨rfl, rfl⟩ | ⟨ub, uo, uc, rfl, hu1, hu2, hu3⟩
  · have b1 := balloc w (.cells #[.int .i64 (n : Int), v] 24)
    have e0 : mfB (tB n l) [] b = true := rfl
    rw [e0]
    clear hus
    go_enter Try.func27, Try.ntmps27
    go_wp2
    go_ret
    exact ⟨rfl, b1⟩
  · obtain ⟨m, hm⟩ : ∃ m, M.length = m + 1 := ⟨M.length - 1, by omega⟩
    have hlast := hu3 m (by omega)
    have hpn : M.getD m 0 < n := hMn _ (by rw [List.getD_eq_getElem?_getD, List.getElem?_eq_getElem (by omega)]; exact List.getElem_mem _)
    have hmf : mfB (tB n l) M b = (tB n l (M.getD m 0) b && !M.contains b) := by
      unfold mfB
      rw [hm, decide_eq_false (by omega), Nat.add_sub_cancel, Bool.false_or]
    have CC : ∀ W, Below w.heap.size w W → Calls Try.prog 31 #[.slice (some ⟨ub, uo, none⟩) M.length uc, .int .i64 (b : Int)] W fun e w' => e = .returned (.bool (M.contains b)) ∧ w' = W := fun W bW => Contains_any M b _ W (hus.below bW) (by omega)
    have hn9 := hg.le
    obtain ⟨t, Ht⟩ : ∃ t, Hid (tB n l = t) := ⟨_, rfl⟩
    rw [hmf]
    rw [Ht.out]
    have CB : ∀ W, Below w.heap.size w W → ∀ a b, a < n → b < n → Calls Try.prog 23 #[.agg #[.int .i64 (n : Int), v], .int .i64 (a : Int), .int .i64 (b : Int)] W fun e w' => e = .returned (.bool (t a b)) ∧ Below W.heap.size W w' := fun W bW a b ha hb => by rw [← Ht.out]; exact beats_any hg.one hg.le hg.len v W (hv.below bW) ha hb
    have b1 := balloc w (.cells #[.int .i64 (n : Int), v] 24)
    have HX := sq_cells (n : Int) v w
    obtain ⟨w0, Hw0⟩ : ∃ w0, Hid (w.alloc (.cells #[.int .i64 (n : Int), v] 24) = w0) := ⟨_, rfl⟩
    rw [Hw0.out] at b1 HX
    have HX2 : Hid (∀ W, Below w0.heap.size w0 W → W.cell? ⟨w.heap.size, 0, none⟩ = some (.int .i64 (n : Int)) ∧ W.cell? ⟨w.heap.size, 1, none⟩ = some v) := HX
    have HCB : Hid (∀ W, Below w0.heap.size w0 W → ∀ a b, a < n → b < n → Calls Try.prog 23 #[.agg #[.int .i64 (n : Int), v], .int .i64 (a : Int), .int .i64 (b : Int)] W fun e w' => e = .returned (.bool (t a b)) ∧ Below W.heap.size W w') := fun W bW => CB W (Below.next b1 bW)
    have HCC : Hid (∀ W, Below w0.heap.size w0 W → Calls Try.prog 31 #[.slice (some ⟨ub, uo, none⟩) M.length uc, .int .i64 (b : Int)] W fun e w' => e = .returned (.bool (M.contains b)) ∧ w' = W) := fun W bW => CC W (Below.next b1 bW)
    have HLA : Hid (∀ W, Below w0.heap.size w0 W → W.cell? ⟨ub, uo + m, none⟩ = some (.int .i64 ((M.getD m 0 : Nat) : Int))) := fun W bW => (bW.cell (World.block_lt_of_cell? _ _ ((b1.cell (World.block_lt_of_cell? _ _ hlast)).trans hlast))).trans ((b1.cell (World.block_lt_of_cell? _ _ hlast)).trans hlast)
    have HB0 : Hid (∀ W, Below w0.heap.size w0 W → Below w.heap.size w W) := fun W b => Below.next b1 b
    have hsz0 : w.heap.size ≤ w0.heap.size := b1.size
    obtain ⟨x0, x1⟩ := HX2.out w0 (Below.refl _ _)
    rw [← Hw0.out] at x0 x1
    have hnt : (!true) = false := rfl
    have hnf : (!false) = true := rfl
    clear HX hv b1 hg CB CC hlast hus hu3 hMn
    obtain ⟨p, Hp⟩ : ∃ p, Hid (M.getD m 0 = p) := ⟨_, rfl⟩
    rw [Hp.out] at HLA hpn ⊢
    have HC1 : Hid (∀ W, Below w0.heap.size w0 W → Calls Try.prog 23 #[.agg #[.int .i64 (n : Int), v], .int .i64 (p : Int), .int .i64 (b : Int)] W fun e w' => e = .returned (.bool (t p b)) ∧ Below W.heap.size W w') := fun W bW => HCB.out W bW p b hpn hb
    obtain ⟨p1, Hp1⟩ : ∃ p1, Hid (t p b = p1) := ⟨_, rfl⟩
    obtain ⟨p2, Hp2⟩ : ∃ p2, Hid (M.contains b = p2) := ⟨_, rfl⟩
    rw [Hp1.out] at HC1
    rw [Hp2.out] at HCC
    rw [Hp1.out, Hp2.out]
    obtain ⟨N, HN⟩ : ∃ N, Hid (M.length = N) := ⟨_, rfl⟩
    rw [HN.out] at HCC hu1 hM9 hm ⊢
    have hm0 : ((N : Int) == 0) = false := by simp; omega
    have hwm : IntKind.i64.wrap ((N : Int) - 1) = (m : Int) := by rw [IntKind.wrap_i64]; omega
    have hmlt : (m : Int) < (N : Int) := by omega
    have hm00 : (0 : Int) ≤ (m : Int) := by omega
    clear hmf HCB hu2 hm
    cases p1 with
    | true =>
      cases p2 <;> (
        go_enter Try.func27, Try.ntmps27
        go_wp2
        rw [Hw0.out] at x0 x1 ⊢
        have hBD : Below w0.heap.size w0 w0.drew := (Below.refl _ _).drew
        have hSA : w0.drew.cell? ⟨w.heap.size, 0, none⟩ = some (.int .i64 (n : Int)) ∧ w0.drew.cell? ⟨w.heap.size, 1, none⟩ = some v ∧ w0.drew.cell? ⟨ub, uo + m, none⟩ = some (.int .i64 (p : Int)) := ⟨x0, x1, HLA.out _ hBD⟩
        go_region_held3 (fun W : World => W.cell? ⟨w.heap.size, 0, none⟩ = some (.int .i64 (n : Int)) ∧ W.cell? ⟨w.heap.size, 1, none⟩ = some v ∧ W.cell? ⟨ub, uo + m, none⟩ = some (.int .i64 (p : Int))) (first | assumption) (first
          | (go_at_call 23; refine (HC1.out _ (by assumption)).mono ?_; rintro e w5 ⟨rfl, hb5⟩; have hB5 := Below.next (by assumption) hb5; have hS5 := And.intro (HX2.out w5 hB5).1 (And.intro (HX2.out w5 hB5).2 (HLA.out w5 hB5)))
          | (go_at_call 31; refine (HCC.out _ (by assumption)).mono ?_; rintro e w6 ⟨rfl, hw6⟩; replace hw6 := hw6.symm; subst hw6))
        go_wp2
        go_ret
        exact ⟨rfl, HB0.out _ hB5⟩)
    | false =>
      have HS : Hid (∀ W, Below w0.heap.size w0 W → W.cell? ⟨w.heap.size, 0, none⟩ = some (.int .i64 (n : Int)) ∧ W.cell? ⟨w.heap.size, 1, none⟩ = some v ∧ W.cell? ⟨ub, uo + m, none⟩ = some (.int .i64 (p : Int))) := fun W bW => ⟨(HX2.out W bW).1, (HX2.out W bW).2, HLA.out W bW⟩
      go_enter Try.func27, Try.ntmps27
      go_wp2
      rw [Hw0.out] at x0 x1 ⊢
      have hBD : Below w0.heap.size w0 w0.drew := (Below.refl _ _).drew
      refine wp_region_noPanic ?_
      refine wp_region_held_drew (S := (fun W : World => W.cell? ⟨w.heap.size, 0, none⟩ = some (.int .i64 (n : Int)) ∧ W.cell? ⟨w.heap.size, 1, none⟩ = some v ∧ W.cell? ⟨ub, uo + m, none⟩ = some (.int .i64 (p : Int)))) (by kernel_rfl) (HS.out _ hBD) (fun hSx => ?_)
      refine wpAnyH_take (i := 0) (v := .agg #[.int .i64 (n : Int), v]) rfl (by kernel_rfl) (by kernel_rfl) (by kernel_rfl) (fun _ _ _ h => h) (Or.inl ⟨by kernel_rfl, fun w' hSw => by (try dsimp only at hSw); obtain ⟨hs0, hs1, hs2⟩ := hSw; go_simp⟩) hSx ?_
      try simp only [Act.put, List.setIfInBounds_toArray]
      refine wpAnyH_take (i := 1) (v := .slice (some ⟨ub, uo, none⟩) N uc) rfl (by kernel_rfl) (by kernel_rfl) (by kernel_rfl) (fun _ _ _ h => h) (Or.inl ⟨by kernel_rfl, fun w' hSw => by (try dsimp only at hSw); obtain ⟨hs0, hs1, hs2⟩ := hSw; go_simp⟩) hSx ?_
      try simp only [Act.put]
      refine wpAnyH_take (i := 2) (v := .slice (some ⟨ub, uo, none⟩) N uc) rfl (by kernel_rfl) (by kernel_rfl) (by kernel_rfl) (fun _ _ _ h => h) (Or.inl ⟨by kernel_rfl, fun w' hSw => by (try dsimp only at hSw); obtain ⟨hs0, hs1, hs2⟩ := hSw; go_simp⟩) hSx ?_
      try simp only [Act.put]
      refine wpAnyH_take (i := 3) (v := .int .i64 (N : Int)) rfl (by kernel_rfl) (by kernel_rfl) (by kernel_rfl) (fun _ _ _ h => h) (Or.inl ⟨by kernel_rfl, fun w' hSw => by (try dsimp only at hSw); obtain ⟨hs0, hs1, hs2⟩ := hSw; go_simp⟩) hSx ?_
      try simp only [Act.put]
      refine wpAnyH_take (i := 4) (v := .int .i64 (m : Int)) rfl (by kernel_rfl) (by kernel_rfl) (by kernel_rfl) (fun _ _ _ h => h) (Or.inl ⟨by kernel_rfl, fun w' hSw => by (try dsimp only at hSw); obtain ⟨hs0, hs1, hs2⟩ := hSw; go_simp⟩) hSx ?_
      try simp only [Act.put]
      refine wpAnyH_take (i := 5) (v := .pointer (some ⟨ub, uo + m, none⟩)) rfl (by kernel_rfl) (by kernel_rfl) (by kernel_rfl) (fun _ _ _ h => h) (Or.inl ⟨by kernel_rfl, fun w' hSw => by (try dsimp only at hSw); obtain ⟨hs0, hs1, hs2⟩ := hSw; go_simp⟩) hSx ?_
      try simp only [Act.put]
      refine wpAnyH_take (i := 6) (v := .int .i64 (p : Int)) rfl (by kernel_rfl) (by kernel_rfl) (by kernel_rfl) (fun _ _ _ h => h) (Or.inl ⟨by kernel_rfl, fun w' hSw => by (try dsimp only at hSw); obtain ⟨hs0, hs1, hs2⟩ := hSw; go_simp⟩) hSx ?_
      try simp only [Act.put]
      refine wpAnyH_take (i := 7) (v := .int .i64 (b : Int)) rfl (by kernel_rfl) (by kernel_rfl) (by kernel_rfl) (fun _ _ _ h => h) (Or.inl ⟨by kernel_rfl, fun w' hSw => by (try dsimp only at hSw); obtain ⟨hs0, hs1, hs2⟩ := hSw; go_simp⟩) hSx ?_
      try simp only [Act.put]
      refine wpAnyH_ready (rs := [8]) (by kernel_rfl) (by simp) ?_
      refine AllReadyH.cons rfl (fun J hJ => ?_) AllReadyH.nil
      go_simp
      go_at_call 23
      refine (HC1.out _ hBD).mono ?_
      rintro e w5 ⟨rfl, hb5⟩
      have hB5 := Below.next hBD hb5
      go_wp2_with fail
      refine hJ.out _ _ (HS.out _ hB5) (fun hSx => ?_)
      clear hJ J
      try simp only [Act.put, List.setIfInBounds_toArray, List.set_cons_zero, List.set_cons_succ]
      refine wpAnyH_take (i := 9) (v := .bool false) rfl (by kernel_rfl) (by kernel_rfl) (by kernel_rfl) (fun _ _ _ h => h) (Or.inl ⟨by kernel_rfl, fun w' hSw => by (try dsimp only at hSw); obtain ⟨hs0, hs1, hs2⟩ := hSw; go_simp⟩) hSx ?_
      try simp only [Act.put, List.setIfInBounds_toArray]
      refine wpAnyH_take (i := 10) (v := undef) rfl (by kernel_rfl) (by kernel_rfl) (by kernel_rfl) (fun _ _ _ h => h) (Or.inr ⟨by kernel_rfl, rfl⟩) hSx ?_
      try simp only [Act.put]
      refine wpAnyH_take (i := 11) (v := undef) rfl (by kernel_rfl) (by kernel_rfl) (by kernel_rfl) (fun _ _ _ h => h) (Or.inr ⟨by kernel_rfl, rfl⟩) hSx ?_
      try simp only [Act.put]
      refine wpAnyH_take (i := 12) (v := undef) rfl (by kernel_rfl) (by kernel_rfl) (by kernel_rfl) (fun _ _ _ h => h) (Or.inr ⟨by kernel_rfl, rfl⟩) hSx ?_
      try simp only [Act.put]
      refine wpAnyH_take (i := 13) (v := undef) rfl (by kernel_rfl) (by kernel_rfl) (by kernel_rfl) (fun _ _ _ h => h) (Or.inr ⟨by kernel_rfl, rfl⟩) hSx ?_
      try simp only [Act.put]
      refine wpAnyH_ready (rs := [14]) (by kernel_rfl) (by simp) ?_
      refine AllReadyH.cons rfl (fun J hJ => ?_) AllReadyH.nil
      go_simp
      refine hJ.out _ _ (HS.out _ hB5) (fun hSx => ?_)
      clear hJ J
      try simp only [Act.put, List.setIfInBounds_toArray, List.set_cons_zero, List.set_cons_succ]
      refine wpAnyH_ready (rs := [15]) (by kernel_rfl) (by simp) ?_
      refine AllReadyH.cons rfl (fun J hJ => ?_) AllReadyH.nil
      go_simp
      refine hJ.out _ _ (HS.out _ hB5) (fun hSx => ?_)
      clear hJ J
      try simp only [Act.put, List.setIfInBounds_toArray, List.set_cons_zero, List.set_cons_succ]
      refine wpAnyH_done (by kernel_rfl) ?_ _
      refine NoPanic.normal ?_
      clear hSx
      go_wp2
      go_ret
      exact ⟨rfl, HB0.out _ hB5⟩
end Go.Proofs.Ytgkfddcmngodgab
