/- The program's Path, Paths, Cycle: their contracts. -/
import Derived.Test.YtgkfddcmngodgaaN6
import Derived.Test.YtgkfddcmngodgaaN10
namespace Go.Proofs.Ytgkfddcmngodgaa
open Go.RowKit

theorem find_idx {α : Type} {p : α → Bool} : ∀ {L : List α} {i : Nat} {M : α}, L[i]? = some M → p M = true → (∀ j x, j < i → L[j]? = some x → p x = false) → L.find? p = some M
  | [], i, M, h, _, _ => by simp at h
  | a :: L, 0, M, h, hp, _ => by
    have : a = M := by simpa using h
    subst this
    exact List.find?_cons_of_pos hp
  | a :: L, i + 1, M, h, hp, hno => by
    have h0 := hno 0 a (by omega) rfl
    rw [List.find?_cons_of_neg (by rw [h0]; simp)]
    exact find_idx (by simpa using h) hp fun j x hj hx => hno (j + 1) x (by omega) (by simpa using hx)
theorem cy_found {n : Nat} {t : Nat → Nat → Bool} (hn : 1 ≤ n) (hT : Trn (List.range n) t) {i : Nat} {M : List Nat} (h : (bfL n t n)[i]? = some M) (hp : clB t M = true) (hno : ∀ j x, j < i → (bfL n t n)[j]? = some x → clB t x = false) : cyN n t ≠ 0 ∧ cyL n t = M := by
  have e := cy_first hn hT
  rw [find_idx h hp hno] at e
  by_cases h0 : cyN n t = 0
  · rw [if_pos h0] at e; cases e
  · rw [if_neg h0] at e; cases e; exact ⟨h0, rfl⟩
theorem cy_none {n : Nat} {t : Nat → Nat → Bool} (hn : 1 ≤ n) (hT : Trn (List.range n) t) (hno : ∀ j x, j < (bfL n t n).length → (bfL n t n)[j]? = some x → clB t x = false) : cyN n t = 0 := by
  refine Classical.byContradiction fun h0 => ?_
  have e := cy_first hn hT
  rw [if_neg h0] at e
  have hm := List.mem_of_find?_eq_some e
  have hp := List.find?_some e
  obtain ⟨j, hj⟩ := List.getElem?_of_mem hm
  rw [hno j _ (List.getElem?_eq_some_iff.1 hj).1 hj] at hp
  cases hp
set_option maxRecDepth 100000 in
set_option maxHeartbeats 16000000 in
theorem Paths_face : FPaths := by
  intro s l v w h
  have hv := h.sl
  have C := Check_any s l v w hv
  have b1 := balloc w (.cells #[.int .i64 s, v] 24)
  have C := Check_any s l v (w.alloc (.cells #[.int .i64 s, v] 24)) (hv.below b1)
  have HX := sq_cells s v w
  obtain ⟨w0, Hw0⟩ : ∃ w0, Hid (w.alloc (.cells #[.int .i64 s, v] 24) = w0) := ⟨_, rfl⟩
  rw [Hw0.out] at b1 HX C
  have HX2 : Hid (∀ W, Below w0.heap.size w0 W → W.cell? ⟨w.heap.size, 0, none⟩ = some (.int .i64 s) ∧ W.cell? ⟨w.heap.size, 1, none⟩ = some v) := HX
  have HB0 : Hid (∀ W, Below w0.heap.size w0 W → Below w.heap.size w W) := fun W b => Below.next b1 b
  obtain ⟨x0, x1⟩ := HX2.out w0 (Below.refl _ _)
  have hsz0 : w.heap.size ≤ w0.heap.size := b1.size
  by_cases h0 : tF s l = 0
  · obtain ⟨n, rfl, hg⟩ := tF_ok h0
    have HI : Hid (∀ W, Below w0.heap.size w0 W → Calls Try.prog 35 #[.agg #[.int .i64 (n : Int), v]] W fun e w' => (∃ y, e = .returned y ∧ LsR w' y (bfL n (tB n l) n)) ∧ Below W.heap.size W w') := fun W bW => paths_any hg v W (hv.below (Below.next b1 bW))
    rw [h0] at C ⊢
    rw [← Hw0.out] at x0 x1
    clear HX hv b1 h
    go_enter Try.func22, Try.ntmps22
    go_wp2_with (first
      | (go_at_call 10; (try rw [Hw0.out]); refine C.mono ?_; rintro e w5 ⟨rfl, hb5⟩; clear C; obtain ⟨x5, z5⟩ := HX2.out w5 hb5; have C2 := HI.out w5 hb5)
      | (go_at_call 35; refine C2.mono ?_; rintro e w6 ⟨⟨y, rfl, hls⟩, hb6⟩; clear C2; have hB := Below.next hb5 hb6; obtain ⟨la, lc, rfl, hrows⟩ := hls)
      | go_in)
    go_ret2
    exact ⟨by rw [pnZ_ok h0, ← pa_count]; rfl, HB0.out _ hB⟩
  · obtain ⟨z, Hz⟩ : ∃ z, Hid (tF s l = z) := ⟨_, rfl⟩
    have HBAD := pnZ_bad h0
    rw [Hz.out] at C h0 ⊢
    have hne : ((z : Int) != 0) = true := by simp; omega
    rw [← Hw0.out] at x0 x1
    clear HX hv b1 h
    go_enter Try.func22, Try.ntmps22
    go_wp2_with (first
      | (go_at_call 10; (try rw [Hw0.out]); refine C.mono ?_; rintro e w5 ⟨rfl, hb5⟩; clear C)
      | go_in)
    go_ret2
    exact ⟨by rw [HBAD]; rfl, HB0.out _ hb5⟩
set_option maxRecDepth 100000 in
set_option maxHeartbeats 16000000 in
theorem Path_face : FPath := by
  intro s l v w h
  have hv := h.sl
  have C := Check_any s l v w hv
  have b1 := balloc w (.cells #[.int .i64 s, v] 24)
  have C := Check_any s l v (w.alloc (.cells #[.int .i64 s, v] 24)) (hv.below b1)
  have HX := sq_cells s v w
  obtain ⟨w0, Hw0⟩ : ∃ w0, Hid (w.alloc (.cells #[.int .i64 s, v] 24) = w0) := ⟨_, rfl⟩
  rw [Hw0.out] at b1 HX C
  have HX2 : Hid (∀ W, Below w0.heap.size w0 W → W.cell? ⟨w.heap.size, 0, none⟩ = some (.int .i64 s) ∧ W.cell? ⟨w.heap.size, 1, none⟩ = some v) := HX
  have HB0 : Hid (∀ W, Below w0.heap.size w0 W → Below w.heap.size w W) := fun W b => Below.next b1 b
  obtain ⟨x0, x1⟩ := HX2.out w0 (Below.refl _ _)
  have hsz0 : w.heap.size ≤ w0.heap.size := b1.size
  by_cases h0 : tF s l = 0
  · obtain ⟨n, rfl, hg⟩ := tF_ok h0
    have HI : Hid (∀ W, Below w0.heap.size w0 W → Calls Try.prog 35 #[.agg #[.int .i64 (n : Int), v]] W fun e w' => (∃ y, e = .returned y ∧ LsR w' y (bfL n (tB n l) n)) ∧ Below W.heap.size W w') := fun W bW => paths_any hg v W (hv.below (Below.next b1 bW))
    rw [h0] at C ⊢
    rw [← Hw0.out] at x0 x1
    clear HX hv b1 h
    go_enter Try.func21, Try.ntmps21
    go_wp2_with (first
      | (go_at_call 10; (try rw [Hw0.out]); refine C.mono ?_; rintro e w5 ⟨rfl, hb5⟩; clear C; obtain ⟨x5, z5⟩ := HX2.out w5 hb5; have C2 := HI.out w5 hb5)
      | (go_at_call 35; refine C2.mono ?_; rintro e w6 ⟨⟨y, rfl, hls⟩, hb6⟩; clear C2; have hB := Below.next hb5 hb6; obtain ⟨la, lc, rfl, hrows⟩ := hls; obtain ⟨pb, po, u, rfl, hcu, hsu⟩ := hrows 0 _ (pa_first hg.one hg.trn); rw [Nat.add_zero] at hcu; have hlen0 : (0 : Int) < (((bfL n (tB n l) n).length : Nat) : Int) := by have := (List.getElem?_eq_some_iff.1 (pa_first hg.one hg.trn)).1; omega)
      | go_in)
    go_ret2
    exact ⟨⟨_, rfl, by rw [plZ_ok h0]; exact hsu.sl⟩, HB0.out _ hB⟩
  · obtain ⟨z, Hz⟩ : ∃ z, Hid (tF s l = z) := ⟨_, rfl⟩
    have HBAD := plZ_bad h0
    rw [Hz.out] at C h0 ⊢
    have hne : ((z : Int) != 0) = true := by simp; omega
    rw [← Hw0.out] at x0 x1
    clear HX hv b1 h
    go_enter Try.func21, Try.ntmps21
    go_wp2_with (first
      | (go_at_call 10; (try rw [Hw0.out]); refine C.mono ?_; rintro e w5 ⟨rfl, hb5⟩; clear C)
      | go_in)
    go_ret2
    exact ⟨⟨_, rfl, by rw [HBAD]; exact Sl.nil _⟩, HB0.out _ hb5⟩
set_option maxRecDepth 100000 in
set_option maxHeartbeats 16000000 in
theorem Cycle_face : FCycle := by
  intro s l v w h
  have hv := h.sl
  have C := Check_any s l v w hv
  have b1 := balloc w (.cells #[.int .i64 s, v] 24)
  have C := Check_any s l v (w.alloc (.cells #[.int .i64 s, v] 24)) (hv.below b1)
  have HX := sq_cells s v w
  obtain ⟨w0, Hw0⟩ : ∃ w0, Hid (w.alloc (.cells #[.int .i64 s, v] 24) = w0) := ⟨_, rfl⟩
  rw [Hw0.out] at b1 HX C
  have HX2 : Hid (∀ W, Below w0.heap.size w0 W → W.cell? ⟨w.heap.size, 0, none⟩ = some (.int .i64 s) ∧ W.cell? ⟨w.heap.size, 1, none⟩ = some v) := HX
  have HB0 : Hid (∀ W, Below w0.heap.size w0 W → Below w.heap.size w W) := fun W b => Below.next b1 b
  obtain ⟨x0, x1⟩ := HX2.out w0 (Below.refl _ _)
  have hsz0 : w.heap.size ≤ w0.heap.size := b1.size
  by_cases h0 : tF s l = 0
  · obtain ⟨n, rfl, hg⟩ := tF_ok h0
    have HI : Hid (∀ W, Below w0.heap.size w0 W → Calls Try.prog 35 #[.agg #[.int .i64 (n : Int), v]] W fun e w' => (∃ y, e = .returned y ∧ LsR w' y (bfL n (tB n l) n)) ∧ Below W.heap.size W w') := fun W bW => paths_any hg v W (hv.below (Below.next b1 bW))
    rw [h0] at C
    have hn9 := hg.le
    have hn1 := hg.one
    obtain ⟨t, Ht⟩ : ∃ t, Hid (tB n l = t) := ⟨_, rfl⟩
    have HTT : Hid (Trn (List.range n) t) := by show Trn _ _; rw [← Ht.out]; exact hg.trn
    have HCL : Hid (∀ W, Below w0.heap.size w0 W → ∀ M u, Slc W u M → M.length ≤ 9 → 0 < M.length → (∀ x ∈ M, x < n) → Calls Try.prog 36 #[.agg #[.int .i64 (n : Int), v], u] W fun e w' => e = .returned (.bool (clB t M)) ∧ Below W.heap.size W w') := fun W bW M u h1 h2 h3 h4 => by rw [← Ht.out]; exact isClosed_any hg v W (hv.below (Below.next b1 bW)) h1 h2 h3 h4
    rw [← Hw0.out] at x0 x1
    clear HX hv b1 h
    go_enter Try.func23, Try.ntmps23
    go_wp2_with (first
      | (go_at_call 10; (try rw [Hw0.out]); refine C.mono ?_; rintro e w5 ⟨rfl, hb5⟩; clear C; obtain ⟨x5, z5⟩ := HX2.out w5 hb5; have C2 := HI.out w5 hb5)
      | (go_at_call 35; refine C2.mono ?_; rintro e w6 ⟨⟨y, rfl, hls⟩, hb6⟩; clear C2; have hB := Below.next hb5 hb6; rw [Ht.out] at hls; obtain ⟨la, lc, rfl, hrows⟩ := hls; have HRW : Hid (∀ i M, (bfL n t n)[i]? = some M → ∃ b off u, la = some ⟨b, off, none⟩ ∧ w6.cell? ⟨b, off + i, none⟩ = some u ∧ Slc w6 u M) := hrows; clear hrows; obtain ⟨L, HL⟩ : ∃ L, Hid ((bfL n t n).length = L) := ⟨_, rfl⟩; have hL9 : L ≤ 387420489 := HL.out ▸ bfL_len8 hn9 hn9; rw [HL.out])
      | go_in)
    go_loopw [15] (fun iv wr => ∃ i : Nat, iv = .int .i64 (i : Int) ∧ i ≤ L ∧ Hid (∀ j x, j < i → (bfL n t n)[j]? = some x → clB t x = false) ∧ Below w0.heap.size w0 wr ∧ Below w6.heap.size w6 wr) (fun iv _ => (L - intOf iv).toNat)
    case atStart => exact ⟨0, rfl, by omega, (show ∀ j x, j < 0 → _ from fun j x h => by omega), hB, Below.refl _ _⟩
    case round =>
      obtain ⟨i, rfl, hi, HI2, hBr, hBr6⟩ := hrel
      obtain ⟨x0, x1⟩ := HX2.out wr hBr
      by_cases hli : i < L
      · have hdi : decide ((i : Int) < (L : Int)) = true := by simp; omega
        have hii : (i : Int) < (L : Int) := by omega
        obtain ⟨M, hM⟩ : ∃ M, (bfL n t n)[i]? = some M := ⟨_, List.getElem?_eq_getElem (by rw [HL.out]; exact hli)⟩
        obtain ⟨pb, po, u, rfl, hcu0, hsu0⟩ := HRW.out i M hM
        have hcu := (hBr6.cell (World.block_lt_of_cell? _ _ hcu0)).trans hcu0
        have hsu := hsu0.below hBr6
        have hMl := (bfL_each (List.mem_of_getElem? hM)).1
        have C3 := HCL.out wr hBr M u hsu (by omega) (by omega) (bfL_each (List.mem_of_getElem? hM)).2
        have hfd := cy_found hg.one HTT.out hM
        obtain ⟨p, Hp⟩ : ∃ p, Hid (clB t M = p) := ⟨_, rfl⟩
        rw [Hp.out] at C3 hfd
        cases p with
        | true =>
          obtain ⟨hcn, hcl⟩ := hfd rfl HI2.out
          have HSU : Hid (∀ W, Below w0.heap.size w0 W → Below wr.heap.size wr W → Sl W u (M.map Int.ofNat)) := fun W _ b => (hsu.below b).sl
          have hz0 : ceT n l = 0 := by rw [ceT_ok h0, Ht.out, if_neg hcn]
          have hz1 : cyZ n l = M.map Int.ofNat := by rw [cyZ_ok h0, Ht.out, if_neg hcn, hcl]
          clear hsu hsu0 hfd
          go_wp2_with (first
            | (go_at_call 36; refine C3.mono ?_; rintro e w7 ⟨rfl, hb7⟩; clear C3; have hB7 := Below.next hBr hb7)
            | go_in)
          go_ret2
          exact ⟨⟨_, by rw [hz0]; rfl, by rw [hz1]; exact HSU.out _ hB7 hb7⟩, HB0.out _ hB7⟩
        | false =>
          have HI3 : Hid (∀ j x, j < i + 1 → (bfL n t n)[j]? = some x → clB t x = false) := fun j x hj hx => by
            by_cases e : j = i
            · subst e
              rw [hM] at hx
              cases hx
              exact Hp.out
            · exact HI2.out j x (by omega) hx
          clear hfd
          go_wp2_with (first
            | (go_at_call 36; refine C3.mono ?_; rintro e w7 ⟨rfl, hb7⟩; clear C3; have hB7 := Below.next hBr hb7; have hB76 := Below.next hBr6 hb7)
            | go_in)
          go_roundw
          case rel => exact ⟨i + 1, by go_num, by omega, HI3, hB7, hB76⟩
          case measure => simp [intOf]; omega
      · have hdi : decide ((i : Int) < (L : Int)) = false := by simp; omega
        have hdin : decide (i < L) = false := by simp; omega
        obtain rfl : i = L := by omega
        have hcn : cyN n t = 0 := cy_none hg.one HTT.out fun j x hj => HI2.out j x (by rw [← HL.out]; exact hj)
        have hz0 : ceT n l = 4 := by rw [ceT_ok h0, Ht.out, if_pos hcn]
        have hz1 : cyZ n l = [] := by rw [cyZ_ok h0, Ht.out, if_pos hcn]; rfl
        go_wp2
        go_ret2
        exact ⟨⟨_, by rw [hz0]; rfl, by rw [hz1]; exact Sl.nil _⟩, HB0.out _ hBr⟩
  · obtain ⟨z, Hz⟩ : ∃ z, Hid (tF s l = z) := ⟨_, rfl⟩
    have HBAD := cyZ_bad h0
    have HBE := ceT_bad h0
    rw [Hz.out] at C h0
    have hne : ((z : Int) != 0) = true := by simp; omega
    rw [← Hw0.out] at x0 x1
    clear HX hv b1 h
    go_enter Try.func23, Try.ntmps23
    go_wp2_with (first
      | (go_at_call 10; (try rw [Hw0.out]); refine C.mono ?_; rintro e w5 ⟨rfl, hb5⟩; clear C)
      | go_in)
    go_ret2
    exact ⟨⟨_, by rw [HBE, Hz.out]; rfl, by rw [HBAD]; exact Sl.nil _⟩, HB0.out _ hb5⟩
end Go.Proofs.Ytgkfddcmngodgaa
