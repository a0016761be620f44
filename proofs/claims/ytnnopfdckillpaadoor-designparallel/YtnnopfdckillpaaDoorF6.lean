/- The walk of Complement. -/
import Derived.Test.YtnnopfdckillpaaDoorF5
import Derived.Test.YtnnopfdckillpaaDoorE9
import Derived.Test.YtnnopfdckillpaaDoorLL
import Derived.Test.YtnnopfdckillpaaDoorDDu
namespace Go.Proofs.YtnnopfdckillpaaDoor
open Go.RowKit

/-- A row of sets of one's own, to be changed. -/
def OwnS (w : World) (g n : Nat) (f : Nat → Nat) : Prop := ∃ cur, w.heap[g]? = some (.cells cur 46 (0, 0)) ∧ ∀ j, j < n → cur[j]? = some (.int .u64 ((f j : Nat) : Int))
theorem OwnS.lt {w : World} {g n : Nat} {f : Nat → Nat} (h : OwnS w g n f) : g < w.heap.size := by
  obtain ⟨cur, h, _⟩ := h
  exact (Array.getElem?_eq_some_iff.1 h).1
theorem OwnS.cell {w : World} {g n : Nat} {f : Nat → Nat} (h : OwnS w g n f) (j : Nat) (hj : j < n) : w.cell? ⟨g, j, none⟩ = some (.int .u64 ((f j : Nat) : Int)) := by
  obtain ⟨cur, h, hc⟩ := h
  rw [cell_of_row w g j _ _ _ h, hc j hj]
theorem OwnS.frozen {w : World} {g n : Nat} {f : Nat → Nat} (h : OwnS w g n f) (j : Nat) : w.frozen? ⟨g, j, none⟩ = false := by
  obtain ⟨cur, h, _⟩ := h
  exact frozen_of_row w g j _ _ h
def updS (f : Nat → Nat) (i v : Nat) : Nat → Nat := fun j => if j = i then v else f j
theorem OwnS.set {w : World} {g n : Nat} {f : Nat → Nat} (h : OwnS w g n f) (i v : Nat) : OwnS (w.setCell ⟨g, i, none⟩ (.int .u64 (v : Int))) g n (updS f i v) := by
  obtain ⟨cur, h, hc⟩ := h
  refine ⟨_, heap_setCell_same w g i _ _ _ h, fun j hj => ?_⟩
  have hcj := hc j hj
  have hlt : j < cur.size := (Array.getElem?_eq_some_iff.1 hcj).1
  rw [Array.getElem?_setIfInBounds]
  by_cases e : i = j
  · subst e; rw [if_pos rfl, if_pos hlt]; simp [updS]
  · rw [if_neg e, hcj]; simp [updS, Ne.symm e]
theorem OwnS.congr {w : World} {g n : Nat} {f f' : Nat → Nat} (h : OwnS w g n f) (e : ∀ j, j < n → f j = f' j) : OwnS w g n f' := by
  obtain ⟨cur, h, hc⟩ := h
  exact ⟨cur, h, fun j hj => by rw [hc j hj, e j hj]⟩
theorem OwnS.sc {w : World} {g cap : Nat} {S : List Nat} (h : OwnS w g S.length fun j => S.getD j 0) (hc : S.length ≤ cap) (hm : cap ≤ maxLen) : SC w (.slice (some ⟨g, 0, none⟩) S.length cap) S :=
  ⟨_, cap, rfl, hc, hm, fun j hj => ⟨g, 0, rfl, fun W hW => by
    rw [Nat.zero_add]
    exact (hW.cell (p := ⟨g, j, none⟩) h.lt).trans (h.cell j hj)⟩⟩
theorem SRow.owns {w : World} {base : Nat} {v : Value} {S : List Nat} (h : SRow w base v S) (hne : 0 < S.length) : ∃ g cap, v = .slice (some ⟨g, 0, none⟩) S.length cap ∧ base ≤ g ∧ S.length ≤ cap ∧ cap ≤ maxLen ∧ OwnS w g S.length fun j => S.getD j 0 := by
  obtain ⟨_, ⟨rfl, hn⟩ | ⟨g, cap, cur, rfl, hb, hg, h1, h2, _, ht⟩⟩ := h
  · omega
  · refine ⟨g, cap, rfl, hb, h1, h2, cur, hg, fun j hj => ?_⟩
    have h3 : (cur.toList.take (S.length * 1))[j]? = (S.map fun s => Value.int .u64 ((s : Nat) : Int))[j]? := by rw [ht]
    rw [List.getElem?_take, if_pos (by omega)] at h3
    rw [← Array.getElem?_toList, h3]
    simp [hj]

/-! ### What is kept of all points -/
theorem pc_low {v x : Nat} (hx : x ≤ v) (hv : v ≤ 64) : pc ((2 ^ v - 1) &&& (2 ^ x - 1)) = x := by
  have e : pts ((2 ^ v - 1) &&& (2 ^ x - 1)) = List.range x := by
    have h1 : 2 ^ v - 1 < 2 ^ 64 := by
      have : 2 ^ v ≤ 2 ^ 64 := Nat.pow_le_pow_right (by decide) hv
      have : 0 < 2 ^ v := Nat.two_pow_pos v
      omega
    refine pts_ext List.pairwise_lt_range (Nat.lt_of_le_of_lt Nat.and_le_left h1) fun i => ?_
    rw [Nat.testBit_and, low_bit, low_bit, List.mem_range, Bool.and_eq_true, decide_eq_true_eq, decide_eq_true_eq]
    omega
  unfold pc
  rw [e, List.length_range]
theorem am_all {v z : Nat} (hv : v ≤ 64) (hz : ∀ x ∈ pts z, x < v) : amL (2 ^ v - 1) z = pts z := by
  unfold amL
  conv => rhs; rw [← List.map_id (pts z)]
  refine List.map_congr_left fun x hx => ?_
  rw [pc_low (Nat.le_of_lt (hz x hx)) hv]
  rfl
theorem pc_all {v : Nat} (hv : v ≤ 64) : pc (2 ^ v - 1) = v := by
  have := pc_low (Nat.le_refl v) hv
  rwa [Nat.and_self] at this
theorem low_lt {v n : Nat} (h : v ≤ n) : 2 ^ v - 1 < 2 ^ n := by
  have h1 : 2 ^ v ≤ 2 ^ n := Nat.pow_le_pow_right (by decide) h
  have : 0 < 2 ^ v := Nat.two_pow_pos v
  omega
theorem am_oth {v : Nat} {b : List Nat} (hv : v ≤ 40) (hb : ∀ x ∈ b, x < v) : amL (2 ^ v - 1) (an (2 ^ v - 1) (sb b) &&& (2 ^ v - 1)) = oth v b := by
  have h1 : 2 ^ v - 1 < 2 ^ 64 := low_lt (by omega)
  have h2 : sb b < 2 ^ 64 := sb_lt fun x hx => by have := hb x hx; omega
  have e : pts (an (2 ^ v - 1) (sb b) &&& (2 ^ v - 1)) = oth v b := by
    refine pts_ext (oth_rise v b) (Nat.lt_of_le_of_lt Nat.and_le_right h1) fun i => ?_
    rw [Nat.testBit_and, an_bit h1 h2, low_bit, sb_bit, oth_mem]
    by_cases hi : i < v
    · simp [hi]
    · simp [hi]
  rw [am_all (by omega) (by rw [e]; exact fun x hx => (oth_mem.1 hx).1), e]

set_option maxRecDepth 100000 in
set_option maxHeartbeats 4000000 in
theorem Complement_bad (p : Int) (ls : List (List Int)) (v : Value) (w : World) (hv : Rw w v ls) (hl : ls.length ≤ maxLen) (hll : ∀ l ∈ ls, l.length ≤ maxLen) (hz : dF p ls ≠ 0) :
    Calls Tryd.prog 8 #[.agg #[.int .i64 p, v]] w fun e w' => e = .returned (.tuple #[.agg #[.int .i64 0, .slice none 0 0], .int .i64 (dF p ls : Int)]) ∧ Below w.heap.size w w' := by
  have b0 := balloc w (.cells #[.int .i64 p, v] 24)
  obtain ⟨x0, x1⟩ := des_box p v w _ (balloc (w.alloc (.cells #[.int .i64 p, v] 24)) (.cells #[.int .i64 0, .slice none 0 0] 24))
  have b1 : Below w.heap.size w ((w.alloc (.cells #[.int .i64 p, v] 24)).alloc (.cells #[.int .i64 0, .slice none 0 0] 24)) := b0.alloc (by simp) _
  have hr := heap_alloc_new (w.alloc (.cells #[.int .i64 p, v] 24)) (.cells #[.int .i64 0, .slice none 0 0] 24)
  rw [World.size_alloc] at hr
  have C1 := open_any p ls v _ (hv.below b1) hl hll
  generalize dF p ls = z at *
  have hd : ((z : Int) != 0) = true := by simp; omega
  obtain ⟨w1, Hw1⟩ : ∃ w1, Hid (w1 = (w.alloc (.cells #[.int .i64 p, v] 24)).alloc (.cells #[.int .i64 0, .slice none 0 0] 24)) := ⟨_, rfl⟩
  have HR : Hid (∀ W, Below w1.heap.size w1 W → W.heap[w.heap.size + 1]? = some (.cells #[.int .i64 0, .slice none 0 0] 24 (0, 0))) := fun W hW => (hW.block _ (by rw [Hw1.out]; simp)).trans (by rw [Hw1.out]; exact hr)
  rw [← Hw1.out] at b1
  obtain ⟨ua, uc, eu⟩ := rw_form hv
  clear hv hl hll hr
  subst eu
  generalize ls.length = n at *
  go_enter Tryd.func8, Tryd.ntmps8
  go_wp2_with (go_at_call 24; refine C1.mono ?_; rintro e w3 ⟨⟨x, rfl, _, _⟩, hb3⟩; clear C1; rw [← Hw1.out] at hb3; have h5 := HR.out _ hb3; have y0 : w3.cell? ⟨w.heap.size + 1, 0, none⟩ = some (.int .i64 0) := (by rw [cell_of_row _ _ _ _ _ _ h5]; rfl); have y1 : w3.cell? ⟨w.heap.size + 1, 1, none⟩ = some (.slice none 0 0) := (by rw [cell_of_row _ _ _ _ _ _ h5]; rfl); have z0 : w3.frozen? ⟨w.heap.size + 1, 0, none⟩ = false := frozen_of_row _ _ _ _ _ h5; have z1 : w3.frozen? ⟨w.heap.size + 1, 1, none⟩ = false := frozen_of_row _ _ _ _ _ h5)
  have h6 := heap_setCell_same w3 (w.heap.size + 1) 0 _ 24 (.int .i64 0) h5
  have h7 := heap_setCell_same _ (w.heap.size + 1) 1 _ 24 (.slice none 0 0) h6
  exact post_d2 2 3 rfl rfl (by simpa using h7) rfl rfl ⟨rfl, ((Below.next b1 hb3).setCell (p := ⟨w.heap.size + 1, 0, none⟩) (by show _ ≤ w.heap.size + 1; omega) _).setCell (p := ⟨w.heap.size + 1, 1, none⟩) (by show _ ≤ w.heap.size + 1; omega) _⟩

/-- What a design's result box holds, once stored. -/
theorem res_store {w0 w3 : World} {r : Nat} {p : Nat} {y : Value} (h5 : w3.heap[r]? = some (.cells #[.int .i64 0, .slice none 0 0] 24 (0, 0))) (hn : w0.heap.size ≤ r) :
    ((w3.setCell ⟨r, 0, none⟩ (.int .i64 (p : Int))).setCell ⟨r, 1, none⟩ y).heap[r]? = some (.cells #[.int .i64 (p : Int), y] 24 (0, 0)) ∧ (∀ b, b ≠ r → ((w3.setCell ⟨r, 0, none⟩ (.int .i64 (p : Int))).setCell ⟨r, 1, none⟩ y).heap[b]? = w3.heap[b]?) ∧ Below w0.heap.size w3 ((w3.setCell ⟨r, 0, none⟩ (.int .i64 (p : Int))).setCell ⟨r, 1, none⟩ y) := by
  have h6 := heap_setCell_same w3 r 0 _ 24 (.int .i64 (p : Int)) h5
  have h7 := heap_setCell_same _ r 1 _ 24 y h6
  exact ⟨by simpa using h7, fun b hb => (heap_setCell_other _ ⟨r, 1, none⟩ b _ hb).trans (heap_setCell_other w3 ⟨r, 0, none⟩ b _ hb), ((Below.refl _ w3).setCell (p := ⟨r, 0, none⟩) hn _).setCell (p := ⟨r, 1, none⟩) hn _⟩
/-- Rows above a block abide its change. -/
theorem rw_above {w w' : World} {base r : Nat} {y : Value} {ls : List (List Nat)} (h : OR w base y ls) (hr : r < base) (k : ∀ b, b ≠ r → w'.heap[b]? = w.heap[b]?) : Rw w' y (toZ ls) := (h.keep fun b hb _ => k b (by omega)).rw

set_option maxRecDepth 100000 in
set_option maxHeartbeats 8000000 in
theorem Complement_good (v : Nat) (B : List (List Nat)) (u : Value) (w : World) (hT : Tab w) (G : GoodD v B) (hu : Rw w u (toZ B)) :
    Calls Tryd.prog 8 #[.agg #[.int .i64 (v : Int), u]] w fun e w' => ∃ y, e = .returned (.tuple #[.agg #[.int .i64 (v : Int), y], .int .i64 0]) ∧ Rw w' y (toZ (B.map (oth v))) ∧ Below w.heap.size w w' := by
  have b0 := balloc w (.cells #[.int .i64 (v : Int), u] 24)
  obtain ⟨x0, x1⟩ := des_box v u w _ (balloc (w.alloc (.cells #[.int .i64 (v : Int), u] 24)) (.cells #[.int .i64 0, .slice none 0 0] 24))
  have b1 : Below w.heap.size w ((w.alloc (.cells #[.int .i64 (v : Int), u] 24)).alloc (.cells #[.int .i64 0, .slice none 0 0] 24)) := b0.alloc (by simp) _
  have hr := heap_alloc_new (w.alloc (.cells #[.int .i64 (v : Int), u] 24)) (.cells #[.int .i64 0, .slice none 0 0] 24)
  rw [World.size_alloc] at hr
  have C1 := open_good v B u _ G (hu.below b1)
  obtain ⟨w1, Hw1⟩ : ∃ w1, Hid (w1 = (w.alloc (.cells #[.int .i64 (v : Int), u] 24)).alloc (.cells #[.int .i64 0, .slice none 0 0] 24)) := ⟨_, rfl⟩
  have s1 : w1.heap.size = w.heap.size + 2 := by rw [Hw1.out]; simp
  have HR : Hid (∀ W, Below w1.heap.size w1 W → W.heap[w.heap.size + 1]? = some (.cells #[.int .i64 0, .slice none 0 0] 24 (0, 0))) := fun W hW => (hW.block _ (by rw [s1]; omega)).trans (by rw [Hw1.out]; exact hr)
  have HV : Hid (∀ W, Below w1.heap.size w1 W → W.cell? ⟨w.heap.size, 0, none⟩ = some (.int .i64 (v : Int))) := fun W hW => (hW.cell (p := ⟨w.heap.size, 0, none⟩) (by show w.heap.size < _; rw [s1]; omega)).trans (by rw [Hw1.out]; exact x0)
  rw [← Hw1.out] at b1 C1
  have hv40 := G.le
  have HG : Hid (GoodD v B) := G
  have HS1 : Hid (w1.heap.size = w.heap.size + 2) := s1
  have hT1 : Hid (Tab w1) := hT.next b1
  have CB : Hid (∀ W, Calls Tryd.prog 25 #[.int .i64 (v : Int)] W fun e w' => e = .returned (.int .u64 ((2 ^ v - 1 : Nat) : Int)) ∧ w' = W) := fun W => below_any v (by omega) W
  have HW : Hid (∀ (t : Nat) W, t < 2 ^ 64 → Calls Tryd.prog 26 #[.int .u64 ((2 ^ v - 1 : Nat) : Int), .int .u64 (t : Int)] W fun e w' => e = .returned (.int .u64 ((an (2 ^ v - 1) t : Nat) : Int)) ∧ w' = W) := fun t W ht => without_any _ t (low_lt (by omega)) ht W
  have HAM : Hid (∀ (x : Value) (W : World), Tab W → SC W x (B.map fun b => an (2 ^ v - 1) (sb b)) → Calls Tryd.prog 27 #[.int .u64 ((2 ^ v - 1 : Nat) : Int), x] W fun e w' => ∃ y, e = .returned (.agg #[.int .i64 (v : Int), y]) ∧ OR w' (W.heap.size + 3) y (B.map (oth v)) ∧ Below W.heap.size W w') := fun x W hTW hx => by
    refine (among_any (2 ^ v - 1) _ x W hTW hx (by rw [List.length_map]; exact G.few) (fun q hq => ?_) (low_lt (by omega))).mono ?_
    · obtain ⟨b, _, rfl⟩ := List.mem_map.1 hq
      exact Nat.lt_of_le_of_lt (an_le _ _) (low_lt (by omega))
    · rintro e w' ⟨y, rfl, h1, h2⟩
      rw [pc_all (by omega)]
      refine ⟨y, rfl, ?_, h2⟩
      have e1 : (B.map fun b => an (2 ^ v - 1) (sb b)).map (fun y => amL (2 ^ v - 1) (y &&& (2 ^ v - 1))) = B.map (oth v) := by
        rw [List.map_map]
        exact List.map_congr_left fun b hb => am_oth hv40 (G.bls b hb).lt
      rw [e1] at h1
      exact h1
  obtain ⟨al, Hal⟩ : ∃ al, Hid (2 ^ v - 1 = al) := ⟨_, (rfl : 2 ^ v - 1 = 2 ^ v - 1)⟩
  rw [Hal.out] at CB HW HAM
  obtain ⟨ua, uc, eu⟩ := rw_form hu
  have h200 := G.few
  clear hu hr s1 G hT b0
  subst eu
  go_enter Tryd.func8, Tryd.ntmps8
  go_wp2_with (first
    | (go_at_call 24; rw [← Hw1.out]; refine C1.mono ?_; rintro e w3 ⟨⟨x, rfl, hrow⟩, hb3⟩; clear C1; have y0 := HV.out _ hb3; obtain ⟨xa, xc, ex⟩ := own_formE hrow; have HROW : Hid (SRow w3 (w1.heap.size + 1) x (B.map sb)) := hrow; clear hrow; subst ex)
    | (go_at_call 25; refine (CB.out _).mono ?_; rintro e w4 ⟨rfl, hw4⟩; replace hw4 := hw4.symm; subst hw4))
  have HX0 : Hid (B.length = 0 ∨ ∃ g, xa = some ⟨g, 0, none⟩ ∧ w1.heap.size < g ∧ B.length ≤ xc ∧ xc ≤ maxLen ∧ OwnS w3 g B.length fun j => if j < 0 then an al (sb (B.getD j [])) else sb (B.getD j [])) := by
    rcases Nat.eq_zero_or_pos B.length with h | h
    · exact .inl h
    · obtain ⟨g, cap, e, h1, h2, h3, h4⟩ := HROW.out.owns (by rw [List.length_map]; exact h)
      rw [List.length_map] at h2 h4
      simp only [Value.slice.injEq] at e
      obtain ⟨rfl, _, rfl⟩ := e
      exact .inr ⟨g, rfl, by omega, h2, h3, h4.congr fun j hj => by rw [if_neg (by omega)]; rw [List.getD_eq_getElem?_getD, List.getD_eq_getElem?_getD, List.getElem?_map, List.getElem?_eq_getElem hj]; rfl⟩
  have HSB : Hid (∀ j, j < B.length → sb (B.getD j []) < 2 ^ 64) := fun j hj => sb_lt fun x hx => by
    have hm : B.getD j [] ∈ B := by rw [List.getD_eq_getElem?_getD, List.getElem?_eq_getElem hj]; exact List.getElem_mem hj
    have := (HG.out.bls _ hm).lt x hx
    omega
  have HSC : Hid (∀ g wr, B.length ≤ xc → xc ≤ maxLen → OwnS wr g B.length (fun j => an al (sb (B.getD j []))) → SC wr (.slice (some ⟨g, 0, none⟩) B.length xc) (B.map fun b => an al (sb b))) := fun g wr h1 h2 h3 => by
    have := OwnS.sc (w := wr) (g := g) (cap := xc) (S := B.map fun b => an al (sb b)) (by rw [List.length_map]; exact h3.congr fun j hj => by rw [List.getD_eq_getElem?_getD, List.getD_eq_getElem?_getD, List.getElem?_map, List.getElem?_eq_getElem hj]; rfl) (by rw [List.length_map]; exact h1) h2
    rwa [List.length_map] at this
  have HSC0 : Hid (∀ wr, B.length = 0 → SC wr (.slice xa B.length xc) (B.map fun b => an al (sb b))) := fun wr h => by
    have : B = [] := List.length_eq_zero_iff.1 h
    subst this
    have hc : xc ≤ maxLen := by
      obtain ⟨_, ⟨e, _⟩ | ⟨g, cap, cur, e, _, _, _, h2, _⟩⟩ := HROW.out
      · simp only [Value.slice.injEq] at e; rw [e.2.2]; exact Nat.zero_le _
      · simp only [Value.slice.injEq] at e; rw [e.2.2]; exact h2
    exact ⟨xa, xc, rfl, Nat.zero_le _, hc, fun j hj => by simp at hj⟩
  generalize hn : B.length = n at *
  clear HROW y0 x0 x1
  go_loopw [23] (fun iv wr => ∃ i : Nat, iv = .int .i64 (i : Int) ∧ i ≤ n ∧ Hid (n = 0 ∨ ∃ g, xa = some ⟨g, 0, none⟩ ∧ w1.heap.size < g ∧ n ≤ xc ∧ xc ≤ maxLen ∧ OwnS wr g n fun j => if j < i then an al (sb (B.getD j [])) else sb (B.getD j [])) ∧ Below w1.heap.size w1 wr) (fun iv _ => (n - intOf iv).toNat)
  case atStart => exact ⟨0, rfl, by omega, HX0, hb3⟩
  case round =>
    clear HX0 hb3
    obtain ⟨i, rfl, hi, HX, hb⟩ := hrel
    by_cases hlt : i < n
    · have hd : decide ((i : Int) < (n : Int)) = true := by simp; omega
      have hii : (i : Int) < (n : Int) := by omega
      rcases HX.out with h | ⟨g, rfl, hg, hc1, hc2, hO⟩
      · omega
      · have hci := hO.cell i hlt
        rw [if_neg (by omega)] at hci
        have hfz := hO.frozen i
        have CW := HW.out (sb (B.getD i [])) wr (HSB.out i hlt)
        have hset := (hO.set i (an al (sb (B.getD i [])))).congr (f' := fun j => if j < i + 1 then an al (sb (B.getD j [])) else sb (B.getD j [])) fun j hj => by
          unfold updS
          by_cases e : j = i
          · subst e; rw [if_pos rfl, if_pos (by omega)]
          · rw [if_neg e]
            show (if j < i then _ else _) = _
            by_cases e2 : j < i
            · rw [if_pos e2, if_pos (by omega)]
            · rw [if_neg e2, if_neg (by omega)]
        have hset2 : ∀ W, W = wr.setCell ⟨g, i, none⟩ (.int .u64 ((an al (sb (B.getD i [])) : Nat) : Int)) → OwnS W g n (fun j => if j < i + 1 then an al (sb (B.getD j [])) else sb (B.getD j [])) := fun W e => by rw [e]; exact hset
        obtain ⟨y, Hy⟩ : ∃ y, Hid (sb (B.getD i []) = y) := ⟨_, rfl⟩
        rw [Hy.out] at hci CW hset2
        obtain ⟨q, Hq⟩ : ∃ q, Hid (an al y = q) := ⟨_, rfl⟩
        rw [Hq.out] at CW hset2
        have HSET : Hid (∀ W, W = wr.setCell ⟨g, i, none⟩ (.int .u64 (q : Int)) → OwnS W g n (fun j => if j < i + 1 then an al (sb (B.getD j [])) else sb (B.getD j []))) := hset2
        have hb2 : Below w1.heap.size w1 (wr.setCell ⟨g, i, none⟩ (.int .u64 (q : Int))) := hb.setCell (p := ⟨g, i, none⟩) (by show _ ≤ g; omega) _
        clear hset hset2 hO HX
        go_wp2_with (go_at_call 26; refine CW.mono ?_; rintro e w4 ⟨rfl, hw4⟩; replace hw4 := hw4.symm; subst hw4; clear CW)
        go_roundw
        case rel => exact ⟨i + 1, by go_num, by omega, (show _ ∨ _ from .inr ⟨g, rfl, hg, hc1, hc2, HSET.out _ rfl⟩), hb2⟩
        case measure => simp [intOf]; omega
    · have hd : decide ((i : Int) < (n : Int)) = false := by simp; omega
      obtain rfl : i = n := by omega
      have hsc : SC wr (.slice xa i xc) (B.map fun b => an al (sb b)) := by
        rcases HX.out with h | ⟨g, rfl, hg, hc1, hc2, hO⟩
        · exact HSC0.out wr h
        · exact HSC.out g wr hc1 hc2 (hO.congr fun j hj => by rw [if_pos hj])
      have CA := HAM.out _ wr (hT1.out.next hb) hsc
      have s1 := HS1.out
      have hle := hb.size
      clear HX HSC HSC0 hsc
      clear s1
      go_wp2_with (go_at_call 27; refine CA.mono ?_; rintro e w5 ⟨y, rfl, hy, hb5⟩; clear CA; have hb6 := Below.next hb hb5; have h5 := HR.out _ hb6; have z0 : w5.frozen? ⟨w.heap.size + 1, 0, none⟩ = false := frozen_of_row _ _ _ _ _ h5; have z1 : w5.frozen? ⟨w.heap.size + 1, 1, none⟩ = false := frozen_of_row _ _ _ _ _ h5; have y0 : w5.cell? ⟨w.heap.size + 1, 0, none⟩ = some (.int .i64 0) := (by rw [cell_of_row _ _ _ _ _ _ h5]; rfl); have y1 : w5.cell? ⟨w.heap.size + 1, 1, none⟩ = some (.slice none 0 0) := (by rw [cell_of_row _ _ _ _ _ _ h5]; rfl); obtain ⟨ya, yc, ey⟩ := hy.cap; subst ey)
      have s1 := HS1.out
      have hlm : (B.map (oth v)).length = i := by rw [List.length_map]; exact hn
      rw [hlm] at hy
      obtain ⟨t1, t2, t3⟩ := res_store (w0 := w) (p := v) (y := .slice ya i yc) h5 (by omega)
      exact post_d2 2 3 rfl rfl t1 rfl rfl ⟨_, rfl, rw_above (r := w.heap.size + 1) hy (by omega) t2, (b1.trans (hb6.mono b1.size)).trans t3⟩

end Go.Proofs.YtnnopfdckillpaaDoor
