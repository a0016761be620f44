/- The walk of the document's GrowFault. -/
import Derived.Test.YtdeofjmgjhfkcaaY5
import Derived.Test.YtdeofjmgjhfkcaaB5
import Derived.Test.YtdeofjmgjhfkcaaQ1
import Derived.Test.YtdeofjmgjhfkcaaDTo
/- The walk of Grow. -/
namespace Go.Proofs.Ytdeofjmgjhfkcaa
open Go.RowKit

/-- What Grow tells. -/
def GoT (v : Int) (ls : List (List Int)) (p f : Int) (Z : List (List Nat)) : Prop := (GfT v ls f ∧ f ≠ 0 ∧ p = 0 ∧ Z = []) ∨ (∃ (n : Nat) (L : List (List Nat)), v = n ∧ ls = toZ L ∧ Pk n L ∧ 1 ≤ n ∧ n ≤ 9 ∧ ls.length ≤ 200 ∧ ((gr n 12 L = none ∧ f = 4 ∧ p = 0 ∧ Z = []) ∨ (∃ R, gr n 12 L = some R ∧ f = 0 ∧ p = n ∧ Srtd R Z)))
def GoP (v : Int) (ls : List (List Int)) (w : World) (e : Ending) (w' : World) : Prop := ∃ x Z p f, e = .returned (.tuple #[.agg #[.int .i64 p, x], .int .i64 f]) ∧ GoT v ls p f Z ∧ Rw w' x (toZ Z) ∧ Below w.heap.size w w'
theorem rw_nil0 (w : World) : Rw w (.slice none 0 0) (toZ []) := ⟨none, 0, rfl, fun i l h => by simp [toZ] at h⟩
theorem GoP.bad {v f : Int} {ls : List (List Int)} {w w' : World} (h : GfT v ls f) (hf : f ≠ 0) (hb : Below w.heap.size w w') : GoP v ls w (.returned (.tuple #[.agg #[.int .i64 0, .slice none 0 0], .int .i64 f])) w' := ⟨_, [], 0, f, rfl, .inl ⟨h, hf, rfl, rfl⟩, rw_nil0 _, hb⟩
theorem rows_any {w : World} {u : Value} {ls : List (List Int)} (hu : Rw w u ls) : ∃ a cap, u = .slice a ls.length cap ∧ ∀ i, i < ls.length → ∃ l b off r, ls[i]? = some l ∧ a = some ⟨b, off, none⟩ ∧ ∀ W, Below w.heap.size w W → W.cell? ⟨b, off + i, none⟩ = some r ∧ Sl W r l := by
  obtain ⟨a, cap, rfl, h⟩ := hu
  refine ⟨a, cap, rfl, fun i hi => ?_⟩
  obtain ⟨b, off, r, e, hc, hs⟩ := h i _ (List.getElem?_eq_getElem hi)
  exact ⟨_, b, off, r, List.getElem?_eq_getElem hi, e, fun W hW => ⟨(hW.cell (World.block_lt_of_cell? _ _ hc)).trans hc, hs.below hW⟩⟩
theorem sl_thr {w : World} {r : Value} {x y z : Nat} (h : Sl w r ([x, y, z].map Int.ofNat)) : ∃ rq ro rc, r = .slice (some ⟨rq, ro, none⟩) 3 rc ∧ ∀ W, Below w.heap.size w W → W.cell? ⟨rq, ro, none⟩ = some (.int .i64 (x : Int)) ∧ W.cell? ⟨rq, ro + 1, none⟩ = some (.int .i64 (y : Int)) ∧ W.cell? ⟨rq, ro + 2, none⟩ = some (.int .i64 (z : Int)) := by
  obtain ⟨a, cap, rfl, h⟩ := h
  obtain ⟨b, off, rfl, h0⟩ := h 0 (by simp)
  obtain ⟨b1, o1, e1, h1⟩ := h 1 (by simp)
  obtain ⟨b2, o2, e2, h2⟩ := h 2 (by simp)
  cases e1
  cases e2
  exact ⟨b, off, cap, rfl, fun W hW => ⟨(hW.cell (World.block_lt_of_cell? _ _ h0)).trans h0, (hW.cell (World.block_lt_of_cell? _ _ h1)).trans h1, (hW.cell (World.block_lt_of_cell? _ _ h2)).trans h2⟩⟩
theorem tc_nil (i : Nat) : tc [] i = false := by unfold tc cv; simp
theorem gR_nil (v : Nat) : gR v (tc []) = gR v (fun _ => false) := gR_congr fun i _ => tc_nil i
theorem zero_cells (v : Nat) : Try.zeroCells64.setIfInBounds 1 (.int .i64 (v : Int)) = (.slice none 0 0 :: gR v (fun _ => false)).toArray := by kernel_rfl
theorem Gr.kp_rows {w w0 w2 wr : World} {base gb : Nat} (hb : Below w.heap.size w w2) (hg : w.heap.size ≤ gb) (h : Kp base gb w2 wr) (_ : w0 = w0) : Below w.heap.size w wr := hb.trans (h.lo.mono hg)
set_option maxRecDepth 100000 in
set_option maxHeartbeats 4000000 in
theorem Grow_far (v : Int) (ls : List (List Int)) (n : Nat) (u : Value) (w : World) (hu : ∃ a c, u = .slice a n c) (h : v < 1 ∨ 9 < v) : Calls Try.prog 21 #[.int .i64 v, u] w (GoP v ls w) := by
  have hr := heap_alloc_new w (.cells #[.int .i64 0, .slice none 0 0] 24)
  have HB0 : Hid (Below w.heap.size w (w.alloc (.cells #[.int .i64 0, .slice none 0 0] 24))) := balloc w _
  have H7 : Hid (_ ∧ _) := res_none hr HB0.out (Nat.le_refl _)
  have H8 : Hid (_ ∧ Below w.heap.size w _) := ⟨hr, HB0.out⟩
  have HG : Hid (GfT v ls 1) := .inl ⟨rfl, h⟩
  have z0 := frozen_of_row _ _ 0 _ _ hr
  have z1 := frozen_of_row _ _ 1 _ _ hr
  have y0 := cell_of_row _ _ 0 _ _ _ hr
  have y1 := cell_of_row _ _ 1 _ _ _ hr
  obtain ⟨ua, uc, rfl⟩ := hu
  clear hr
  by_cases h1 : v < 1
  · have hd : decide (v < 1) = true := decide_eq_true h1
    clear h
    go_enter Try.func21, Try.ntmps21
    go_wp2
    first
      | exact post_d2 4 5 rfl rfl H8.out.1 rfl rfl (GoP.bad HG.out (by omega) H8.out.2)
      | exact post_d2 4 5 rfl rfl H7.out.1 rfl rfl (GoP.bad HG.out (by omega) H7.out.2)
  · have hd : decide (v < 1) = false := decide_eq_false h1
    have h2 : 9 < v := h.resolve_left h1
    have hd2 : decide (9 < v) = true := decide_eq_true h2
    have hd3 : decide (v > 9) = true := decide_eq_true h2
    clear h
    go_enter Try.func21, Try.ntmps21
    go_wp2
    first
      | exact post_d2 4 5 rfl rfl H8.out.1 rfl rfl (GoP.bad HG.out (by omega) H8.out.2)
      | exact post_d2 4 5 rfl rfl H7.out.1 rfl rfl (GoP.bad HG.out (by omega) H7.out.2)
set_option maxRecDepth 100000 in
set_option maxHeartbeats 4000000 in
theorem Grow_many (v : Int) (ls : List (List Int)) (u : Value) (w : World) (hu : ∃ a c, u = .slice a ls.length c) (h1 : 1 ≤ v) (h9 : v ≤ 9) (hl : ls.length ≤ maxLen) (h2 : 200 < ls.length) : Calls Try.prog 21 #[.int .i64 v, u] w (GoP v ls w) := by
  have hr := heap_alloc_new w (.cells #[.int .i64 0, .slice none 0 0] 24)
  have HB0 : Hid (Below w.heap.size w (w.alloc (.cells #[.int .i64 0, .slice none 0 0] 24))) := balloc w _
  have H7 : Hid (_ ∧ _) := res_none hr HB0.out (Nat.le_refl _)
  have H8 : Hid (_ ∧ Below w.heap.size w _) := ⟨hr, HB0.out⟩
  have HG : Hid (GfT v ls 3) := .inr (.inl ⟨rfl, h1, h9, h2⟩)
  have z0 := frozen_of_row _ _ 0 _ _ hr
  have z1 := frozen_of_row _ _ 1 _ _ hr
  have y0 := cell_of_row _ _ 0 _ _ _ hr
  have y1 := cell_of_row _ _ 1 _ _ _ hr
  obtain ⟨ua, uc, rfl⟩ := hu
  unfold maxLen at hl
  obtain ⟨n, Hn⟩ : ∃ n, Hid (ls.length = n) := ⟨_, rfl⟩
  rw [Hn.out] at h2 hl ⊢
  have hd : decide (v < 1) = false := decide_eq_false (by omega)
  have hd2 : decide (9 < v) = false := decide_eq_false (by omega)
  have hd3 : decide (v > 9) = false := decide_eq_false (by omega)
  have hd4 : decide ((200 : Int) < (n : Int)) = true := decide_eq_true (by omega)
  have hd5 : decide ((n : Int) > 200) = true := decide_eq_true (by omega)
  have h6 : ¬ v < 1 := by omega
  have h7 : ¬ 9 < v := by omega
  have h8 : (200 : Int) < (n : Int) := by omega
  clear hr
  go_enter Try.func21, Try.ntmps21
  go_wp2
  first
    | exact post_d2 4 5 rfl rfl H8.out.1 rfl rfl (GoP.bad HG.out (by omega) H8.out.2)
    | exact post_d2 4 5 rfl rfl H7.out.1 rfl rfl (GoP.bad HG.out (by omega) H7.out.2)
set_option maxRecDepth 100000 in
set_option maxHeartbeats 16000000 in
theorem Grow_in (v : Nat) (ls : List (List Int)) (u : Value) (w : World) (h1 : 1 ≤ v) (h9 : v ≤ 9) (hl : ls.length ≤ 200) (hll : ∀ l ∈ ls, l.length ≤ maxLen) (hu : Rw w u ls) : Calls Try.prog 21 #[.int .i64 (v : Int), u] w (GoP (v : Int) ls w) := by
  obtain ⟨a, cap, rfl, hrows⟩ := rows_any hu
  have HROW : Hid (∀ i, i < ls.length → ∃ l b off r, ls[i]? = some l ∧ a = some ⟨b, off, none⟩ ∧ ∀ W, Below w.heap.size w W → W.cell? ⟨b, off + i, none⟩ = some r ∧ Sl W r l) := hrows
  have HBAD : Hid (∀ (i : Nat) (l : List Int) (f : Nat), ls[i]? = some l → (∀ (j : Nat) (l' : List Int), j < i → ls[j]? = some l' → tF (v : Int) l' = 0) → tF (v : Int) l = f → f ≠ 0 → GfT (v : Int) ls (f : Int)) := fun i l f h2 h3 h4 h5 => .inr (.inr (.inl ⟨by omega, by omega, hl, i, l, h2, h3, by rw [h4], by omega⟩))
  have HALL : Hid ((∀ (j : Nat) (l' : List Int), j < ls.length → ls[j]? = some l' → tF (v : Int) l' = 0) → ∃ L, ls = toZ L ∧ Rise3 v L) := fun h => all_rise fun l hl' => by
    obtain ⟨j, hj⟩ := List.getElem?_of_mem hl'
    exact h j l (List.getElem?_eq_some_iff.1 hj).1 hj
  have HMK : Hid (∀ L, ls = toZ L → Rise3 v L → ¬ Pk v L → GfT (v : Int) ls 6) := fun L e hR hp => .inr (.inr (.inr ⟨hl, v, L, rfl, h1, h9, e, hR, .inl ⟨hp, rfl⟩⟩))
  have HOK : Hid (∀ L p f Z, ls = toZ L → Pk v L → ((gr v 12 L = none ∧ f = 4 ∧ p = 0 ∧ Z = []) ∨ (∃ R, gr v 12 L = some R ∧ f = 0 ∧ p = ((v : Nat) : Int) ∧ Srtd R Z)) → GoT (v : Int) ls p f Z) := fun L p f Z e hp h => .inr ⟨v, L, rfl, e, hp, h1, h9, hl, h⟩
  have HCT : Hid (∀ (l : List Int) (r : Value) (W : World), l ∈ ls → Sl W r l → Calls Try.prog 40 #[.int .i64 (v : Int), r] W fun e w' => e = .returned (.int .i64 (tF (v : Int) l : Int)) ∧ Below W.heap.size W w') := fun l r W hm hs => checkTriple_any v h1 h9 l r W hs (hll l hm)
  have hr0 := heap_alloc_new w (.cells #[.int .i64 0, .slice none 0 0] 24)
  have HB0 : Hid (Below w.heap.size w (w.alloc (.cells #[.int .i64 0, .slice none 0 0] 24))) := balloc w _
  have HT : Hid (∀ W, Below (w.heap.size + 1) (w.alloc (.cells #[.int .i64 0, .slice none 0 0] 24)) W → W.heap[w.heap.size]? = some (.cells #[.int .i64 0, .slice none 0 0] 24 (0, 0)) ∧ Below w.heap.size w W) := fun W h => ⟨(h.block _ (by omega)).trans hr0, HB0.out.trans (h.mono (by omega))⟩
  have HBS : Hid (Below (w.heap.size + 1) (w.alloc (.cells #[.int .i64 0, .slice none 0 0] 24)) (w.alloc (.cells #[.int .i64 0, .slice none 0 0] 24))) := Below.refl _ _
  have HNI : Hid (∀ (W : World), Below (w.heap.size + 1) (w.alloc (.cells #[.int .i64 0, .slice none 0 0] 24)) W → _) := fun W h => res_none (HT.out W h).1 (HT.out W h).2 (Nat.le_refl _)
  have HTL : Hid (∀ l ∈ ls, l.length ≤ maxLen) := hll
  have HTA0 : Hid (∀ (j : Nat) (l' : List Int), j < 0 → ls[j]? = some l' → tF (v : Int) l' = 0) := fun j l' h => by omega
  have hd : decide ((v : Int) < 1) = false := decide_eq_false (by omega)
  have hd2 : decide (9 < (v : Int)) = false := decide_eq_false (by omega)
  have hd3 : decide ((v : Int) > 9) = false := decide_eq_false (by omega)
  have h6 : ¬ (v : Int) < 1 := by omega
  have h7 : ¬ 9 < (v : Int) := by omega
  generalize hn : ls.length = n at *
  have hd4 : decide ((200 : Int) < (n : Int)) = false := decide_eq_false (by omega)
  have hd5 : decide ((n : Int) > 200) = false := decide_eq_false (by omega)
  have h8 : ¬ (200 : Int) < (n : Int) := by omega
  obtain ⟨w0, Hw0⟩ : ∃ w0, Hid (w0 = (w.alloc (.cells #[.int .i64 0, .slice none 0 0] 24))) := ⟨_, rfl⟩
  rw [← Hw0.out] at HB0 HT HBS HNI
  clear hrows hu hll hr0
  go_enter Try.func21, Try.ntmps21
  go_wp2
  rw [← Hw0.out]
  go_loopw [25] (fun iv wr => ∃ (i : Nat), iv = .int .i64 (i : Int) ∧ i ≤ n ∧ Hid (∀ (j : Nat) (l' : List Int), j < i → ls[j]? = some l' → tF (v : Int) l' = 0) ∧ Below (w.heap.size + 1) w0 wr) (fun iv _ => (n - intOf iv).toNat)
  case atStart => exact ⟨0, rfl, by omega, HTA0, HBS.out⟩
  case round =>
    clear HTA0 HBS
    obtain ⟨i, rfl, hi, HTA, hB⟩ := hrel
    by_cases hlt : i < n
    · have hdi : decide ((i : Int) < (n : Int)) = true := by simp; omega
      have hii : (i : Int) < (n : Int) := by omega
      have hni : ¬ (n : Int) ≤ (i : Int) := by omega
      obtain ⟨l, b, off, r, hli, rfl, hrow⟩ := HROW.out i hlt
      obtain ⟨rc, hs⟩ := hrow wr (HT.out wr hB).2
      have CT := HCT.out l r wr (List.mem_of_getElem? hli) hs
      obtain ⟨f, Hf⟩ : ∃ f, Hid (tF (v : Int) l = f) := ⟨_, rfl⟩
      rw [Hf.out] at CT
      have HC : Hid (Calls Try.prog 40 #[.int .i64 (v : Int), r] wr fun e w' => e = .returned (.int .i64 (f : Int)) ∧ Below wr.heap.size wr w') := CT
      have HW : Hid (∀ W, Below wr.heap.size wr W → Below (w.heap.size + 1) w0 W) := fun W h => hB.trans (h.mono (by have := hB.size; have := HB0.out.size; rw [Hw0.out] at this; rw [World.size_alloc] at this; rw [Hw0.out, World.size_alloc] at *; omega))
      obtain ⟨ra, rcap, rfl, _⟩ := id hs
      by_cases hf : f ≠ 0
      · have HG : Hid (GfT (v : Int) ls (f : Int)) := HBAD.out i l f hli HTA.out Hf.out hf
        have g1 : ((f : Int) != 0) = true := by simp; omega
        have g2 : ¬ (f : Int) = 0 := by omega
        generalize l.length = ll at *
        clear hrow hs CT hB HTA
        go_wp2_with (go_at_call 40; refine HC.out.mono ?_; rintro e w1 ⟨rfl, hb⟩; clear HC; have hB1 := HW.out w1 hb; have H7 : Hid (_ ∧ _) := HNI.out w1 hB1; have H8 : Hid (_ ∧ _) := HT.out w1 hB1; have hr := H8.out.1; have z0 := frozen_of_row _ _ 0 _ _ hr; have z1 := frozen_of_row _ _ 1 _ _ hr; have y0 := cell_of_row _ _ 0 _ _ _ hr; have y1 := cell_of_row _ _ 1 _ _ _ hr; clear hr hb hB1)
        first
          | exact post_d2 4 5 rfl rfl H8.out.1 rfl rfl (GoP.bad HG.out (by omega) H8.out.2)
          | exact post_d2 4 5 rfl rfl H7.out.1 rfl rfl (GoP.bad HG.out (by omega) H7.out.2)
      · have hf0 : f = 0 := by omega
        subst hf0
        have HT2 : Hid (∀ (j : Nat) (l' : List Int), j < i + 1 → ls[j]? = some l' → tF (v : Int) l' = 0) := fun j l' hj he => by
          by_cases e : j = i
          · subst e
            rw [hli] at he
            cases he
            exact Hf.out
          · exact HTA.out j l' (by omega) he
        generalize l.length = ll at *
        clear hrow hs CT hB HTA
        go_wp2_with (go_at_call 40; refine HC.out.mono ?_; rintro e w1 ⟨rfl, hb⟩; clear HC; have hB1 := HW.out w1 hb; clear hb)
        go_roundw
        case rel => exact ⟨i + 1, by go_num, by omega, HT2, hB1⟩
        case measure => simp [intOf]; omega
    · have hdi : decide ((i : Int) < (n : Int)) = false := by simp; omega
      have hii : ¬ (i : Int) < (n : Int) := by omega
      obtain rfl : i = n := by omega
      obtain ⟨L, hLs, hR⟩ := HALL.out HTA.out
      have hnL : L.length = i := by rw [← hn, hLs]; simp [toZ]
      have HR3 : Hid (Rise3 v L) := hR
      have HLS : Hid (ls = toZ L) := hLs
      have hgbs : w.heap.size + 1 ≤ wr.heap.size := by have := hB.size; have e := congrArg (fun w : World => w.heap.size) Hw0.out; simp at e; omega
      have HBg : Hid (Below (w.heap.size + 1) w0 wr) := hB
      have hgr0 : Gr (wr.alloc (.cells (.slice none 0 0 :: gR v (fun _ => false)).toArray 64)) (wr.heap.size + 1) wr.heap.size v [] := by
        refine ⟨.slice none 0 0, ?_, OR.nil _ _, by omega, by simp⟩
        rw [gR_nil]
        exact heap_alloc_new wr _
      have HG0 : Hid (Gr (wr.alloc (.cells (.slice none 0 0 :: gR v (fun _ => false)).toArray 64)) (wr.heap.size + 1) wr.heap.size v (L.take 0)) := hgr0
      have HBG : Hid (Below wr.heap.size wr (wr.alloc (.cells (.slice none 0 0 :: gR v (fun _ => false)).toArray 64))) := balloc wr _
      have HZC : Hid (Try.zeroCells64.setIfInBounds 1 (.int .i64 (v : Int)) = (.slice none 0 0 :: gR v (fun _ => false)).toArray) := zero_cells v
      have HG2 : Hid (∀ L' : List (List Nat), L' = L.take i → L' = L) := fun L' e => by rw [e, ← hnL, List.take_length]
      clear hgr0 hR hLs hB
      go_wp2
      rw [HZC.out]
      obtain ⟨w3, Hw3⟩ : ∃ w3, Hid (w3 = wr.alloc (.cells (.slice none 0 0 :: gR v (fun _ => false)).toArray 64)) := ⟨_, rfl⟩
      rw [← Hw3.out] at HG0 HBG ⊢
      have HWW : Hid (∀ W, Kp (wr.heap.size + 1) wr.heap.size w3 W → W.heap[w.heap.size]? = some (.cells #[.int .i64 0, .slice none 0 0] 24 (0, 0)) ∧ Below w.heap.size w W) := fun W h => by
        obtain ⟨k1, k2⟩ := HT.out w3 (HBg.out.trans (HBG.out.mono hgbs))
        exact ⟨(h.lo.block _ (by omega)).trans k1, k2.trans (h.lo.mono (by omega))⟩
      have HNW : Hid (∀ W, Kp (wr.heap.size + 1) wr.heap.size w3 W → _) := fun W h => res_none (HWW.out W h).1 (HWW.out W h).2 (Nat.le_refl _)
      generalize hgb : wr.heap.size = gb at *
      have HP0 : Hid (Pk v (L.take 0)) := Pk.nil v
      have HK0 : Hid (Kp (gb + 1) gb w3 w3) := Kp.refl _ _ _
      clear Hw3 HBG HBg HZC HT HNI HCT HBAD HALL hgb hdi hii hd4 hd5 h8
      go_loopw [42] (fun iv wr => ∃ (k : Nat), iv = .int .i64 (k : Int) ∧ k ≤ i ∧ Hid (Pk v (L.take k)) ∧ Gr wr (gb + 1) gb v (L.take k) ∧ Kp (gb + 1) gb w3 wr) (fun iv _ => (i - intOf iv).toNat)
      case atStart => exact ⟨0, rfl, by omega, HP0, HG0.out, HK0.out⟩
      case round =>
        clear HP0 HG0 HK0
        obtain ⟨k, rfl, hk, HP, hG, hK⟩ := hrel
        by_cases hlk : k < i
        · have hdk : decide ((k : Int) < (i : Int)) = true := by simp; omega
          have hki : (k : Int) < (i : Int) := by omega
          have hnk : ¬ (i : Int) ≤ (k : Int) := by omega
          obtain ⟨l, b, off, r, hli, rfl, hrow⟩ := HROW.out k hlk
          obtain ⟨c, hc⟩ : ∃ c, L[k]? = some c := ⟨_, List.getElem?_eq_getElem (by omega)⟩
          obtain ⟨x, y, z, rfl, hxy, hyz, hzv⟩ := HR3.out c (List.mem_of_getElem? hc)
          have hl2 : l = [x, y, z].map Int.ofNat := by
            rw [HLS.out] at hli
            unfold toZ at hli
            rw [List.getElem?_map, hc] at hli
            exact (Option.some.inj hli).symm
          subst hl2
          obtain ⟨rc0, hs⟩ := hrow wr (HWW.out wr hK).2
          obtain ⟨rq, ro, rc, rfl, hcell⟩ := sl_thr hs
          have HCE : Hid (∀ W, Below wr.heap.size wr W → W.cell? ⟨rq, ro, none⟩ = some (.int .i64 (x : Int)) ∧ W.cell? ⟨rq, ro + 1, none⟩ = some (.int .i64 (y : Int)) ∧ W.cell? ⟨rq, ro + 2, none⟩ = some (.int .i64 (z : Int))) := hcell
          obtain ⟨_, hsw⟩ := hrow w (Below.refl _ _)
          obtain ⟨rq2, ro2, rc2, er, hcw⟩ := sl_thr hsw
          cases er
          have HCW : Hid (∀ W, Kp (gb + 1) gb w3 W → W.cell? ⟨rq, ro, none⟩ = some (.int .i64 (x : Int)) ∧ W.cell? ⟨rq, ro + 1, none⟩ = some (.int .i64 (y : Int)) ∧ W.cell? ⟨rq, ro + 2, none⟩ = some (.int .i64 (z : Int))) := fun W h => hcw W (HWW.out W h).2
          have hGd : Gr wr.drew (gb + 1) gb v (L.take k) := hG
          have hKd : Kp (gb + 1) gb w3 wr.drew := ⟨hK.lo.drew, hK.at'⟩
          have CL := lay_any (gb + 1) gb v x y z (L.take k) wr.drew hGd hxy hyz (by omega) (by have := HP.out.few h9; omega)
          have HKD : Hid (Kp (gb + 1) gb w3 wr.drew) := hKd
          have HKU : Hid (Kp (gb + 1) gb w3 wr) := hK
          have HTK : Hid (L.take (k + 1) = L.take k ++ [[x, y, z]]) := by show _ = _; rw [List.take_add_one, hc]; rfl
          cases hcv : (cv (L.take k) x y || cv (L.take k) x z || cv (L.take k) y z)
          · have HPN : Hid (Pk v (L.take (k + 1))) := pk_next HP.out hc hxy hyz hzv hcv
            rw [hcv] at CL
            have CL2 : Hid (Calls Try.prog 41 #[.pointer (some ⟨gb, 0, none⟩), .int .i64 (x : Int), .int .i64 (y : Int), .int .i64 (z : Int)] wr.drew fun e w' => e = .returned (.bool true) ∧ Gr w' (gb + 1) gb v (L.take (k + 1)) ∧ Kp (gb + 1) gb w3 w') := by
              refine CL.mono ?_
              rintro e w' (⟨h0, _⟩ | ⟨_, rfl, hg, hk⟩)
              · cases h0
              · exact ⟨rfl, by rw [HTK.out]; exact hg, hKd.trans hk⟩
            clear CL hcv hcell hcw hrow hs hsw hG hK hGd hKd hc hli
            go_wp2
            clear rc0
            refine wp_region_noPanic ?_
            refine wp_region_held_drew (S := fun w' => w'.cell? ⟨rq, ro, none⟩ = some (.int .i64 (x : Int)) ∧ w'.cell? ⟨rq, ro + 1, none⟩ = some (.int .i64 (y : Int)) ∧ w'.cell? ⟨rq, ro + 2, none⟩ = some (.int .i64 (z : Int))) (by kernel_rfl) (HCW.out _ HKD.out) (fun hSx => ?_)
            refine wpAnyH_take (i := 0) (v := .pointer (some ⟨gb, 0, none⟩)) rfl (by kernel_rfl) (by kernel_rfl) (by kernel_rfl) (fun _ _ _ h => h) (Or.inl ⟨by rfl, fun w' hSw => by (try dsimp only at hSw); obtain ⟨hs0, hs1, hs2⟩ := hSw; go_simp⟩) hSx ?_
            try simp only [Act.put, List.setIfInBounds_toArray]
            refine wpAnyH_take (i := 1) (v := .slice (some ⟨rq, ro, none⟩) 3 rc) rfl (by kernel_rfl) (by kernel_rfl) (by kernel_rfl) (fun _ _ _ h => h) (Or.inl ⟨by rfl, fun w' hSw => by (try dsimp only at hSw); obtain ⟨hs0, hs1, hs2⟩ := hSw; go_simp⟩) hSx ?_
            try simp only [Act.put]
            refine wpAnyH_take (i := 2) (v := .pointer (some ⟨rq, ro, none⟩)) rfl (by kernel_rfl) (by kernel_rfl) (by kernel_rfl) (fun _ _ _ h => h) (Or.inl ⟨by rfl, fun w' hSw => by (try dsimp only at hSw); obtain ⟨hs0, hs1, hs2⟩ := hSw; go_simp⟩) hSx ?_
            try simp only [Act.put]
            refine wpAnyH_take (i := 3) (v := .int .i64 (x : Int)) rfl (by kernel_rfl) (by kernel_rfl) (by kernel_rfl) (fun _ _ _ h => h) (Or.inl ⟨by rfl, fun w' hSw => by (try dsimp only at hSw); obtain ⟨hs0, hs1, hs2⟩ := hSw; go_simp⟩) hSx ?_
            try simp only [Act.put]
            refine wpAnyH_take (i := 4) (v := .slice (some ⟨rq, ro, none⟩) 3 rc) rfl (by kernel_rfl) (by kernel_rfl) (by kernel_rfl) (fun _ _ _ h => h) (Or.inl ⟨by rfl, fun w' hSw => by (try dsimp only at hSw); obtain ⟨hs0, hs1, hs2⟩ := hSw; go_simp⟩) hSx ?_
            try simp only [Act.put]
            refine wpAnyH_take (i := 5) (v := .pointer (some ⟨rq, ro + 1, none⟩)) rfl (by kernel_rfl) (by kernel_rfl) (by kernel_rfl) (fun _ _ _ h => h) (Or.inl ⟨by rfl, fun w' hSw => by (try dsimp only at hSw); obtain ⟨hs0, hs1, hs2⟩ := hSw; go_simp⟩) hSx ?_
            try simp only [Act.put]
            refine wpAnyH_take (i := 6) (v := .int .i64 (y : Int)) rfl (by kernel_rfl) (by kernel_rfl) (by kernel_rfl) (fun _ _ _ h => h) (Or.inl ⟨by rfl, fun w' hSw => by (try dsimp only at hSw); obtain ⟨hs0, hs1, hs2⟩ := hSw; go_simp⟩) hSx ?_
            try simp only [Act.put]
            refine wpAnyH_take (i := 7) (v := .slice (some ⟨rq, ro, none⟩) 3 rc) rfl (by kernel_rfl) (by kernel_rfl) (by kernel_rfl) (fun _ _ _ h => h) (Or.inl ⟨by rfl, fun w' hSw => by (try dsimp only at hSw); obtain ⟨hs0, hs1, hs2⟩ := hSw; go_simp⟩) hSx ?_
            try simp only [Act.put]
            refine wpAnyH_take (i := 8) (v := .pointer (some ⟨rq, ro + 2, none⟩)) rfl (by kernel_rfl) (by kernel_rfl) (by kernel_rfl) (fun _ _ _ h => h) (Or.inl ⟨by rfl, fun w' hSw => by (try dsimp only at hSw); obtain ⟨hs0, hs1, hs2⟩ := hSw; go_simp⟩) hSx ?_
            try simp only [Act.put]
            refine wpAnyH_take (i := 9) (v := .int .i64 (z : Int)) rfl (by kernel_rfl) (by kernel_rfl) (by kernel_rfl) (fun _ _ _ h => h) (Or.inl ⟨by rfl, fun w' hSw => by (try dsimp only at hSw); obtain ⟨hs0, hs1, hs2⟩ := hSw; go_simp⟩) hSx ?_
            try simp only [Act.put]
            refine wpAnyH_ready (rs := [10]) (by kernel_rfl) (by simp) ?_
            refine AllReadyH.cons rfl (fun J hJ => ?_) AllReadyH.nil
            go_simp
            refine (CL2.out).mono ?_
            rintro e w4 ⟨rfl, hG4, hK4⟩
            clear CL2
            go_wp2_with fail
            refine hJ.out _ _ (HCW.out _ hK4) (fun hSx => ?_)
            clear hJ J
            try simp only [Act.put, List.setIfInBounds_toArray, List.set_cons_zero, List.set_cons_succ]
            refine wpAnyH_take (i := 11) (v := .bool false) rfl (by kernel_rfl) (by kernel_rfl) (by kernel_rfl) (fun _ _ _ h => h) (Or.inl ⟨by rfl, fun w' hSw => by (try dsimp only at hSw); obtain ⟨hs0, hs1, hs2⟩ := hSw; go_simp⟩) hSx ?_
            try simp only [Act.put, List.setIfInBounds_toArray]
            refine wpAnyH_done (by kernel_rfl) ?_ _
            refine NoPanic.normal ?_
            clear hSx
            go_wp2
            go_roundw
            case rel => exact ⟨k + 1, by go_num, by omega, HPN, hG4, hK4⟩
            case measure => simp [intOf]; omega
          · have HMB : Hid (GfT (v : Int) ls 6) := HMK.out L HLS.out HR3.out (pk_not hc hxy hyz hzv hcv)
            rw [hcv] at CL
            have CL2 : Hid (Calls Try.prog 41 #[.pointer (some ⟨gb, 0, none⟩), .int .i64 (x : Int), .int .i64 (y : Int), .int .i64 (z : Int)] wr.drew fun e w' => e = .returned (.bool false) ∧ w' = wr.drew) := by
              refine CL.mono ?_
              rintro e w' (⟨_, rfl, hw⟩ | ⟨h0, _⟩)
              · exact ⟨rfl, hw⟩
              · cases h0
            clear CL hcv hcell hcw hrow hs hsw hG hK hGd hc hli
            go_wp2
            clear rc0
            refine wp_region_noPanic ?_
            refine wp_region_held_drew (S := fun w' => w'.cell? ⟨rq, ro, none⟩ = some (.int .i64 (x : Int)) ∧ w'.cell? ⟨rq, ro + 1, none⟩ = some (.int .i64 (y : Int)) ∧ w'.cell? ⟨rq, ro + 2, none⟩ = some (.int .i64 (z : Int))) (by kernel_rfl) (HCW.out _ HKD.out) (fun hSx => ?_)
            refine wpAnyH_take (i := 0) (v := .pointer (some ⟨gb, 0, none⟩)) rfl (by kernel_rfl) (by kernel_rfl) (by kernel_rfl) (fun _ _ _ h => h) (Or.inl ⟨by rfl, fun w' hSw => by (try dsimp only at hSw); obtain ⟨hs0, hs1, hs2⟩ := hSw; go_simp⟩) hSx ?_
            try simp only [Act.put, List.setIfInBounds_toArray]
            refine wpAnyH_take (i := 1) (v := .slice (some ⟨rq, ro, none⟩) 3 rc) rfl (by kernel_rfl) (by kernel_rfl) (by kernel_rfl) (fun _ _ _ h => h) (Or.inl ⟨by rfl, fun w' hSw => by (try dsimp only at hSw); obtain ⟨hs0, hs1, hs2⟩ := hSw; go_simp⟩) hSx ?_
            try simp only [Act.put]
            refine wpAnyH_take (i := 2) (v := .pointer (some ⟨rq, ro, none⟩)) rfl (by kernel_rfl) (by kernel_rfl) (by kernel_rfl) (fun _ _ _ h => h) (Or.inl ⟨by rfl, fun w' hSw => by (try dsimp only at hSw); obtain ⟨hs0, hs1, hs2⟩ := hSw; go_simp⟩) hSx ?_
            try simp only [Act.put]
            refine wpAnyH_take (i := 3) (v := .int .i64 (x : Int)) rfl (by kernel_rfl) (by kernel_rfl) (by kernel_rfl) (fun _ _ _ h => h) (Or.inl ⟨by rfl, fun w' hSw => by (try dsimp only at hSw); obtain ⟨hs0, hs1, hs2⟩ := hSw; go_simp⟩) hSx ?_
            try simp only [Act.put]
            refine wpAnyH_take (i := 4) (v := .slice (some ⟨rq, ro, none⟩) 3 rc) rfl (by kernel_rfl) (by kernel_rfl) (by kernel_rfl) (fun _ _ _ h => h) (Or.inl ⟨by rfl, fun w' hSw => by (try dsimp only at hSw); obtain ⟨hs0, hs1, hs2⟩ := hSw; go_simp⟩) hSx ?_
            try simp only [Act.put]
            refine wpAnyH_take (i := 5) (v := .pointer (some ⟨rq, ro + 1, none⟩)) rfl (by kernel_rfl) (by kernel_rfl) (by kernel_rfl) (fun _ _ _ h => h) (Or.inl ⟨by rfl, fun w' hSw => by (try dsimp only at hSw); obtain ⟨hs0, hs1, hs2⟩ := hSw; go_simp⟩) hSx ?_
            try simp only [Act.put]
            refine wpAnyH_take (i := 6) (v := .int .i64 (y : Int)) rfl (by kernel_rfl) (by kernel_rfl) (by kernel_rfl) (fun _ _ _ h => h) (Or.inl ⟨by rfl, fun w' hSw => by (try dsimp only at hSw); obtain ⟨hs0, hs1, hs2⟩ := hSw; go_simp⟩) hSx ?_
            try simp only [Act.put]
            refine wpAnyH_take (i := 7) (v := .slice (some ⟨rq, ro, none⟩) 3 rc) rfl (by kernel_rfl) (by kernel_rfl) (by kernel_rfl) (fun _ _ _ h => h) (Or.inl ⟨by rfl, fun w' hSw => by (try dsimp only at hSw); obtain ⟨hs0, hs1, hs2⟩ := hSw; go_simp⟩) hSx ?_
            try simp only [Act.put]
            refine wpAnyH_take (i := 8) (v := .pointer (some ⟨rq, ro + 2, none⟩)) rfl (by kernel_rfl) (by kernel_rfl) (by kernel_rfl) (fun _ _ _ h => h) (Or.inl ⟨by rfl, fun w' hSw => by (try dsimp only at hSw); obtain ⟨hs0, hs1, hs2⟩ := hSw; go_simp⟩) hSx ?_
            try simp only [Act.put]
            refine wpAnyH_take (i := 9) (v := .int .i64 (z : Int)) rfl (by kernel_rfl) (by kernel_rfl) (by kernel_rfl) (fun _ _ _ h => h) (Or.inl ⟨by rfl, fun w' hSw => by (try dsimp only at hSw); obtain ⟨hs0, hs1, hs2⟩ := hSw; go_simp⟩) hSx ?_
            try simp only [Act.put]
            refine wpAnyH_ready (rs := [10]) (by kernel_rfl) (by simp) ?_
            refine AllReadyH.cons rfl (fun J hJ => ?_) AllReadyH.nil
            go_simp
            refine (CL2.out).mono ?_
            rintro e w4 ⟨rfl, hw⟩
            replace hw := hw.symm
            subst hw
            clear CL2
            go_wp2_with fail
            refine hJ.out _ _ (HCW.out _ HKD.out) (fun hSx => ?_)
            clear hJ J
            try simp only [Act.put, List.setIfInBounds_toArray, List.set_cons_zero, List.set_cons_succ]
            refine wpAnyH_take (i := 11) (v := .bool true) rfl (by kernel_rfl) (by kernel_rfl) (by kernel_rfl) (fun _ _ _ h => h) (Or.inl ⟨by rfl, fun w' hSw => by (try dsimp only at hSw); obtain ⟨hs0, hs1, hs2⟩ := hSw; go_simp⟩) hSx ?_
            try simp only [Act.put, List.setIfInBounds_toArray]
            refine wpAnyH_done (by kernel_rfl) ?_ _
            refine NoPanic.normal ?_
            clear hSx
            have H7 : Hid (_ ∧ _) := HNW.out _ hKd
            have H8 : Hid (_ ∧ _) := HWW.out _ hKd
            have hr := (HWW.out wr HKU.out).1
            have z0 := frozen_of_row _ _ 0 _ _ hr
            have z1 := frozen_of_row _ _ 1 _ _ hr
            have y0 := cell_of_row _ _ 0 _ _ _ hr
            have y1 := cell_of_row _ _ 1 _ _ _ hr
            clear hr hKd
            have HU := HNW.out wr HKU.out
            have H9 : Hid (((wr.setCell ⟨w.heap.size, 0, none⟩ (.int .i64 0)).setCell ⟨w.heap.size, 1, none⟩ (.slice none 0 0)).drew.heap[w.heap.size]? = some (.cells #[.int .i64 0, .slice none 0 0] 24 (0, 0)) ∧ Below w.heap.size w ((wr.setCell ⟨w.heap.size, 0, none⟩ (.int .i64 0)).setCell ⟨w.heap.size, 1, none⟩ (.slice none 0 0)).drew) := ⟨HU.1, HU.2.drew⟩
            clear HU
            go_wp2
            first
              | exact post_d2 4 5 rfl rfl H9.out.1 rfl rfl (GoP.bad HMB.out (by omega) H9.out.2)
              | exact post_d2 4 5 rfl rfl H8.out.1 rfl rfl (GoP.bad HMB.out (by omega) H8.out.2)
              | exact post_d2 4 5 rfl rfl H7.out.1 rfl rfl (GoP.bad HMB.out (by omega) H7.out.2)
        · have hdk : decide ((k : Int) < (i : Int)) = false := by simp; omega
          have hki : ¬ (k : Int) < (i : Int) := by omega
          obtain rfl : k = i := by omega
          have eL := HG2.out _ rfl
          rw [eL] at hG HP
          have CF := fill_any v (gb + 1) gb h9 12 L wr hG HP.out (by omega)
          have HKW : Hid (Kp (gb + 1) gb w3 wr) := hK
          cases hgr : gr v 12 L with
          | none =>
            have CF2 : Hid (Calls Try.prog 42 #[.pointer (some ⟨gb, 0, none⟩)] wr fun e w' => e = .returned (.bool false) ∧ Kp (gb + 1) gb w3 w') := by
              refine CF.mono ?_
              rintro e w' (⟨R', e1, _⟩ | ⟨_, rfl, _, hk⟩)
              · rw [hgr] at e1; cases e1
              · exact ⟨rfl, hK.trans hk⟩
            have HGO : Hid (GoT (v : Int) ls 0 4 []) := HOK.out L 0 4 [] HLS.out HP.out (.inl ⟨hgr, rfl, rfl, rfl⟩)
            clear CF hgr hG hK eL
            go_wp2_with (go_at_call 42; refine CF2.out.mono ?_; rintro e w4 ⟨rfl, hk⟩; clear CF2; have H7 : Hid (_ ∧ _) := HNW.out w4 hk; have H8 : Hid (_ ∧ _) := HWW.out w4 hk; have hr := H8.out.1; have z0 := frozen_of_row _ _ 0 _ _ hr; have z1 := frozen_of_row _ _ 1 _ _ hr; have y0 := cell_of_row _ _ 0 _ _ _ hr; have y1 := cell_of_row _ _ 1 _ _ _ hr; clear hr hk)
            first
              | exact post_d2 4 5 rfl rfl H8.out.1 rfl rfl ⟨_, [], 0, 4, rfl, HGO.out, rw_nil0 _, H8.out.2⟩
              | exact post_d2 4 5 rfl rfl H7.out.1 rfl rfl ⟨_, [], 0, 4, rfl, HGO.out, rw_nil0 _, H7.out.2⟩
          | some R =>
            have CF2 : Hid (Calls Try.prog 42 #[.pointer (some ⟨gb, 0, none⟩)] wr fun e w' => e = .returned (.bool true) ∧ Gr w' (gb + 1) gb v R ∧ Kp (gb + 1) gb w3 w') := by
              refine CF.mono ?_
              rintro e w' (⟨R', e1, rfl, hg, hk⟩ | ⟨e1, _⟩)
              · rw [hgr] at e1
                cases e1
                exact ⟨rfl, hg, hK.trans hk⟩
              · rw [hgr] at e1; cases e1
            obtain ⟨pR, _, _⟩ := gr_sys HP.out hgr
            have HTE : Hid (∀ W, Gr W (gb + 1) gb v R → Calls Try.prog 43 #[.pointer (some ⟨gb, 0, none⟩), .int .i64 (v : Int)] W fun e w' => ∃ x Z, e = .returned (.agg #[.int .i64 (v : Int), x]) ∧ Srtd R Z ∧ OR w' (gb + 1) x Z ∧ Below (gb + 1) W w') := fun W hW => tell_any v (gb + 1) gb 64 _ R W hW pR.three (by have := pR.few h9; omega)
            have HGO : Hid (∀ Z, Srtd R Z → GoT (v : Int) ls (v : Int) 0 Z) := fun Z hZ => HOK.out L _ 0 Z HLS.out HP.out (.inr ⟨R, hgr, rfl, rfl, hZ⟩)
            clear CF hgr hG hK eL pR
            go_wp2_with (first
              | (go_at_call 42; refine CF2.out.mono ?_; rintro e w4 ⟨rfl, hg, hk⟩; clear CF2; have HG4 : Hid (Gr w4 (gb + 1) gb v R) := hg; have HK4 : Hid (Kp (gb + 1) gb w3 w4) := hk; clear hg hk)
              | (go_at_call 43; refine (HTE.out w4 HG4.out).mono ?_; rintro e w5 ⟨tx, Z, rfl, hS, hO, hb⟩; clear HTE; have hr : w5.heap[w.heap.size]? = _ := (hb.block _ (by omega)).trans (HWW.out w4 HK4.out).1; obtain ⟨xa, xc, rfl⟩ := hO.cap; have HS5 : Hid (Srtd R Z) := hS; have H7 : Hid (_ ∧ _ ∧ _) := res_put (p := (v : Int)) hr ((HWW.out w4 HK4.out).2.trans (hb.mono (by omega))) (Nat.le_refl _) (by omega) hO; have z0 := frozen_of_row _ _ 0 _ _ hr; have z1 := frozen_of_row _ _ 1 _ _ hr; have y0 := cell_of_row _ _ 0 _ _ _ hr; have y1 := cell_of_row _ _ 1 _ _ _ hr; generalize Z.length = zl at *; clear hr hb hO hS))
            exact post_d2 4 5 rfl rfl H7.out.1 rfl rfl ⟨_, Z, _, 0, rfl, HGO.out Z HS5.out, H7.out.2.1, H7.out.2.2⟩
theorem Grow_any (v : Int) (ls : List (List Int)) (u : Value) (w : World) (hu : Rw w u ls) (hl : ls.length ≤ maxLen) (hll : ∀ l ∈ ls, l.length ≤ maxLen) : Calls Try.prog 21 #[.int .i64 v, u] w (GoP v ls w) := by
  have hu' : ∃ a c, u = .slice a ls.length c := by
    obtain ⟨a, c, e, _⟩ := hu
    exact ⟨a, c, e⟩
  by_cases h1 : v < 1 ∨ 9 < v
  · exact Grow_far v ls _ u w hu' h1
  · by_cases h2 : 200 < ls.length
    · exact Grow_many v ls u w hu' (by omega) (by omega) hl h2
    · obtain ⟨n, rfl⟩ : ∃ n : Nat, v = n := ⟨v.toNat, by omega⟩
      exact Grow_in n ls u w (by omega) (by omega) (by omega) hll hu

end Go.Proofs.Ytdeofjmgjhfkcaa

namespace Go.Proofs.Ytdeofjmgjhfkcaa
open Go.RowKit

theorem tF_out {v : Int} {l : List Int} {j : Nat} (hj : j < l.length) (h : ¬ (0 ≤ l.getD j 0 ∧ l.getD j 0 < v)) : tF v l = 1 := by
  unfold tF
  rw [bF_out hj h]
  rfl
theorem tF_len {v : Int} {l : List Int} (h : ∀ j, j < l.length → 0 ≤ l.getD j 0 ∧ l.getD j 0 < v) (h3 : l.length ≠ 3) : tF v l = 2 := by
  have : bF v l = 0 ∨ bF v l = 2 := by
    rw [bF_in h]
    split
    · exact .inl rfl
    · exact .inr rfl
  unfold tF
  rcases this with e | e
  · rw [e, if_neg (by simp), if_neg h3]
  · rw [e, if_pos (by simp)]
theorem tF_fall {v : Int} {l : List Int} {j : Nat} (h : ∀ j, j < l.length → 0 ≤ l.getD j 0 ∧ l.getD j 0 < v) (h1 : 1 ≤ j) (hj : j < l.length) (hf : l.getD j 0 ≤ l.getD (j - 1) 0) : tF v l = 2 := by
  unfold tF
  rw [bF_fall h h1 hj hf]
  rfl
theorem tF_good {v : Int} {l : List Int} (h : ∀ j, j < l.length → 0 ≤ l.getD j 0 ∧ l.getD j 0 < v) (h3 : l.length = 3) (ha : l.getD 0 0 < l.getD 1 0) (hb : l.getD 1 0 < l.getD 2 0) : tF v l = 0 := by
  have : bF v l = 0 := bF_ok h fun j h1 hj => by
    have : j = 1 ∨ j = 2 := by omega
    rcases this with rfl | rfl
    · exact ha
    · exact hb
  unfold tF
  rw [this, if_neg (by simp), if_pos h3]
theorem two_cv {L : List (List Nat)} {i j x y z : Nat} {c : List Nat} (hj : L[j]? = some c) (h : j < i) (hm : 2 ≤ mt [x, y, z] c) : (cv (L.take i) x y || cv (L.take i) x z || cv (L.take i) y z) = true := by
  have hc : c ∈ L.take i := List.mem_of_getElem? (i := j) (by rw [List.getElem?_take, if_pos h]; exact hj)
  rw [Bool.or_eq_true, Bool.or_eq_true]
  rcases (mt_cv c).1 hm with ⟨a, b⟩ | ⟨a, b⟩ | ⟨a, b⟩
  · exact .inl (.inl (cv_iff.2 ⟨c, hc, a, b⟩))
  · exact .inl (.inr (cv_iff.2 ⟨c, hc, a, b⟩))
  · exact .inr (cv_iff.2 ⟨c, hc, a, b⟩)
theorem none_cv {L : List (List Nat)} {i x y z : Nat} (hi : i ≤ L.length) (h : ∀ (j : Nat) (c : List Nat), j < i → L[j]? = some c → mt [x, y, z] c ≤ 1) : (cv (L.take i) x y || cv (L.take i) x z || cv (L.take i) y z) = false := by
  have key : ∀ p q, (∀ c, (p ∈ c ∧ q ∈ c) → 2 ≤ mt [x, y, z] c) → cv (L.take i) p q = false := fun p q hk => by
    rw [← Bool.not_eq_true]
    intro hcv
    obtain ⟨c, hc, hp⟩ := cv_iff.1 hcv
    obtain ⟨j, hj⟩ := List.getElem?_of_mem hc
    have hji : j < i := by have := (List.getElem?_eq_some_iff.1 hj).1; rw [List.length_take] at this; omega
    rw [List.getElem?_take, if_pos hji] at hj
    have := h j c hji hj
    have := hk c hp
    omega
  rw [key x y fun c h => (mt_cv c).2 (.inl h), key x z fun c h => (mt_cv c).2 (.inr (.inl h)), key y z fun c h => (mt_cv c).2 (.inr (.inr h))]
  rfl
theorem sl_any {W : World} {r : Value} {l : List Int} (h : Sl W r l) : ∃ ra rc, r = .slice ra l.length rc ∧ ∀ j, j < l.length → ∃ b off, ra = some ⟨b, off, none⟩ ∧ ∀ W', Below W.heap.size W W' → W'.cell? ⟨b, off + j, none⟩ = some (.int .i64 (l.getD j 0)) := by
  obtain ⟨a, cap, rfl, h⟩ := h
  refine ⟨a, cap, rfl, fun j hj => ?_⟩
  obtain ⟨b, off, e, hc⟩ := h j hj
  exact ⟨b, off, e, fun W' hb => (hb.cell (World.block_lt_of_cell? _ _ hc)).trans hc⟩
set_option maxRecDepth 100000 in
set_option maxHeartbeats 4000000 in
theorem GrowFault_far (v : Int) (n : Nat) (u : Value) (w : World) (hu : ∃ a c, u = .slice a n c) (h : v < 1 ∨ 9 < v) : Calls Try.prog 20 #[.int .i64 v, u] w fun e w' => e = .returned (.int .i64 1) ∧ Below w.heap.size w w' := by
  obtain ⟨ua, uc, rfl⟩ := hu
  by_cases h1 : v < 1
  · have hd : decide (v < 1) = true := decide_eq_true h1
    clear h
    go_enter Try.func20, Try.ntmps20
    go_wp2
    go_ret
    exact ⟨rfl, Below.refl _ _⟩
  · have hd : decide (v < 1) = false := decide_eq_false h1
    have h2 : 9 < v := h.resolve_left h1
    have hd2 : decide (9 < v) = true := decide_eq_true h2
    have hd3 : decide (v > 9) = true := decide_eq_true h2
    clear h
    go_enter Try.func20, Try.ntmps20
    go_wp2
    go_ret
    exact ⟨rfl, Below.refl _ _⟩
set_option maxRecDepth 100000 in
set_option maxHeartbeats 4000000 in
theorem GrowFault_many (v : Int) (n : Nat) (u : Value) (w : World) (hu : ∃ a c, u = .slice a n c) (h1 : 1 ≤ v) (h9 : v ≤ 9) (hl : n ≤ maxLen) (h2 : 200 < n) : Calls Try.prog 20 #[.int .i64 v, u] w fun e w' => e = .returned (.int .i64 3) ∧ Below w.heap.size w w' := by
  obtain ⟨ua, uc, rfl⟩ := hu
  unfold maxLen at hl
  have hd : decide (v < 1) = false := decide_eq_false (by omega)
  have hd2 : decide (9 < v) = false := decide_eq_false (by omega)
  have hd3 : decide (v > 9) = false := decide_eq_false (by omega)
  have hd4 : decide ((200 : Int) < (n : Int)) = true := decide_eq_true (by omega)
  have hd5 : decide ((n : Int) > 200) = true := decide_eq_true (by omega)
  have h6 : ¬ v < 1 := by omega
  have h7 : ¬ 9 < v := by omega
  have h8 : (200 : Int) < (n : Int) := by omega
  go_enter Try.func20, Try.ntmps20
  go_wp2
  go_ret
  exact ⟨rfl, Below.refl _ _⟩
set_option maxRecDepth 100000 in
set_option maxHeartbeats 16000000 in
theorem GrowFault_in (v : Nat) (ls : List (List Int)) (u : Value) (w : World) (h1 : 1 ≤ v) (h9 : v ≤ 9) (hl : ls.length ≤ 200) (hll : ∀ l ∈ ls, l.length ≤ maxLen) (hu : Rw w u ls) : Calls Try.prog 20 #[.int .i64 (v : Int), u] w fun e w' => (∃ f, e = .returned (.int .i64 f) ∧ GfT (v : Int) ls f) ∧ Below w.heap.size w w' := by
  obtain ⟨a, cap, rfl, hrows⟩ := rows_any hu
  have HROW : Hid (∀ i, i < ls.length → ∃ l b off r, ls[i]? = some l ∧ a = some ⟨b, off, none⟩ ∧ ∀ W, Below w.heap.size w W → W.cell? ⟨b, off + i, none⟩ = some r ∧ Sl W r l) := hrows
  have HBAD : Hid (∀ (i : Nat) (l : List Int) (f : Nat), ls[i]? = some l → (∀ (j : Nat) (l' : List Int), j < i → ls[j]? = some l' → tF (v : Int) l' = 0) → tF (v : Int) l = f → f ≠ 0 → GfT (v : Int) ls (f : Int)) := fun i l f h2 h3 h4 h5 => .inr (.inr (.inl ⟨by omega, by omega, hl, i, l, h2, h3, by rw [h4], by omega⟩))
  have HALL : Hid ((∀ (j : Nat) (l' : List Int), j < ls.length → ls[j]? = some l' → tF (v : Int) l' = 0) → ∃ L, ls = toZ L ∧ Rise3 v L) := fun h => all_rise fun l hl' => by
    obtain ⟨j, hj⟩ := List.getElem?_of_mem hl'
    exact h j l (List.getElem?_eq_some_iff.1 hj).1 hj
  have HMK : Hid (∀ L, ls = toZ L → Rise3 v L → ¬ Pk v L → GfT (v : Int) ls 6) := fun L e hR hp => .inr (.inr (.inr ⟨hl, v, L, rfl, h1, h9, e, hR, .inl ⟨hp, rfl⟩⟩))
  have HOK : Hid (∀ L, ls = toZ L → Rise3 v L → Pk v L → GfT (v : Int) ls 0) := fun L e hR hp => .inr (.inr (.inr ⟨hl, v, L, rfl, h1, h9, e, hR, .inr ⟨hp, rfl⟩⟩))
  have HTL : Hid (∀ l ∈ ls, l.length ≤ maxLen) := hll
  have HTA0 : Hid (∀ (j : Nat) (l' : List Int), j < 0 → ls[j]? = some l' → tF (v : Int) l' = 0) := fun j l' h => by omega
  have HTG : Hid (∀ (b c : List Nat) (x y : Value) (W : World), Sl W x (b.map Int.ofNat) → Sl W y (c.map Int.ofNat) → b.length = 3 → c.length = 3 → Calls Try.prog 25 #[x, y] W fun e w' => e = .returned (.int .i64 ((mt b c : Nat) : Int)) ∧ w' = W) := fun b c x y W h1 h2 h3 h4 => Together_any b c x y W h1 h2 (by omega) (by omega)
  have HMT : Hid (∀ b c : List Nat, b.length = 3 → mt b c ≤ 3) := fun b c h => by
    have := List.countP_le_length (p := fun x => c.contains x) (l := b)
    unfold mt; omega
  have hd : decide ((v : Int) < 1) = false := decide_eq_false (by omega)
  have hd2 : decide (9 < (v : Int)) = false := decide_eq_false (by omega)
  have hd3 : decide ((v : Int) > 9) = false := decide_eq_false (by omega)
  have h6 : ¬ (v : Int) < 1 := by omega
  have h7 : ¬ 9 < (v : Int) := by omega
  generalize hn : ls.length = n at *
  have hd4 : decide ((200 : Int) < (n : Int)) = false := decide_eq_false (by omega)
  have hd5 : decide ((n : Int) > 200) = false := decide_eq_false (by omega)
  have h8 : ¬ (200 : Int) < (n : Int) := by omega
  clear hrows hu hll
  go_enter Try.func20, Try.ntmps20
  go_wp2
  go_loopw [5] (fun iv wr => ∃ (i : Nat), iv = .int .i64 (i : Int) ∧ i ≤ n ∧ Hid (∀ (j : Nat) (l' : List Int), j < i → ls[j]? = some l' → tF (v : Int) l' = 0) ∧ Below w.heap.size w wr) (fun iv _ => (n - intOf iv).toNat)
  case atStart => exact ⟨0, rfl, by omega, HTA0, Below.refl _ _⟩
  case round =>
    clear HTA0
    obtain ⟨i, rfl, hi, HTA, hB⟩ := hrel
    by_cases hlt : i < n
    · have hdi : decide ((i : Int) < (n : Int)) = true := by simp; omega
      have hii : (i : Int) < (n : Int) := by omega
      have hni : ¬ (n : Int) ≤ (i : Int) := by omega
      obtain ⟨l, b, off, r, hli, rfl, hrow⟩ := HROW.out i hlt
      obtain ⟨rc0, hs⟩ := hrow wr hB
      have hlm := HTL.out l (List.mem_of_getElem? hli)
      unfold maxLen at hlm
      obtain ⟨_, hsw⟩ := hrow w (Below.refl _ _)
      obtain ⟨ra, rcap, rfl, hcell⟩ := sl_any hsw
      have HCE : Hid (∀ j, j < l.length → ∃ b off, ra = some ⟨b, off, none⟩ ∧ ∀ W', Below w.heap.size w W' → W'.cell? ⟨b, off + j, none⟩ = some (.int .i64 (l.getD j 0))) := hcell
      have HBD : Hid (∀ f, tF (v : Int) l = f → f ≠ 0 → GfT (v : Int) ls (f : Int)) := fun f h2 h3 => HBAD.out i l f hli HTA.out h2 h3
      have HT2 : Hid (tF (v : Int) l = 0 → ∀ (j : Nat) (l' : List Int), j < i + 1 → ls[j]? = some l' → tF (v : Int) l' = 0) := fun h0 j l' hj he => by
        by_cases e : j = i
        · subst e
          rw [hli] at he
          cases he
          exact h0
        · exact HTA.out j l' (by omega) he
      have HIN0 : Hid (∀ j, j < 0 → 0 ≤ l.getD j 0 ∧ l.getD j 0 < (v : Int)) := fun j h => by omega
      have HBW : Hid (Below w.heap.size w wr) := hB
      generalize hll : l.length = ll at *
      clear hrow hs hsw hcell hB HTA hli
      go_wp2
      clear rc0
      go_loopw [7] (fun jv wr => ∃ (j : Nat), jv = .int .i64 (j : Int) ∧ j ≤ ll ∧ Hid (∀ k, k < j → 0 ≤ l.getD k 0 ∧ l.getD k 0 < (v : Int)) ∧ Below w.heap.size w wr) (fun jv _ => (ll - intOf jv).toNat)
      case atStart => exact ⟨0, rfl, by omega, HIN0, HBW.out⟩
      case round =>
        clear HIN0 HBW
        obtain ⟨j, rfl, hj, HIN, hB⟩ := hrel
        by_cases hlj : j < ll
        · have hdj : decide ((j : Int) < (ll : Int)) = true := by simp; omega
          have hji : (j : Int) < (ll : Int) := by omega
          have hnj : ¬ (ll : Int) ≤ (j : Int) := by omega
          obtain ⟨rb, ro, rfl, hc⟩ := HCE.out j hlj
          have c1 := hc wr hB
          have HNX : Hid ((0 ≤ l.getD j 0 ∧ l.getD j 0 < (v : Int)) → ∀ k, k < j + 1 → 0 ≤ l.getD k 0 ∧ l.getD k 0 < (v : Int)) := fun h0 k hk => by
            by_cases e : k = j
            · subst e; exact h0
            · exact HIN.out k (by omega)
          have HO : Hid (¬ (0 ≤ l.getD j 0 ∧ l.getD j 0 < (v : Int)) → GfT (v : Int) ls 1) := fun h0 => HBD.out 1 (tF_out (by omega) h0) (by omega)
          generalize l.getD j 0 = x at *
          clear hc HIN
          by_cases hx : x < 0
          · have hdx : decide (x < 0) = true := decide_eq_true hx
            have HR : Hid (GfT (v : Int) ls 1) := HO.out (by omega)
            go_wp2
            go_ret
            exact ⟨⟨_, rfl, HR.out⟩, hB⟩
          · have hdx : decide (x < 0) = false := decide_eq_false hx
            by_cases hy : x < (v : Int)
            · have hdy : decide ((v : Int) ≤ x) = false := decide_eq_false (by omega)
              have hdz : decide (x ≥ (v : Int)) = false := decide_eq_false (by omega)
              have hyn : ¬ (v : Int) ≤ x := by omega
              have HI2 := HNX.out ⟨by omega, hy⟩
              have HI3 : Hid (∀ k, k < j + 1 → 0 ≤ l.getD k 0 ∧ l.getD k 0 < (v : Int)) := HI2
              clear HI2
              go_wp2
              go_roundw
              case rel => exact ⟨j + 1, by go_num, by omega, HI3, hB⟩
              case measure => simp [intOf]; omega
            · have hdy : decide ((v : Int) ≤ x) = true := decide_eq_true (by omega)
              have hdz : decide (x ≥ (v : Int)) = true := decide_eq_true (by omega)
              have hyn : (v : Int) ≤ x := by omega
              have HR : Hid (GfT (v : Int) ls 1) := HO.out (by omega)
              go_wp2
              go_ret
              exact ⟨⟨_, rfl, HR.out⟩, hB⟩
        · have hdj : decide ((j : Int) < (ll : Int)) = false := by simp; omega
          have hji : ¬ (j : Int) < (ll : Int) := by omega
          have hjl : ll = j := by omega
          subst hjl
          have HIA : Hid (∀ k, k < l.length → 0 ≤ l.getD k 0 ∧ l.getD k 0 < (v : Int)) := fun k hk => HIN.out k (by omega)
          by_cases h3 : ll = 3
          · subst h3
            obtain ⟨rb, ro, rfl, hc0⟩ := HCE.out 0 (by omega)
            obtain ⟨rb1, ro1, er1, hc1⟩ := HCE.out 1 (by omega)
            obtain ⟨rb2, ro2, er2, hc2⟩ := HCE.out 2 (by omega)
            cases er1
            cases er2
            have c0 := hc0 wr hB
            have c1 := hc1 wr hB
            have c2 := hc2 wr hB
            rw [Nat.add_zero] at c0
            have HF1 : Hid (l.getD 1 0 ≤ l.getD 0 0 → GfT (v : Int) ls 2) := fun h0 => HBD.out 2 (tF_fall HIA.out (j := 1) (by omega) (by omega) h0) (by omega)
            have HF2 : Hid (l.getD 2 0 ≤ l.getD 1 0 → GfT (v : Int) ls 2) := fun h0 => HBD.out 2 (tF_fall HIA.out (j := 2) (by omega) (by omega) h0) (by omega)
            have HF0 : Hid (l.getD 0 0 < l.getD 1 0 → l.getD 1 0 < l.getD 2 0 → ∀ (j : Nat) (l' : List Int), j < i + 1 → ls[j]? = some l' → tF (v : Int) l' = 0) := fun h0 h0' => HT2.out (tF_good HIA.out hll h0 h0')
            generalize l.getD 0 0 = x0 at *
            generalize l.getD 1 0 = x1 at *
            generalize l.getD 2 0 = x2 at *
            clear hc0 hc1 hc2 HIN HIA
            by_cases hx : x0 < x1
            · have hg1 : decide (x1 ≤ x0) = false := decide_eq_false (by omega)
              have hg2 : decide (x0 ≥ x1) = false := decide_eq_false (by omega)
              have hg3 : ¬ x1 ≤ x0 := by omega
              by_cases hy : x1 < x2
              · have hq1 : decide (x2 ≤ x1) = false := decide_eq_false (by omega)
                have hq2 : decide (x1 ≥ x2) = false := decide_eq_false (by omega)
                have hq3 : ¬ x2 ≤ x1 := by omega
                have HT3 : Hid (∀ (j : Nat) (l' : List Int), j < i + 1 → ls[j]? = some l' → tF (v : Int) l' = 0) := HF0.out hx hy
                go_wp2
                go_quiet (fail)
                go_wp2
                go_roundw
                case rel => exact ⟨i + 1, by go_num, by omega, HT3, hB.trans ⟨rfl, rfl, rfl, Nat.le_refl _, fun _ _ => rfl⟩⟩
                case measure => simp [intOf]; omega
              · have hq1 : decide (x2 ≤ x1) = true := decide_eq_true (by omega)
                have hq2 : decide (x1 ≥ x2) = true := decide_eq_true (by omega)
                have hq3 : x2 ≤ x1 := by omega
                have HR := HF2.out hq3
                have HR2 : Hid (GfT (v : Int) ls 2) := HR
                clear HR
                go_wp2
                go_quiet (fail)
                go_wp2
                go_ret
                exact ⟨⟨_, rfl, HR2.out⟩, hB.trans ⟨rfl, rfl, rfl, Nat.le_refl _, fun _ _ => rfl⟩⟩
            · have hg1 : decide (x1 ≤ x0) = true := decide_eq_true (by omega)
              have hg2 : decide (x0 ≥ x1) = true := decide_eq_true (by omega)
              have hg3 : x1 ≤ x0 := by omega
              have HR := HF1.out hg3
              have HR2 : Hid (GfT (v : Int) ls 2) := HR
              clear HR
              go_wp2
              go_quiet (fail)
              go_wp2
              go_ret
              exact ⟨⟨_, rfl, HR2.out⟩, hB.trans ⟨rfl, rfl, rfl, Nat.le_refl _, fun _ _ => rfl⟩⟩
          · have HR : Hid (GfT (v : Int) ls 2) := HBD.out 2 (tF_len HIA.out (by omega)) (by omega)
            have g1 : ((ll : Int) != 3) = true := by simp; omega
            have g2 : ¬ (ll : Int) = 3 := by omega
            clear HIN HIA
            go_wp2
            go_quiet (fail)
            go_wp2
            go_ret
            exact ⟨⟨_, rfl, HR.out⟩, hB.trans ⟨rfl, rfl, rfl, Nat.le_refl _, fun _ _ => rfl⟩⟩
    · have hdi : decide ((i : Int) < (n : Int)) = false := by simp; omega
      have hii : ¬ (i : Int) < (n : Int) := by omega
      obtain rfl : i = n := by omega
      obtain ⟨L, hLs, hR⟩ := HALL.out HTA.out
      have hnL : L.length = i := by rw [← hn, hLs]; simp [toZ]
      have HR3 : Hid (Rise3 v L) := hR
      have HLS : Hid (ls = toZ L) := hLs
      have HBW : Hid (Below w.heap.size w wr) := hB
      have HP0 : Hid (Pk v (L.take 0)) := Pk.nil v
      have HG2 : Hid (∀ L' : List (List Nat), L' = L.take i → L' = L) := fun L' e => by rw [e, ← hnL, List.take_length]
      have HRR : Hid (∀ k, k < i → ∃ x y z b off rr rc, L[k]? = some [x, y, z] ∧ (x < y ∧ y < z ∧ z < v) ∧ a = some ⟨b, off, none⟩ ∧ ∀ W, Below w.heap.size w W → W.cell? ⟨b, off + k, none⟩ = some (.slice rr 3 rc) ∧ Sl W (.slice rr 3 rc) (([x, y, z] : List Nat).map Int.ofNat)) := fun k hk => by
        obtain ⟨l, b, off, r, hli, e, hrow⟩ := HROW.out k hk
        obtain ⟨c, hc⟩ : ∃ c, L[k]? = some c := ⟨_, List.getElem?_eq_getElem (by omega)⟩
        obtain ⟨x, y, z, rfl, hx⟩ := HR3.out c (List.mem_of_getElem? hc)
        have hl2 : l = [x, y, z].map Int.ofNat := by
          rw [HLS.out] at hli
          unfold toZ at hli
          rw [List.getElem?_map, hc] at hli
          exact (Option.some.inj hli).symm
        subst hl2
        obtain ⟨_, hsw⟩ := hrow w (Below.refl _ _)
        obtain ⟨rq, ro, rc, rfl, _⟩ := sl_thr hsw
        exact ⟨x, y, z, b, off, _, _, hc, hx, e, hrow⟩
      clear hR hLs hB HROW HTL HBAD HALL HTA hdi hii
      go_wp2
      go_loopw [8] (fun iv wr => ∃ (k : Nat), iv = .int .i64 (k : Int) ∧ k ≤ i ∧ Hid (Pk v (L.take k)) ∧ Below w.heap.size w wr) (fun iv _ => (i - intOf iv).toNat)
      case atStart => exact ⟨0, rfl, by omega, HP0, HBW.out⟩
      case round =>
        clear HP0 HBW
        obtain ⟨k, rfl, hk, HP, hB⟩ := hrel
        by_cases hlk : k < i
        · have hdk : decide ((k : Int) < (i : Int)) = true := by simp; omega
          have hki : (k : Int) < (i : Int) := by omega
          have hnk : ¬ (i : Int) ≤ (k : Int) := by omega
          obtain ⟨x, y, z, b, off, rr, rc, hc, ⟨hxy, hyz, hzv⟩, rfl, hrow⟩ := HRR.out k hlk
          have HRK : Hid (∀ W, Below w.heap.size w W → W.cell? ⟨b, off + k, none⟩ = some (.slice rr 3 rc) ∧ Sl W (.slice rr 3 rc) (([x, y, z] : List Nat).map Int.ofNat)) := hrow
          have HC : Hid (L[k]? = some [x, y, z]) := hc
          have HM0 : Hid (∀ (j : Nat) (c : List Nat), j < 0 → L[j]? = some c → mt [x, y, z] c ≤ 1) := fun j c h => by omega
          have HBW : Hid (Below w.heap.size w wr) := hB
          clear hrow hc hB
          go_wp2
          go_loopw [9] (fun jv wr => ∃ (j : Nat), jv = .int .i64 (j : Int) ∧ j ≤ k ∧ Hid (∀ (j' : Nat) (c : List Nat), j' < j → L[j']? = some c → mt [x, y, z] c ≤ 1) ∧ Below w.heap.size w wr) (fun jv _ => (k - intOf jv).toNat)
          case atStart => exact ⟨0, rfl, by omega, HM0, HBW.out⟩
          case round =>
            clear HM0 HBW
            obtain ⟨j, rfl, hj, HM, hB⟩ := hrel
            by_cases hlj : j < k
            · have hdj : decide ((j : Int) < (k : Int)) = true := by simp; omega
              have hji : (j : Int) < (k : Int) := by omega
              have hnj : ¬ (i : Int) ≤ (j : Int) := by omega
              obtain ⟨x', y', z', b', off', ss, sc, hc', _, eb, hrow'⟩ := HRR.out j (by omega)
              cases eb
              have HRJ : Hid (∀ W, Below w.heap.size w W → W.cell? ⟨b, off + j, none⟩ = some (.slice ss 3 sc) ∧ Sl W (.slice ss 3 sc) (([x', y', z'] : List Nat).map Int.ofNat)) := hrow'
              have HS : Hid (∀ W, Below w.heap.size w W → W.cell? ⟨b, off + k, none⟩ = some (.slice rr 3 rc) ∧ W.cell? ⟨b, off + j, none⟩ = some (.slice ss 3 sc)) := fun W h => ⟨(HRK.out W h).1, (HRJ.out W h).1⟩
              have HTC : Hid (∀ W, Below w.heap.size w W → Calls Try.prog 25 #[.slice rr 3 rc, .slice ss 3 sc] W fun e w' => e = .returned (.int .i64 ((mt [x, y, z] [x', y', z'] : Nat) : Int)) ∧ w' = W) := fun W hW => HTG.out _ _ _ _ W (HRK.out W hW).2 (HRJ.out W hW).2 rfl rfl
              have hmt := HMT.out [x, y, z] [x', y', z'] rfl
              have HBAD6 : Hid (2 ≤ mt [x, y, z] [x', y', z'] → GfT (v : Int) ls 6) := fun h2 => HMK.out L HLS.out HR3.out (pk_not HC.out hxy hyz hzv (two_cv hc' hlj h2))
              have HNX : Hid (mt [x, y, z] [x', y', z'] ≤ 1 → ∀ (j' : Nat) (c : List Nat), j' < j + 1 → L[j']? = some c → mt [x, y, z] c ≤ 1) := fun h2 j' c hj' he => by
                by_cases e : j' = j
                · subst e
                  rw [hc'] at he
                  cases he
                  exact h2
                · exact HM.out j' c (by omega) he
              have HBD : Hid (Below w.heap.size w wr.drew) := hB.drew
              generalize mt [x, y, z] [x', y', z'] = mm at *
              clear hrow' hc' hB HM
              by_cases hm : mm ≤ 1
              · have HN1 : Hid (∀ (j' : Nat) (c : List Nat), j' < j + 1 → L[j']? = some c → mt [x, y, z] c ≤ 1) := HNX.out hm
                have hg1 : decide ((1 : Int) < (mm : Int)) = false := decide_eq_false (by omega)
                have hg2 : decide ((mm : Int) > 1) = false := decide_eq_false (by omega)
                have hg3 : ¬ (1 : Int) < (mm : Int) := by omega
                go_wp2
                refine wp_region_noPanic ?_
                refine wp_region_held_drew (S := fun w' => w'.cell? ⟨b, off + k, none⟩ = some (.slice rr 3 rc) ∧ w'.cell? ⟨b, off + j, none⟩ = some (.slice ss 3 sc)) (by kernel_rfl) (HS.out _ HBD.out) (fun hSx => ?_)
                refine wpAnyH_take (i := 0) (v := .slice (some ⟨b, off, none⟩) i cap) rfl (by kernel_rfl) (by kernel_rfl) (by kernel_rfl) (fun _ _ _ h => h) (Or.inl ⟨by rfl, fun w' hSw => by (try dsimp only at hSw); obtain ⟨hs0, hs1⟩ := hSw; go_simp⟩) hSx ?_
                try simp only [Act.put, List.setIfInBounds_toArray]
                refine wpAnyH_take (i := 1) (v := .int .i64 (k : Int)) rfl (by kernel_rfl) (by kernel_rfl) (by kernel_rfl) (fun _ _ _ h => h) (Or.inl ⟨by rfl, fun w' hSw => by (try dsimp only at hSw); obtain ⟨hs0, hs1⟩ := hSw; go_simp⟩) hSx ?_
                try simp only [Act.put]
                refine wpAnyH_take (i := 2) (v := .pointer (some ⟨b, off + k, none⟩)) rfl (by kernel_rfl) (by kernel_rfl) (by kernel_rfl) (fun _ _ _ h => h) (Or.inl ⟨by rfl, fun w' hSw => by (try dsimp only at hSw); obtain ⟨hs0, hs1⟩ := hSw; go_simp⟩) hSx ?_
                try simp only [Act.put]
                refine wpAnyH_take (i := 3) (v := .slice rr 3 rc) rfl (by kernel_rfl) (by kernel_rfl) (by kernel_rfl) (fun _ _ _ h => h) (Or.inl ⟨by rfl, fun w' hSw => by (try dsimp only at hSw); obtain ⟨hs0, hs1⟩ := hSw; go_simp⟩) hSx ?_
                try simp only [Act.put]
                refine wpAnyH_take (i := 4) (v := .slice (some ⟨b, off, none⟩) i cap) rfl (by kernel_rfl) (by kernel_rfl) (by kernel_rfl) (fun _ _ _ h => h) (Or.inl ⟨by rfl, fun w' hSw => by (try dsimp only at hSw); obtain ⟨hs0, hs1⟩ := hSw; go_simp⟩) hSx ?_
                try simp only [Act.put]
                refine wpAnyH_take (i := 5) (v := .int .i64 (j : Int)) rfl (by kernel_rfl) (by kernel_rfl) (by kernel_rfl) (fun _ _ _ h => h) (Or.inl ⟨by rfl, fun w' hSw => by (try dsimp only at hSw); obtain ⟨hs0, hs1⟩ := hSw; go_simp⟩) hSx ?_
                try simp only [Act.put]
                refine wpAnyH_take (i := 6) (v := .pointer (some ⟨b, off + j, none⟩)) rfl (by kernel_rfl) (by kernel_rfl) (by kernel_rfl) (fun _ _ _ h => h) (Or.inl ⟨by rfl, fun w' hSw => by (try dsimp only at hSw); obtain ⟨hs0, hs1⟩ := hSw; go_simp⟩) hSx ?_
                try simp only [Act.put]
                refine wpAnyH_take (i := 7) (v := .slice ss 3 sc) rfl (by kernel_rfl) (by kernel_rfl) (by kernel_rfl) (fun _ _ _ h => h) (Or.inl ⟨by rfl, fun w' hSw => by (try dsimp only at hSw); obtain ⟨hs0, hs1⟩ := hSw; go_simp⟩) hSx ?_
                try simp only [Act.put]
                refine wpAnyH_ready (rs := [8]) (by kernel_rfl) (by simp) ?_
                refine AllReadyH.cons rfl (fun J hJ => ?_) AllReadyH.nil
                go_simp
                refine (HTC.out _ HBD.out).mono ?_
                rintro e v1 ⟨rfl, hw⟩
                replace hw := hw.symm
                subst hw
                go_wp2_with fail
                refine hJ.out _ _ (HS.out _ HBD.out) (fun hSx => ?_)
                clear hJ J
                try simp only [Act.put, List.setIfInBounds_toArray, List.set_cons_zero, List.set_cons_succ]
                refine wpAnyH_take (i := 9) (v := .int .i64 (mm : Int)) rfl (by kernel_rfl) (by kernel_rfl) (by kernel_rfl) (fun _ _ _ h => h) (Or.inl ⟨by rfl, fun w' hSw => by (try dsimp only at hSw); obtain ⟨hs0, hs1⟩ := hSw; go_simp⟩) hSx ?_
                try simp only [Act.put, List.setIfInBounds_toArray]
                refine wpAnyH_done (by kernel_rfl) ?_ _
                refine NoPanic.normal ?_
                clear hSx HTC
                go_wp2
                go_roundw
                case rel => exact ⟨j + 1, by go_num, by omega, HN1, HBD.out⟩
                case measure => simp [intOf]; omega
              · have HR : Hid (GfT (v : Int) ls 6) := HBAD6.out (by omega)
                have hg1 : decide ((1 : Int) < (mm : Int)) = true := decide_eq_true (by omega)
                have hg2 : decide ((mm : Int) > 1) = true := decide_eq_true (by omega)
                have hg3 : (1 : Int) < (mm : Int) := by omega
                go_wp2
                refine wp_region_noPanic ?_
                refine wp_region_held_drew (S := fun w' => w'.cell? ⟨b, off + k, none⟩ = some (.slice rr 3 rc) ∧ w'.cell? ⟨b, off + j, none⟩ = some (.slice ss 3 sc)) (by kernel_rfl) (HS.out _ HBD.out) (fun hSx => ?_)
                refine wpAnyH_take (i := 0) (v := .slice (some ⟨b, off, none⟩) i cap) rfl (by kernel_rfl) (by kernel_rfl) (by kernel_rfl) (fun _ _ _ h => h) (Or.inl ⟨by rfl, fun w' hSw => by (try dsimp only at hSw); obtain ⟨hs0, hs1⟩ := hSw; go_simp⟩) hSx ?_
                try simp only [Act.put, List.setIfInBounds_toArray]
                refine wpAnyH_take (i := 1) (v := .int .i64 (k : Int)) rfl (by kernel_rfl) (by kernel_rfl) (by kernel_rfl) (fun _ _ _ h => h) (Or.inl ⟨by rfl, fun w' hSw => by (try dsimp only at hSw); obtain ⟨hs0, hs1⟩ := hSw; go_simp⟩) hSx ?_
                try simp only [Act.put]
                refine wpAnyH_take (i := 2) (v := .pointer (some ⟨b, off + k, none⟩)) rfl (by kernel_rfl) (by kernel_rfl) (by kernel_rfl) (fun _ _ _ h => h) (Or.inl ⟨by rfl, fun w' hSw => by (try dsimp only at hSw); obtain ⟨hs0, hs1⟩ := hSw; go_simp⟩) hSx ?_
                try simp only [Act.put]
                refine wpAnyH_take (i := 3) (v := .slice rr 3 rc) rfl (by kernel_rfl) (by kernel_rfl) (by kernel_rfl) (fun _ _ _ h => h) (Or.inl ⟨by rfl, fun w' hSw => by (try dsimp only at hSw); obtain ⟨hs0, hs1⟩ := hSw; go_simp⟩) hSx ?_
                try simp only [Act.put]
                refine wpAnyH_take (i := 4) (v := .slice (some ⟨b, off, none⟩) i cap) rfl (by kernel_rfl) (by kernel_rfl) (by kernel_rfl) (fun _ _ _ h => h) (Or.inl ⟨by rfl, fun w' hSw => by (try dsimp only at hSw); obtain ⟨hs0, hs1⟩ := hSw; go_simp⟩) hSx ?_
                try simp only [Act.put]
                refine wpAnyH_take (i := 5) (v := .int .i64 (j : Int)) rfl (by kernel_rfl) (by kernel_rfl) (by kernel_rfl) (fun _ _ _ h => h) (Or.inl ⟨by rfl, fun w' hSw => by (try dsimp only at hSw); obtain ⟨hs0, hs1⟩ := hSw; go_simp⟩) hSx ?_
                try simp only [Act.put]
                refine wpAnyH_take (i := 6) (v := .pointer (some ⟨b, off + j, none⟩)) rfl (by kernel_rfl) (by kernel_rfl) (by kernel_rfl) (fun _ _ _ h => h) (Or.inl ⟨by rfl, fun w' hSw => by (try dsimp only at hSw); obtain ⟨hs0, hs1⟩ := hSw; go_simp⟩) hSx ?_
                try simp only [Act.put]
                refine wpAnyH_take (i := 7) (v := .slice ss 3 sc) rfl (by kernel_rfl) (by kernel_rfl) (by kernel_rfl) (fun _ _ _ h => h) (Or.inl ⟨by rfl, fun w' hSw => by (try dsimp only at hSw); obtain ⟨hs0, hs1⟩ := hSw; go_simp⟩) hSx ?_
                try simp only [Act.put]
                refine wpAnyH_ready (rs := [8]) (by kernel_rfl) (by simp) ?_
                refine AllReadyH.cons rfl (fun J hJ => ?_) AllReadyH.nil
                go_simp
                refine (HTC.out _ HBD.out).mono ?_
                rintro e v1 ⟨rfl, hw⟩
                replace hw := hw.symm
                subst hw
                go_wp2_with fail
                refine hJ.out _ _ (HS.out _ HBD.out) (fun hSx => ?_)
                clear hJ J
                try simp only [Act.put, List.setIfInBounds_toArray, List.set_cons_zero, List.set_cons_succ]
                refine wpAnyH_take (i := 9) (v := .int .i64 (mm : Int)) rfl (by kernel_rfl) (by kernel_rfl) (by kernel_rfl) (fun _ _ _ h => h) (Or.inl ⟨by rfl, fun w' hSw => by (try dsimp only at hSw); obtain ⟨hs0, hs1⟩ := hSw; go_simp⟩) hSx ?_
                try simp only [Act.put, List.setIfInBounds_toArray]
                refine wpAnyH_done (by kernel_rfl) ?_ _
                refine NoPanic.normal ?_
                clear hSx HTC
                go_wp2
                go_ret
                exact ⟨⟨_, rfl, HR.out⟩, HBD.out⟩
            · have hdj : decide ((j : Int) < (k : Int)) = false := by simp; omega
              have hji : ¬ (j : Int) < (k : Int) := by omega
              obtain rfl : j = k := by omega
              have HPN : Hid (Pk v (L.take (j + 1))) := pk_next HP.out HC.out hxy hyz hzv (none_cv (by omega) HM.out)
              clear HM
              go_wp2
              go_roundw
              case rel => exact ⟨j + 1, by go_num, by omega, HPN, hB⟩
              case measure => simp [intOf]; omega
        · have hdk : decide ((k : Int) < (i : Int)) = false := by simp; omega
          have hki : ¬ (k : Int) < (i : Int) := by omega
          obtain rfl : k = i := by omega
          have eL := HG2.out _ rfl
          rw [eL] at HP
          have HR : Hid (GfT (v : Int) ls 0) := HOK.out L HLS.out HR3.out HP.out
          clear eL
          go_wp2
          go_ret
          exact ⟨⟨_, rfl, HR.out⟩, hB⟩
theorem GrowFault_any (v : Int) (ls : List (List Int)) (u : Value) (w : World) (hu : Rw w u ls) (hl : ls.length ≤ maxLen) (hll : ∀ l ∈ ls, l.length ≤ maxLen) : Calls Try.prog 20 #[.int .i64 v, u] w fun e w' => (∃ f, e = .returned (.int .i64 f) ∧ GfT v ls f) ∧ Below w.heap.size w w' := by
  have hu' : ∃ a c, u = .slice a ls.length c := by
    obtain ⟨a, c, e, _⟩ := hu
    exact ⟨a, c, e⟩
  by_cases h1 : v < 1 ∨ 9 < v
  · refine (GrowFault_far v _ u w hu' h1).mono ?_
    rintro e w' ⟨rfl, hb⟩
    exact ⟨⟨1, rfl, .inl ⟨rfl, h1⟩⟩, hb⟩
  · by_cases h2 : 200 < ls.length
    · refine (GrowFault_many v _ u w hu' (by omega) (by omega) hl h2).mono ?_
      rintro e w' ⟨rfl, hb⟩
      exact ⟨⟨3, rfl, .inr (.inl ⟨rfl, by omega, by omega, h2⟩)⟩, hb⟩
    · obtain ⟨n, rfl⟩ : ∃ n : Nat, v = n := ⟨v.toNat, by omega⟩
      exact GrowFault_in n ls u w (by omega) (by omega) (by omega) hll hu

end Go.Proofs.Ytdeofjmgjhfkcaa
