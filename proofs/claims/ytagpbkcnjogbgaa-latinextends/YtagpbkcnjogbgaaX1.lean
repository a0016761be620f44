/- The walks of slices.Index, Contains at numbers; of slices.IndexFunc, ContainsFunc at rows; of what below asks. -/
import Derived.Test.YtagpbkcnjogbgaaL1
import Derived.Deep.QuietTactic
import Derived.BigQuiet
namespace Go.Proofs.Ytagpbkcnjogbgaa
open Go.RowKit

/-- The value is a slice of slices that read as these rows. -/
def Rw (w : World) (v : Value) (ls : List (List Int)) : Prop := ∃ a cap, v = .slice a ls.length cap ∧ ∀ i l, ls[i]? = some l → ∃ b off u, a = some ⟨b, off, none⟩ ∧ w.cell? ⟨b, off + i, none⟩ = some u ∧ Sl w u l
theorem Rw.below {w w' : World} {v : Value} {ls : List (List Int)} (h : Rw w v ls) (hb : Below w.heap.size w w') : Rw w' v ls := by
  obtain ⟨a, cap, rfl, h⟩ := h
  refine ⟨a, cap, rfl, fun i l hi => ?_⟩
  obtain ⟨b, off, u, e, hc, hs⟩ := h i l hi
  exact ⟨b, off, u, e, (hb.cell (p := ⟨b, off + i, none⟩) (block_lt_of_cell hc)).trans hc, hs.below hb⟩

set_option maxHeartbeats 4000000 in
theorem Index_any (l : List Int) (x : Int) (v : Value) (w : World) (hv : Sl w v l) (hl : l.length ≤ 99) :
    Calls Try.prog 50 #[v, .int .i64 x] w fun e w' => (∃ z : Int, e = .returned (.int .i64 z) ∧ (0 ≤ z ↔ x ∈ l)) ∧ w' = w := by
  obtain ⟨a, cap, rfl, hc⟩ := hv
  obtain ⟨n, hn⟩ : ∃ n, n = l.length := ⟨_, rfl⟩
  have HN : Hid (n = l.length) := hn
  have HC : Hid (∀ j, j < n → ∃ b off, a = some ⟨b, off, none⟩ ∧ w.cell? ⟨b, off + j, none⟩ = some (.int .i64 (l.getD j 0))) := by rw [hn]; exact hc
  rw [← hn] at hl ⊢
  clear hc hn
  go_enter Try.func50, Try.ntmps50
  go_wp2
  go_loopw [8] (fun i wr => ∃ j : Nat, i = .int .i64 (j : Int) ∧ j ≤ n ∧ Hid (∀ t, t < j → l.getD t 0 ≠ x) ∧ wr = w) (fun i _ => (n - intOf i).toNat)
  case atStart => exact ⟨0, rfl, by omega, (fun t h => by omega : ∀ t, t < 0 → _), rfl⟩
  case round =>
    obtain ⟨j, rfl, hj, HJ, hw⟩ := hrel
    replace hw := hw.symm
    subst hw
    by_cases hlt : j < n
    · have hdj : decide ((j : Int) < (n : Int)) = true := by simp; omega
      have hji : (j : Int) < n := by omega
      have hj0 : (0 : Int) ≤ (j : Int) := by omega
      obtain ⟨b, off, rfl, hcj⟩ := HC.out j hlt
      obtain ⟨y, hy⟩ : ∃ y, y = l.getD j 0 := ⟨_, rfl⟩
      have Hy : Hid (y = l.getD j 0) := hy
      rw [← hy] at hcj
      clear hy
      by_cases hxy : x = y
      · have hbn : (x == y) = true := by simpa using hxy
        have hmem : x ∈ l := by
          rw [hxy, Hy.out]
          have : j < l.length := by rw [← HN.out]; exact hlt
          simp [List.getD_eq_getElem?_getD, this]
        have HM : Hid (x ∈ l) := hmem
        clear hxy hmem
        go_wp2
        go_ret
        exact ⟨⟨_, rfl, fun _ => HM.out, fun _ => by omega⟩, rfl⟩
      · have hbn : (x == y) = false := by simpa using hxy
        have HJ2 : Hid (∀ t, t < j + 1 → l.getD t 0 ≠ x) := fun t ht e => by
          by_cases et : t = j
          · subst et; exact hxy (e.symm.trans Hy.out.symm)
          · exact HJ.out t (by omega) e
        clear hxy HJ
        go_wp2
        go_roundw
        case rel => exact ⟨j + 1, by go_num, by omega, HJ2, trivial⟩
        case measure => simp [intOf]; omega
    · have hdj : decide ((j : Int) < (n : Int)) = false := by simp; omega
      obtain rfl : j = n := by omega
      have HM : Hid (¬ x ∈ l) := fun hm => by
        obtain ⟨t, ht, e⟩ := List.getElem_of_mem hm
        exact HJ.out t (by rw [HN.out]; exact ht) (by simp [List.getD_eq_getElem?_getD, ht, e])
      go_wp2
      go_ret
      exact ⟨⟨_, rfl, fun h => by omega, fun h => (HM.out h).elim⟩, rfl⟩
set_option maxHeartbeats 4000000 in
theorem Contains_any (l : List Int) (x : Int) (v : Value) (w : World) (b : Bool) (hv : Sl w v l) (hl : l.length ≤ 99) (hb : b = true ↔ x ∈ l) :
    Calls Try.prog 48 #[v, .int .i64 x] w fun e w' => e = .returned (.bool b) ∧ w' = w := by
  have C := Index_any l x v w hv hl
  clear hv
  go_enter Try.func48, Try.ntmps48
  go_wp2_with (go_at_call 50; refine C.mono ?_; rintro e w1 ⟨⟨z, rfl, hz⟩, rfl⟩; have hbz : decide (0 ≤ z) = b := (by cases b with | true => exact decide_eq_true (hz.2 (hb.1 rfl)) | false => exact decide_eq_false fun h => by have := hb.2 (hz.1 h); cases this); clear C hz)
  go_ret
  exact ⟨rfl, rfl⟩
/-- A question asked of rows. -/
def AskAt (g : Nat) (lb : Array Value) (ls : List (List Int)) (p : List Int → Bool) (w : World) : Prop :=
  ∀ W : World, Below w.heap.size w W → ∀ u l, l ∈ ls → Sl W u l → Calls Try.prog g (#[u] ++ lb) W fun e w' => e = .returned (.bool (p l)) ∧ Below W.heap.size W w'
set_option maxHeartbeats 4000000 in
theorem IndexFunc_any (ls : List (List Int)) (p : List Int → Bool) (g : Nat) (lb : Array Value) (v : Value) (w : World) (eg : ∀ args w, (callFunc g args).run Try.prog w = .ok (.enter g args) w) (hv : Rw w v ls) (hl : ls.length ≤ 99) (hp : AskAt g lb ls p w) :
    Calls Try.prog 49 #[v, .func (.func g) #[] lb] w fun e w' => (∃ z : Int, e = .returned (.int .i64 z) ∧ (0 ≤ z ↔ ls.any p = true)) ∧ Below w.heap.size w w' := by
  have HV : Hid (Rw w v ls) := hv
  have HP : Hid (AskAt g lb ls p w) := hp
  obtain ⟨a, cap, rfl, _⟩ := id hv
  obtain ⟨n, hn⟩ : ∃ n, n = ls.length := ⟨_, rfl⟩
  have HN : Hid (n = ls.length) := hn
  rw [← hn] at hl HV ⊢
  clear hv hp hn
  go_enter Try.func49, Try.ntmps49
  go_wp2
  go_loopw [8] (fun i wr => ∃ j : Nat, i = .int .i64 (j : Int) ∧ j ≤ n ∧ Hid (∀ t l, t < j → ls[t]? = some l → p l = false) ∧ Below w.heap.size w wr) (fun i _ => (n - intOf i).toNat)
  case atStart => exact ⟨0, rfl, by omega, (fun t l h => by omega : ∀ t l, t < 0 → _), Below.refl _ _⟩
  case round =>
    obtain ⟨j, rfl, hj, HJ, hB⟩ := hrel
    by_cases hlt : j < n
    · have hdj : decide ((j : Int) < (n : Int)) = true := by simp; omega
      have hji : (j : Int) < n := by omega
      have hj0 : (0 : Int) ≤ (j : Int) := by omega
      obtain ⟨l, hl'⟩ : ∃ l, ls[j]? = some l := ⟨ls[j]'(by rw [← HN.out]; exact hlt), by simp⟩
      obtain ⟨a', cap', e', hr⟩ := HV.out.below hB
      cases e'
      obtain ⟨b, off, u, rfl, hcj, hs⟩ := hr j l hl'
      have D := HP.out _ hB u l (List.mem_of_getElem? hl') hs
      have HLJ : Hid (ls[j]? = some l) := hl'
      clear hr hl'
      cases hq : p l with
      | true =>
        rw [hq] at D
        have HM : Hid (ls.any p = true) := List.any_eq_true.2 ⟨l, List.mem_of_getElem? HLJ.out, hq⟩
        clear hq
        go_wp2_with (go_at_fn g; refine D.mono ?_; rintro e w1 ⟨rfl, b1⟩)
        go_ret
        exact ⟨⟨_, rfl, fun _ => HM.out, fun _ => by omega⟩, Below.next hB b1⟩
      | false =>
        rw [hq] at D
        have HJ2 : Hid (∀ t l, t < j + 1 → ls[t]? = some l → p l = false) := fun t l' ht e => by
          by_cases et : t = j
          · subst et
            have := HLJ.out.symm.trans e
            cases this
            exact hq
          · exact HJ.out t l' (by omega) e
        clear hq HJ
        go_wp2_with (go_at_fn g; refine D.mono ?_; rintro e w1 ⟨rfl, b1⟩)
        go_roundw
        case rel => exact ⟨j + 1, by go_num, by omega, HJ2, Below.next hB b1⟩
        case measure => simp [intOf]; omega
    · have hdj : decide ((j : Int) < (n : Int)) = false := by simp; omega
      obtain rfl : j = n := by omega
      have HM : Hid (ls.any p = false) := List.any_eq_false.2 fun l hm => by
        obtain ⟨t, ht, e⟩ := List.getElem_of_mem hm
        rw [HJ.out t l (by rw [HN.out]; exact ht) (by rw [List.getElem?_eq_getElem ht, e])]
        simp
      go_wp2
      go_ret
      exact ⟨⟨_, rfl, fun h => by omega, fun h => by rw [HM.out] at h; cases h⟩, hB⟩
set_option maxHeartbeats 4000000 in
theorem ContainsFunc_any (ls : List (List Int)) (p : List Int → Bool) (g : Nat) (lb : Array Value) (v : Value) (w : World) (eg : ∀ args w, (callFunc g args).run Try.prog w = .ok (.enter g args) w) (hv : Rw w v ls) (hl : ls.length ≤ 99) (hp : AskAt g lb ls p w) :
    Calls Try.prog 46 #[v, .func (.func g) #[] lb] w fun e w' => e = .returned (.bool (ls.any p)) ∧ Below w.heap.size w w' := by
  have C := IndexFunc_any ls p g lb v w eg hv hl hp
  generalize ls.any p = b at *
  clear hv hp
  go_enter Try.func46, Try.ntmps46
  go_wp2_with (go_at_call 49; refine C.mono ?_; rintro e w1 ⟨⟨z, rfl, hz⟩, b1⟩; have hbz : decide (0 ≤ z) = b := (by cases b with | true => exact decide_eq_true (hz.2 rfl) | false => exact decide_eq_false fun h => by have := hz.1 h; cases this); clear C hz)
  go_ret
  exact ⟨rfl, b1⟩
theorem e47 : ∀ args w, (callFunc 47 args).run Try.prog w = .ok (.enter 47 args) w := enters_of Try.func47 (by kernel_rfl) rfl
theorem e45 : ∀ args w, (callFunc 45 args).run Try.prog w = .ok (.enter 45 args) w := enters_of Try.func45 (by kernel_rfl) rfl
set_option maxHeartbeats 4000000 in
theorem below11_any (n c x b1 b2 : Nat) (l : List Int) (u : Value) (W : World) (hu : Sl W u l) (hl : l.length = n) (hc : c < n) (hn : n ≤ 8) (h1 : W.cell? ⟨b1, 0, none⟩ = some (.int .i64 (c : Int))) (h2 : W.cell? ⟨b2, 0, none⟩ = some (.int .i64 (x : Int))) :
    Calls Try.prog 47 #[u, .pointer (some ⟨b1, 0, none⟩), .pointer (some ⟨b2, 0, none⟩)] W fun e w' => e = .returned (.bool (l.getD c 0 == (x : Int))) ∧ Below W.heap.size W w' := by
  obtain ⟨a, off, cap, rfl, ha, hcell⟩ := hu.form hl (by omega)
  have h3 := hcell c hc
  have hci : (c : Int) < n := by omega
  generalize l.getD c 0 = y at *
  cases hb : (y == (x : Int)) with
  | true =>
    clear hcell hu
    go_enter Try.func47, Try.ntmps47
    go_wp2
    go_quiet (fail)
    go_wp2
    go_ret
    exact ⟨rfl, bdrewN (Below.refl _ _) _⟩
  | false =>
    clear hcell hu
    go_enter Try.func47, Try.ntmps47
    go_wp2
    go_quiet (fail)
    go_wp2
    go_ret
    exact ⟨rfl, bdrewN (Below.refl _ _) _⟩
set_option maxHeartbeats 4000000 in
/-- What below's closure tells: whether a number may stand in a column. -/
theorem below1_any (n c x b : Nat) (ls : List (List Int)) (v : Value) (W : World) (hv : Rw W v ls) (hl : ls.length ≤ 8) (hr : ∀ l ∈ ls, l.length = n) (hc : c < n) (hn : n ≤ 8) (hb : W.cell? ⟨b, 0, none⟩ = some v) :
    Calls Try.prog 45 #[.int .i64 (c : Int), .int .i64 (x : Int), .pointer (some ⟨b, 0, none⟩)] W fun e w' => e = .returned (.bool (!(ls.any fun l => l.getD c 0 == (x : Int)))) ∧ Below W.heap.size W w' := by
  have hbl := block_lt_of_cell hb
  have hsz : ((W.alloc (.cells #[.int .i64 (c : Int)] 3)).alloc (.cells #[.int .i64 (x : Int)] 3)).heap.size = W.heap.size + 1 + 1 := by simp
  have bb : Below W.heap.size W ((W.alloc (.cells #[.int .i64 (c : Int)] 3)).alloc (.cells #[.int .i64 (x : Int)] 3)) := Below.next (balloc _ _) (balloc _ _)
  have f1 : ((W.alloc (.cells #[.int .i64 (c : Int)] 3)).alloc (.cells #[.int .i64 (x : Int)] 3)).heap[W.heap.size]? = some (.cells #[.int .i64 (c : Int)] 3 (0, 0)) := (Below.heap_alloc _ _ _ (by simp)).trans (heap_alloc_new W _)
  have f2 : ((W.alloc (.cells #[.int .i64 (c : Int)] 3)).alloc (.cells #[.int .i64 (x : Int)] 3)).heap[W.heap.size + 1]? = some (.cells #[.int .i64 (x : Int)] 3 (0, 0)) := by
    have := heap_alloc_new (W.alloc (.cells #[.int .i64 (c : Int)] 3)) (.cells #[.int .i64 (x : Int)] 3)
    simpa using this
  have C := ContainsFunc_any ls (fun l => l.getD c 0 == (x : Int)) 47 #[.pointer (some ⟨W.heap.size, 0, none⟩), .pointer (some ⟨W.heap.size + 1, 0, none⟩)] v _ e47 (hv.below bb) (by omega) (fun W' bW u l hm hu => by
    have k1 := (bW.block W.heap.size (by rw [hsz]; omega)).trans f1
    have k2 := (bW.block (W.heap.size + 1) (by rw [hsz]; omega)).trans f2
    exact below11_any n c x W.heap.size (W.heap.size + 1) l u W' hu (hr l hm) hc hn (by rw [cell_of_row _ _ _ _ _ _ k1]; rfl) (by rw [cell_of_row _ _ _ _ _ _ k2]; rfl))
  have hb' := (bb.cell (p := ⟨b, 0, none⟩) hbl).trans hb
  obtain ⟨a, cap, rfl, _⟩ := hv
  generalize (ls.any fun l => l.getD c 0 == (x : Int)) = q at *
  clear f1 f2
  go_enter Try.func45, Try.ntmps45
  go_wp2_with (go_at_call 46; refine C.mono ?_; rintro e w1 ⟨rfl, b1⟩; clear C)
  go_ret
  exact ⟨rfl, Below.next bb b1⟩
end Go.Proofs.Ytagpbkcnjogbgaa
