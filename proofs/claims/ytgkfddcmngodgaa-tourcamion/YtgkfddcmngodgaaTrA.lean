/- The first cycle: there is one just if all come to all. Nothing of the program. -/
import Derived.Test.YtgkfddcmngodgaaV2
import Derived.Test.YtgkfddcmngodgaaTrY
import Derived.Test.YtgkfddcmngodgaaTrL
/- The document's PathsOf and CycleOf, walked. -/
namespace Go.Proofs.Ytgkfddcmngodgaa
open Go.RowKit Go.Maps

/-- Paths: how many, the first; the first cycle, if any. -/
def paN (n : Nat) (t : Nat → Nat → Bool) : Nat := (wk n t false n []).1
def paL (n : Nat) (t : Nat → Nat → Bool) : List Nat := (wk n t false n []).2
def cyN (n : Nat) (t : Nat → Nat → Bool) : Nat := (wk n t true (n - 1) [0]).1
def cyL (n : Nat) (t : Nat → Nat → Bool) : List Nat := (wk n t true (n - 1) [0]).2
set_option maxRecDepth 100000 in
set_option maxHeartbeats 8000000 in
theorem PathsOf_any {n : Nat} {l : List Int} (hg : GoodT n l) (v : Value) (w : World) (hv : Sl w v l) :
    Calls Try.prog 24 #[.agg #[.int .i64 (n : Int), v]] w fun e w' => (∃ y, e = .returned (.tuple #[.int .i64 (paN n (tB n l) : Int), y]) ∧ Sl w' y ((paL n (tB n l)).map Int.ofNat)) ∧ Below w.heap.size w w' := by
  have b1 := balloc w (.cells #[.int .i64 (n : Int), v] 24)
  have HX := sq_cells (n : Int) v w
  obtain ⟨x0, x1⟩ := HX _ (Below.refl _ _)
  have C := walked_any hg false n [] v (.slice none 0 0) _ (hv.below b1) (Sl.nil _) (by simp) (by simp)
  unfold paN paL
  obtain ⟨m, Hm⟩ : ∃ m, Hid ((wk n (tB n l) false n []).1 = m) := ⟨_, rfl⟩
  obtain ⟨f, Hf⟩ : ∃ f, Hid ((wk n (tB n l) false n []).2 = f) := ⟨_, rfl⟩
  rw [Hm.out, Hf.out] at C ⊢
  clear HX hv hg
  go_enter Try.func24, Try.ntmps24
  go_wp2_with (go_at_call 37; refine C.mono ?_; rintro e w5 ⟨⟨y, rfl, hy⟩, b5⟩; clear C)
  go_ret2
  exact ⟨⟨y, rfl, hy⟩, b1.trans (b5.mono b1.size)⟩
set_option maxRecDepth 100000 in
set_option maxHeartbeats 8000000 in
theorem CycleOf_any {n : Nat} {l : List Int} (hg : GoodT n l) (v : Value) (w : World) (hv : Sl w v l) :
    Calls Try.prog 25 #[.agg #[.int .i64 (n : Int), v]] w fun e w' => (∃ y, e = .returned (.tuple #[y, .int .i64 (if cyN n (tB n l) = 0 then 4 else 0)]) ∧ Sl w' y ((if cyN n (tB n l) = 0 then [] else cyL n (tB n l)).map Int.ofNat)) ∧ Below w.heap.size w w' := by
  have hn1 := hg.one
  have b1 := balloc w (.cells #[.int .i64 (n : Int), v] 24)
  have HX := sq_cells (n : Int) v w
  obtain ⟨x0, x1⟩ := HX _ (Below.refl _ _)
  have b2 := balloc (w.alloc (.cells #[.int .i64 (n : Int), v] 24)) (.cells #[.int .i64 0] 3)
  have hl0 : Sl ((w.alloc (.cells #[.int .i64 (n : Int), v] 24)).alloc (.cells #[.int .i64 0] 3)) (.slice (some ⟨(w.alloc (.cells #[.int .i64 (n : Int), v] 24)).heap.size, 0, none⟩) 1 1) (([0] : List Nat).map Int.ofNat) := by
    refine Sl.owned (base := (w.alloc (.cells #[.int .i64 (n : Int), v] 24)).heap.size) ?_
    exact ⟨rfl, .inr ⟨_, 1, #[.int .i64 0], rfl, Nat.le_refl _, heap_alloc_new _ _, Nat.le_refl _, by unfold maxLen; omega, rfl, rfl⟩⟩
  have C := walked_any hg true (n - 1) [0] v _ _ ((hv.below b1).below b2) hl0 (by simp; omega) (by simp; omega)
  have e1 : (w.alloc (.cells #[.int .i64 (n : Int), v] 24)).heap.size = w.heap.size + 1 := by simp
  rw [e1] at C
  have hB : Below w.heap.size w ((w.alloc (.cells #[.int .i64 (n : Int), v] 24)).alloc (.cells #[.int .i64 0] 3)) := b1.trans (b2.mono b1.size)
  unfold cyN cyL
  obtain ⟨m, Hm⟩ : ∃ m, Hid ((wk n (tB n l) true (n - 1) [0]).1 = m) := ⟨_, rfl⟩
  obtain ⟨f, Hf⟩ : ∃ f, Hid ((wk n (tB n l) true (n - 1) [0]).2 = f) := ⟨_, rfl⟩
  rw [Hm.out, Hf.out] at C ⊢
  clear HX hv hg hl0 b2 b1
  by_cases hm : m = 0
  · subst hm
    rw [if_pos rfl, if_pos rfl]
    go_enter Try.func25, Try.ntmps25
    go_wp2_with (go_at_call 37; refine C.mono ?_; rintro e w5 ⟨⟨y, rfl, hy⟩, b5⟩; clear C)
    go_ret2
    exact ⟨⟨_, rfl, Sl.nil _⟩, hB.trans (b5.mono hB.size)⟩
  · rw [if_neg hm, if_neg hm]
    have hmb : ((m : Int) == 0) = false := by simp [hm]
    clear hm
    go_enter Try.func25, Try.ntmps25
    go_wp2_with (go_at_call 37; refine C.mono ?_; rintro e w5 ⟨⟨y, rfl, hy⟩, b5⟩; clear C)
    go_ret2
    exact ⟨⟨y, rfl, hy⟩, hB.trans (b5.mono hB.size)⟩
end Go.Proofs.Ytgkfddcmngodgaa

/- How many paths: an odd number; the first path, the first cycle. Nothing of the program. -/
namespace Go.Proofs.Ytgkfddcmngodgaa

theorem sumL_flat {α : Type} (F : Nat → List α) : ∀ S : List Nat, (S.flatMap F).length = sumL (S.map fun x => (F x).length)
  | [] => rfl
  | x :: S => by rw [List.flatMap_cons, List.length_append, sumL_flat F S, List.map_cons, sumL_cons]
theorem sumL_filter (p : Nat → Bool) (g : Nat → Nat) : ∀ S : List Nat, sumL (S.map fun x => if p x then g x else 0) = sumL ((S.filter p).map g)
  | [] => rfl
  | x :: S => by
    rw [List.map_cons, sumL_cons, sumL_filter p g S]
    cases h : p x with
    | true => rw [List.filter_cons_of_pos h, List.map_cons, sumL_cons]; rfl
    | false => rw [List.filter_cons_of_neg (by rw [h]; simp)]; simp
/-- Who is not in the list. -/
def rsL (n : Nat) (L : List Nat) : List Nat := (List.range n).filter fun x => !L.contains x
theorem rsL_nod (n : Nat) (L : List Nat) : (rsL n L).Nodup := List.nodup_range.filter _
theorem rsL_erase (n : Nat) (L : List Nat) (b : Nat) : (rsL n L).erase b = rsL n (L ++ [b]) := by
  rw [(rsL_nod n L).erase_eq_filter]
  unfold rsL
  rw [List.filter_filter]
  refine List.filter_congr fun x _ => ?_
  have e : (L ++ [b]).contains x = (L.contains x || x == b) := by
    rw [Bool.eq_iff_iff, Bool.or_eq_true, List.contains_iff_mem, List.contains_iff_mem, beq_iff_eq, List.mem_append, List.mem_singleton]
  rw [e, Bool.not_or, Bool.and_comm]
  rfl
section
variable {n : Nat} {t : Nat → Nat → Bool}
theorem goL_cn : ∀ {k : Nat} {L : List Nat}, 0 < L.length → (goL n t k L).length = cnN t k (rsL n L) (L.getD (L.length - 1) 0)
  | 0, L, _ => rfl
  | k + 1, L, h0 => by
    have h1 : (goL n t (k + 1) L).length = sumL ((List.range n).map fun b => if !L.contains b then (if t (L.getD (L.length - 1) 0) b then cnN t k (rsL n (L ++ [b])) b else 0) else 0) := by
      conv => lhs; unfold goL
      rw [sumL_flat]
      congr 1
      refine List.map_congr_left fun b _ => ?_
      cases hc : L.contains b with
      | true => rfl
      | false =>
        cases ht : t (L.getD (L.length - 1) 0) b with
        | true =>
          have := goL_cn (k := k) (L := L ++ [b]) (by simp)
          have hd : decide (0 < L.length) = true := decide_eq_true h0
          simp only [hd, Bool.false_or, Bool.true_and, Bool.not_true, Bool.false_eq_true, reduceIte, Bool.not_false]
          rw [this]
          congr 1
          simp
        | false =>
          have hd : decide (0 < L.length) = true := decide_eq_true h0
          simp only [hd, Bool.false_or, Bool.true_and, Bool.not_false, reduceIte, List.length_nil, Bool.false_eq_true]
    rw [h1, sumL_filter]
    show _ = sN (rsL n L) fun b R' => if t (L.getD (L.length - 1) 0) b then cnN t k R' b else 0
    rw [sN_sum _ (rsL_nod n L)]
    congr 1
    refine List.map_congr_left fun b _ => ?_
    rw [rsL_erase]
theorem rsL_one {b : Nat} (_hb : b < n) : rsL n [b] = (List.range n).erase b := by
  have h := rsL_erase n [] b
  rw [List.nil_append] at h
  rw [← h]
  congr 1
  unfold rsL
  exact List.filter_eq_self.2 fun x _ => rfl
theorem goL_cH (hn : 1 ≤ n) : (goL n t n []).length = cH t (List.range n) := by
  obtain ⟨k, rfl⟩ : ∃ k, n = k + 1 := ⟨n - 1, by omega⟩
  have h1 : (goL (k + 1) t (k + 1) []).length = sumL ((List.range (k + 1)).map fun b => cnN t k (rsL (k + 1) [b]) b) := by
    conv => lhs; unfold goL
    rw [sumL_flat]
    congr 1
    refine List.map_congr_left fun b _ => ?_
    have := goL_cn (n := k + 1) (t := t) (k := k) (L := [b]) (by simp)
    simpa using this
  rw [h1]
  unfold cH
  rw [sN_sum _ List.nodup_range]
  congr 1
  refine List.map_congr_left fun b hb => ?_
  have hb := List.mem_range.1 hb
  rw [rsL_one hb, List.length_erase_of_mem (List.mem_range.2 hb), List.length_range]
  rfl
theorem filt_all (L : List (List Nat)) : L.filter (okR n t false) = L := List.filter_eq_self.2 fun _ _ => rfl
theorem paN_is : paN n t = (goL n t n []).length := by unfold paN; rw [wk_is, filt_all]
theorem paL_is : paL n t = (goL n t n []).headD [] := by unfold paL; rw [wk_is, filt_all]
theorem wlk_nil : Wlk n t [] := ⟨List.nodup_nil, by simp, trivial⟩
/-- All paths. -/
theorem mem_paths {M : List Nat} : M ∈ goL n t n [] ↔ M.length = n ∧ Wlk n t M := by
  rw [mem_goL wlk_nil]
  constructor
  · rintro ⟨R, rfl, h1, h2⟩
    exact ⟨by simpa using h1, h2⟩
  · rintro ⟨h1, h2⟩
    exact ⟨M, by simp, h1, h2⟩
theorem paN_odd (hn : 1 ≤ n) (h : Trn (List.range n) t) : paN n t % 2 = 1 := by rw [paN_is, goL_cH hn, odd_paths hn h]
/-- The first of them is one. -/
theorem paL_mem (hn : 1 ≤ n) (h : Trn (List.range n) t) : (paL n t).length = n ∧ Wlk n t (paL n t) := by
  have ho := paN_odd hn h
  rw [paN_is] at ho
  rw [paL_is]
  cases he : goL n t n [] with
  | nil => rw [he] at ho; simp at ho
  | cons M Ms => exact mem_paths.1 (by rw [he]; simp)
theorem chn_at : ∀ {M : List Nat} {i : Nat}, chn t M → i + 1 < M.length → t (M.getD i 0) (M.getD (i + 1) 0) = true
  | x :: y :: M, 0, h, _ => h.1
  | x :: y :: M, i + 1, h, hi => chn_at (M := y :: M) h.2 (by simpa using hi)
  | [], _, _, hi => by simp at hi
  | [x], _, _, hi => by simp at hi
end
end Go.Proofs.Ytgkfddcmngodgaa

namespace Go.Proofs.Ytgkfddcmngodgaa

section
variable {n : Nat} {t : Nat → Nat → Bool}
/-- All cycles, from the first player on. -/
def cyA (n : Nat) (t : Nat → Nat → Bool) : List (List Nat) := (goL n t (n - 1) [0]).filter (okR n t true)
theorem cyN_is : cyN n t = (cyA n t).length := by unfold cyN; rw [wk_is]; rfl
theorem cyL_is : cyL n t = (cyA n t).headD [] := by unfold cyL; rw [wk_is]; rfl
theorem wlk_zero (hn : 1 ≤ n) : Wlk n t [0] := ⟨by simp, fun x hx => by rw [List.mem_singleton] at hx; omega, trivial⟩
theorem mem_cyA (hn : 1 ≤ n) {M : List Nat} : M ∈ cyA n t ↔ ∃ R, M = 0 :: R ∧ M.length = n ∧ Wlk n t M ∧ (1 < n → t (M.getD (n - 1) 0) 0 = true) := by
  unfold cyA
  rw [List.mem_filter, mem_goL (wlk_zero hn)]
  unfold okR
  constructor
  · rintro ⟨⟨R, rfl, hR, hW⟩, hok⟩
    refine ⟨R, rfl, by simp [hR]; omega, hW, fun h1 => ?_⟩
    simp only [Bool.true_and, decide_eq_true h1, Bool.not_not] at hok
    exact hok
  · rintro ⟨R, rfl, hl, hW, hok⟩
    refine ⟨⟨R, rfl, by simp at hl; omega, hW⟩, ?_⟩
    by_cases h1 : 1 < n
    · simp only [Bool.true_and, decide_eq_true h1, Bool.not_not]
      exact hok h1
    · rw [decide_eq_false h1]
      rfl
theorem getD_last {A : List Nat} {x : Nat} {M : List Nat} {n : Nat} (e : M = A ++ [x]) (hl : M.length = n) : M.getD (n - 1) 0 = x := by
  subst e
  rw [List.length_append] at hl
  have : n - 1 = A.length := by simp at hl; omega
  rw [this, List.getD_eq_getElem?_getD, List.getElem?_append_right (Nat.le_refl _)]
  simp
/-- As many players as there are: all of them. -/
theorem all_in {M : List Nat} (hl : M.length = n) (hW : Wlk n t M) {x : Nat} (hx : x < n) : x ∈ M := by
  refine Classical.byContradiction fun h => ?_
  have := nodT_len hW.nd (m := (List.range n).erase x) fun y hy => (List.mem_erase_of_ne fun e => h (by rw [← e]; exact hy)).2 (List.mem_range.2 (hW.lt y hy))
  rw [List.length_erase_of_mem (List.mem_range.2 hx), List.length_range] at this
  omega
theorem cyc_mem (hn : 1 ≤ n) {R : List Nat} (h : (0 :: R) ∈ cyA n t) : Cyc t 0 R ∧ (∀ x, x < n → x ∈ 0 :: R) ∧ ∀ x ∈ 0 :: R, x < n := by
  obtain ⟨R', e, hl, hW, hok⟩ := (mem_cyA hn).1 h
  refine ⟨⟨hW.nd, hW.ch, fun x A ea hR => ?_⟩, fun x hx => all_in hl hW hx, hW.lt⟩
  have h1 : 1 < n := by
    rw [← hl, List.length_cons]
    have := List.length_pos_iff.2 hR
    omega
  have := hok h1
  rwa [getD_last ea hl] at this
theorem mem_cyc (hn : 1 ≤ n) {R : List Nat} (hc : Cyc t 0 R) (hl : R.length + 1 = n) (hlt : ∀ x ∈ 0 :: R, x < n) : (0 :: R) ∈ cyA n t := by
  refine (mem_cyA hn).2 ⟨R, rfl, by rw [List.length_cons]; exact hl, ⟨hc.nd, hlt, hc.ch⟩, fun h1 => ?_⟩
  have hR : R ≠ [] := fun e => by rw [e] at hl; simp at hl; omega
  obtain ⟨A, x, e⟩ := last_of (l := 0 :: R) (by simp)
  rw [getD_last e (by rw [List.length_cons]; exact hl)]
  exact hc.back x A e hR
/-- Camion's theorem, of what is counted. -/
theorem cyN_strg (hn : 1 ≤ n) (hT : Trn (List.range n) t) : cyN n t ≠ 0 ↔ Strg n t := by
  rw [cyN_is]
  constructor
  · intro h
    obtain ⟨M, hM⟩ := List.exists_mem_of_length_pos (Nat.pos_of_ne_zero h)
    obtain ⟨R, rfl, _⟩ := (mem_cyA hn).1 hM
    obtain ⟨h1, h2, h3⟩ := cyc_mem hn hM
    exact cyc_strg h1 h2 h3
  · intro hS h0
    obtain ⟨R, hc, hl, hlt⟩ := camion hT hS hn
    have := mem_cyc hn hc hl hlt
    rw [List.length_eq_zero_iff.1 h0] at this
    simp at this
/-- The first cycle is one. -/
theorem cyL_mem (h : cyN n t ≠ 0) : cyL n t ∈ cyA n t := by
  rw [cyN_is] at h
  rw [cyL_is]
  cases he : cyA n t with
  | nil => rw [he] at h; simp at h
  | cons M Ms => simp
end
end Go.Proofs.Ytgkfddcmngodgaa
