/- The walks of join and Join. -/
import Derived.Test.YtgpkhfpejopacaaDoorK4
namespace Go.Proofs.YtgpkhfpejopacaaDoor
open Go.RowKit

theorem jnO_some {B : List (List Nat)} {p q i : Nat} (h : jnO B p q = some i) : i < B.length ∧ inc B p i = true ∧ inc B q i = true ∧ ∀ j, j < i → ((B.getD j []).contains p && (B.getD j []).contains q) = false := by
  unfold jnO at h
  rw [List.find?_range_eq_some] at h
  obtain ⟨h1, h2, h3⟩ := h
  rw [Bool.and_eq_true] at h1
  exact ⟨List.mem_range.1 h2, h1.1, h1.2, fun j hj => Bool.eq_false_iff.2 fun e => by have := h3 j hj; rw [e] at this; cases this⟩
theorem Pln.jn {v : Nat} {B : List (List Nat)} (H : Pln v B.length (inc B)) {p q : Nat} (hp : p < v) (hq : q < v) (hn : p ≠ q) : ∃ i, jnO B p q = some i := by
  obtain ⟨i, hi, h1, h2⟩ := H.join p q hp hq hn
  cases h : jnO B p q with
  | some k => exact ⟨k, rfl⟩
  | none =>
    unfold jnO at h
    rw [List.find?_range_eq_none] at h
    have := h i hi
    unfold inc at h1 h2
    rw [h1, h2] at this
    simp at this
theorem bx3 (w : World) (x y : Int) (o : Obj) : ∀ W, Below (((w.alloc o).alloc (.cells #[.int .i64 x] 3)).alloc (.cells #[.int .i64 y] 3)).heap.size (((w.alloc o).alloc (.cells #[.int .i64 x] 3)).alloc (.cells #[.int .i64 y] 3)) W → W.cell? ⟨w.heap.size + 1, 0, none⟩ = some (.int .i64 x) ∧ W.cell? ⟨w.heap.size + 1 + 1, 0, none⟩ = some (.int .i64 y) := fun W hW => by
  have e1 : (w.alloc o).heap.size = w.heap.size + 1 := by simp
  have e2 : ((w.alloc o).alloc (.cells #[.int .i64 x] 3)).heap.size = w.heap.size + 1 + 1 := by simp
  have k1 : (((w.alloc o).alloc (.cells #[.int .i64 x] 3)).alloc (.cells #[.int .i64 y] 3)).heap[w.heap.size + 1]? = some (.cells #[.int .i64 x] 3 (0, 0)) := by
    rw [(balloc ((w.alloc o).alloc (.cells #[.int .i64 x] 3)) (.cells #[.int .i64 y] 3)).block (w.heap.size + 1) (by omega), ← e1]
    exact heap_alloc_new (w.alloc o) _
  have k2 : (((w.alloc o).alloc (.cells #[.int .i64 x] 3)).alloc (.cells #[.int .i64 y] 3)).heap[w.heap.size + 1 + 1]? = some (.cells #[.int .i64 y] 3 (0, 0)) := by
    rw [← e2]
    exact heap_alloc_new ((w.alloc o).alloc (.cells #[.int .i64 x] 3)) _
  have j1 := (hW.block (w.heap.size + 1) (by simp)).trans k1
  have j2 := (hW.block (w.heap.size + 1 + 1) (by simp)).trans k2
  exact ⟨by rw [cell_of_row _ _ _ _ _ _ j1]; rfl, by rw [cell_of_row _ _ _ _ _ _ j2]; rfl⟩
set_option maxRecDepth 100000 in
set_option maxHeartbeats 4000000 in
theorem join_any (v p q i : Nat) (B : List (List Nat)) (u : Value) (w : World) (G : GoodD v B) (hu : Rw w u (toZ B)) (hi : jnO B p q = some i) :
    Calls Tryd.prog 43 #[.agg #[.int .i64 (v : Int), u], .int .i64 (p : Int), .int .i64 (q : Int)] w fun e w' => e = .returned (.int .i64 (i : Int)) ∧ Below w.heap.size w w' := by
  obtain ⟨h1, h2, h3, h4⟩ := jnO_some hi
  have hb1 := balloc w (.cells #[.int .i64 (v : Int), u] 29)
  have hb2 := Below.next hb1 (balloc _ (.cells #[.int .i64 (p : Int)] 3))
  have hb3 := Below.next hb2 (balloc _ (.cells #[.int .i64 (q : Int)] 3))
  have HB3 := bx3 w p q (.cells #[.int .i64 (v : Int), u] 29)
  obtain ⟨x0, x1⟩ := des_box (v : Int) u w _ (Below.mono (balloc _ (.cells #[.int .i64 (p : Int)] 3)) (Nat.le_refl _))
  obtain ⟨y0, y1⟩ := des_box (v : Int) u w _ (Below.next (balloc _ (.cells #[.int .i64 (p : Int)] 3)) (balloc _ (.cells #[.int .i64 (q : Int)] 3)))
  have C := IndexFunc_any B (fun b => b.contains p && b.contains q) i #[.pointer (some ⟨w.heap.size + 1, 0, none⟩), .pointer (some ⟨w.heap.size + 1 + 1, 0, none⟩)] u _ (hu.below hb3) G.few (fun W hW u b hb hs => by
      obtain ⟨z1, z2⟩ := HB3 W hW
      exact join1_any b p q (w.heap.size + 1) (w.heap.size + 1 + 1) u W hs (by have := G.len hb; omega) z1 z2) h1 (fun b hb => by
      rw [inc_at hb] at h2 h3
      rw [h2, h3]; rfl) (fun j b hj hb => by
      have := h4 j hj
      rw [List.getD_eq_getElem?_getD, hb] at this
      exact this)
  obtain ⟨a, n, c, rfl⟩ : ∃ a n c, u = .slice a n c := by obtain ⟨a, c, e, _⟩ := hu; exact ⟨a, _, c, e⟩
  clear hu hi h1 h2 h3 h4 HB3 G
  go_enter Tryd.func43, Tryd.ntmps43
  go_wp2_with (go_at_call 68; refine C.mono ?_; rintro e w1 ⟨rfl, b1⟩; clear C)
  go_ret
  exact ⟨rfl, Below.next hb3 b1⟩
/-- What Check says of a design that is none, or of none that is a plane. -/
def PCz (p : Int) (ls : List (List Int)) (z : Nat) : Prop := (dF p ls ≠ 0 ∧ z = dF p ls) ∨ (∃ (v : Nat) (B : List (List Nat)), p = v ∧ ls = toZ B ∧ GoodD v B ∧ dF p ls = 0 ∧ ¬ PlP v B ∧ z = 4)
theorem PCz.ne {p : Int} {ls : List (List Int)} {z : Nat} (h : PCz p ls z) : z ≠ 0 := by
  rcases h with ⟨h, rfl⟩ | ⟨_, _, _, _, _, _, _, rfl⟩
  · exact h
  · omega
theorem PCheck_z (p : Int) (ls : List (List Int)) (z : Nat) (u : Value) (w : World) (hT : Tab w) (hu : Rw w u ls) (hl : ls.length ≤ maxLen) (hll : ∀ l ∈ ls, l.length ≤ maxLen) (h : PCz p ls z) :
    Calls Tryd.prog 17 #[.agg #[.int .i64 p, u]] w fun e w' => e = .returned (.tuple #[.int .i64 0, .int .i64 (z : Int)]) ∧ Below w.heap.size w w' := by
  rcases h with ⟨h, rfl⟩ | ⟨v, B, rfl, rfl, G, hd, hn, rfl⟩
  · exact PCheck_bad p ls u w hu hl hll h
  · exact PCheck_no v B u w hT G hd hu hn
set_option maxRecDepth 100000 in
set_option maxHeartbeats 4000000 in
theorem Join_bad (p : Int) (ls : List (List Int)) (z : Nat) (x y : Int) (u : Value) (w : World) (hT : Tab w) (hu : Rw w u ls) (hl : ls.length ≤ maxLen) (hll : ∀ l ∈ ls, l.length ≤ maxLen) (h : PCz p ls z) :
    Calls Tryd.prog 18 #[.agg #[.int .i64 p, u], .int .i64 x, .int .i64 y] w fun e w' => e = .returned (.tuple #[.int .i64 0, .int .i64 (z : Int)]) ∧ Below w.heap.size w w' := by
  have b0 := balloc w (.cells #[.int .i64 p, u] 29)
  have C := PCheck_z p ls z u _ (hT.next b0) (hu.below b0) hl hll h
  have hz := h.ne
  have hz2 : ¬ (z : Int) = 0 := by omega
  have hz1 : ((z : Int) != 0) = true := by simpa using hz2
  obtain ⟨x0, x1⟩ := des_box p u w _ (Below.refl _ _)
  obtain ⟨a, n, c, rfl⟩ : ∃ a n c, u = .slice a n c := by obtain ⟨a, c, e, _⟩ := hu; exact ⟨a, _, c, e⟩
  clear hu hl hll h
  go_enter Tryd.func18, Tryd.ntmps18
  go_wp2_with (go_at_call 17; refine C.mono ?_; rintro e w1 ⟨rfl, b1⟩; clear C)
  exact bodyPost_ret (v := .tuple #[.int .i64 0, .int .i64 (z : Int)]) (by simp [results, Tryd.results18, go_sem]) rfl ⟨rfl, Below.next b0 b1⟩
set_option maxRecDepth 100000 in
set_option maxHeartbeats 4000000 in
theorem Join_wrong (v k : Nat) (B : List (List Nat)) (x y : Int) (u : Value) (w : World) (hT : Tab w) (G : GoodD v B) (hd : dF (v : Int) (toZ B) = 0) (hu : Rw w u (toZ B)) (hk : PrP v B k) (hz : c2F v x y ≠ 0) :
    Calls Tryd.prog 18 #[.agg #[.int .i64 (v : Int), u], .int .i64 x, .int .i64 y] w fun e w' => e = .returned (.tuple #[.int .i64 0, .int .i64 (c2F v x y : Int)]) ∧ Below w.heap.size w w' := by
  have b0 := balloc w (.cells #[.int .i64 (v : Int), u] 29)
  have C := PCheck_yes v k B u _ (hT.next b0) G hd (hu.below b0) hk
  have C2 : Hid (∀ W, Calls Tryd.prog 42 #[.int .i64 (v : Int), .int .i64 x, .int .i64 y] W fun e w' => e = .returned (.int .i64 (c2F v x y : Int)) ∧ w' = W) := fun W => checkTwo_any v x y W
  have HC : Hid (∀ W, Below (w.alloc (.cells #[.int .i64 (v : Int), u] 29)).heap.size (w.alloc (.cells #[.int .i64 (v : Int), u] 29)) W → W.cell? ⟨w.heap.size, 0, none⟩ = some (.int .i64 (v : Int)) ∧ W.cell? ⟨w.heap.size, 1, none⟩ = some u) := des_box (v : Int) u w
  obtain ⟨x0, x1⟩ := HC.out _ (Below.refl _ _)
  obtain ⟨a, n, c, rfl⟩ : ∃ a n c, u = .slice a n c := by obtain ⟨a, c, e, _⟩ := hu; exact ⟨a, _, c, e⟩
  obtain ⟨r, Hr⟩ : ∃ r, Hid ((k : Int) - 1 = r) := ⟨_, rfl⟩
  rw [Hr.out] at C
  obtain ⟨z, Hz⟩ : ∃ z, Hid (c2F v x y = z) := ⟨_, rfl⟩
  rw [Hz.out] at C2 hz ⊢
  have hz2 : ¬ (z : Int) = 0 := by omega
  have hz1 : ((z : Int) != 0) = true := by simpa using hz2
  clear hu hd G hk
  go_enter Tryd.func18, Tryd.ntmps18
  go_wp2_with (first
    | (go_at_call 17; refine C.mono ?_; rintro e w1 ⟨rfl, b1⟩; clear C; obtain ⟨y0, y1⟩ := HC.out _ b1; replace b1 := Below.next b0 b1)
    | (go_at_call 42; refine (C2.out _).mono ?_; rintro e w2 ⟨rfl, hw⟩; replace hw := hw.symm; subst hw; clear C2))
  exact bodyPost_ret (v := .tuple #[.int .i64 0, .int .i64 (z : Int)]) (by simp [results, Tryd.results18, go_sem]) rfl ⟨rfl, b1⟩
set_option maxRecDepth 100000 in
set_option maxHeartbeats 4000000 in
theorem Join_ok (v k p q i : Nat) (B : List (List Nat)) (u : Value) (w : World) (hT : Tab w) (G : GoodD v B) (hd : dF (v : Int) (toZ B) = 0) (hu : Rw w u (toZ B)) (hk : PrP v B k) (hz : c2F v p q = 0) (hi : jnO B p q = some i) :
    Calls Tryd.prog 18 #[.agg #[.int .i64 (v : Int), u], .int .i64 (p : Int), .int .i64 (q : Int)] w fun e w' => e = .returned (.tuple #[.int .i64 (i : Int), .int .i64 0]) ∧ Below w.heap.size w w' := by
  have b0 := balloc w (.cells #[.int .i64 (v : Int), u] 29)
  have C := PCheck_yes v k B u _ (hT.next b0) G hd (hu.below b0) hk
  have C2 : Hid (∀ W, Calls Tryd.prog 42 #[.int .i64 (v : Int), .int .i64 (p : Int), .int .i64 (q : Int)] W fun e w' => e = .returned (.int .i64 0) ∧ w' = W) := fun W => by
    have h := checkTwo_any v p q W
    rw [hz] at h
    exact h
  have HJ : Hid (∀ W, Below w.heap.size w W → Calls Tryd.prog 43 #[.agg #[.int .i64 (v : Int), u], .int .i64 (p : Int), .int .i64 (q : Int)] W fun e w' => e = .returned (.int .i64 (i : Int)) ∧ Below W.heap.size W w') := fun W hW => join_any v p q i B u W G (hu.below hW) hi
  have HC : Hid (∀ W, Below (w.alloc (.cells #[.int .i64 (v : Int), u] 29)).heap.size (w.alloc (.cells #[.int .i64 (v : Int), u] 29)) W → W.cell? ⟨w.heap.size, 0, none⟩ = some (.int .i64 (v : Int)) ∧ W.cell? ⟨w.heap.size, 1, none⟩ = some u) := des_box (v : Int) u w
  obtain ⟨x0, x1⟩ := HC.out _ (Below.refl _ _)
  obtain ⟨a, n, c, rfl⟩ : ∃ a n c, u = .slice a n c := by obtain ⟨a, c, e, _⟩ := hu; exact ⟨a, _, c, e⟩
  obtain ⟨r, Hr⟩ : ∃ r, Hid ((k : Int) - 1 = r) := ⟨_, rfl⟩
  rw [Hr.out] at C
  clear hu hd G hk hz hi
  go_enter Tryd.func18, Tryd.ntmps18
  go_wp2_with (first
    | (go_at_call 17; refine C.mono ?_; rintro e w1 ⟨rfl, b1⟩; clear C; obtain ⟨y0, y1⟩ := HC.out _ b1; replace b1 := Below.next b0 b1)
    | (go_at_call 42; refine (C2.out _).mono ?_; rintro e w2 ⟨rfl, hw⟩; replace hw := hw.symm; subst hw; clear C2; have CJ := HJ.out _ b1)
    | (go_at_call 43; refine CJ.mono ?_; rintro e w3 ⟨rfl, b3⟩; clear CJ; replace b3 := Below.next b1 b3))
  exact bodyPost_ret (v := .tuple #[.int .i64 (i : Int), .int .i64 0]) (by simp [results, Tryd.results18, go_sem]) rfl ⟨rfl, b3⟩

end Go.Proofs.YtgpkhfpejopacaaDoor
