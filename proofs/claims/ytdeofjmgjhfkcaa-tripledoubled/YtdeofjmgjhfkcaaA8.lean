/- The walk of Make. -/
import Derived.Test.YtdeofjmgjhfkcaaA7
import Derived.Test.YtdeofjmgjhfkcaaDDu
namespace Go.Proofs.Ytdeofjmgjhfkcaa
open Go.RowKit

/-- The blocks of a system that is made. -/
def mkL (n : Nat) : List (List Nat) := if n % 6 = 1 then skL (n / 6) else boL (n / 6)
theorem mkL_three (n : Nat) : ∀ b ∈ mkL n, b.length = 3 := by
  unfold mkL
  by_cases h : n % 6 = 1
  · rw [if_pos h]; exact skL_three _
  · rw [if_neg h]; exact boL_three _
/-- What is told of how many points. -/
def MkT (v p e : Int) (L : List (List Nat)) : Prop := ((v < 1 ∨ 33 < v) ∧ p = 0 ∧ e = 1 ∧ L = []) ∨ (∃ n : Nat, v = n ∧ 1 ≤ n ∧ n ≤ 33 ∧ (((n % 6 = 1 ∨ n % 6 = 3) ∧ p = n ∧ e = 0 ∧ L = mkL n) ∨ (n % 6 ≠ 1 ∧ n % 6 ≠ 3 ∧ p = 0 ∧ e = 4 ∧ L = [])))
theorem MkT.one {v p e p' e' : Int} {L L' : List (List Nat)} (h : MkT v p e L) (h' : MkT v p' e' L') : p = p' ∧ e = e' ∧ L = L' := by
  rcases h with ⟨h1, rfl, rfl, rfl⟩ | ⟨n, rfl, h2, h3, h⟩
  · rcases h' with ⟨_, rfl, rfl, rfl⟩ | ⟨n, rfl, h2, h3, _⟩
    · exact ⟨rfl, rfl, rfl⟩
    · omega
  · rcases h' with ⟨h1, _⟩ | ⟨n', e1, _, _, h'⟩
    · omega
    · obtain rfl : n = n' := by omega
      rcases h with ⟨a, rfl, rfl, rfl⟩ | ⟨a, b, rfl, rfl, rfl⟩ <;> rcases h' with ⟨a', rfl, rfl, rfl⟩ | ⟨a', b', rfl, rfl, rfl⟩
      · exact ⟨rfl, rfl, rfl⟩
      · omega
      · omega
      · exact ⟨rfl, rfl, rfl⟩
theorem MkT.three {v p e : Int} {L : List (List Nat)} (h : MkT v p e L) : ∀ b ∈ L, b.length = 3 := by
  rcases h with ⟨_, _, _, rfl⟩ | ⟨n, _, _, _, ⟨_, _, _, rfl⟩ | ⟨_, _, _, _, rfl⟩⟩
  · simp
  · exact mkL_three n
  · simp
theorem Srtd.one {L Z Z' : List (List Nat)} (h3 : ∀ b ∈ L, b.length = 3) (h : Srtd L Z) (h' : Srtd L Z') : Z = Z' := by
  refine (h.perm.trans h'.perm.symm).eq_of_pairwise (fun a b ha hb h1 h2 => ?_) h.ord h'.ord
  rcases llt_tri (s := a) (t := b) (by rw [h3 a (h.perm.mem_iff.1 ha), h3 b (h'.perm.mem_iff.1 hb)]) with g | g | g
  · exact (h2 g).elim
  · exact g
  · exact (h1 g).elim
theorem Srtd.nil : Srtd [] [] := ⟨List.Perm.refl _, List.Pairwise.nil⟩
set_option maxRecDepth 100000 in
set_option maxHeartbeats 4000000 in
theorem Make_far (v : Int) (w : World) (h : v < 1 ∨ 33 < v) :
    Calls Try.prog 9 #[.int .i64 v] w fun e w' => e = .returned (.tuple #[.agg #[.int .i64 0, .slice none 0 0], .int .i64 1]) ∧ Below w.heap.size w w' := by
  have hr := heap_alloc_new w (.cells #[.int .i64 0, .slice none 0 0] 24)
  have b1 := balloc w (.cells #[.int .i64 0, .slice none 0 0] 24)
  have h6 := heap_setCell_same _ w.heap.size 0 _ 24 (.int .i64 0) hr
  have h7 := heap_setCell_same _ w.heap.size 1 _ 24 (.slice none 0 0) h6
  have b7 := (b1.setCell (p := ⟨w.heap.size, 0, none⟩) (Nat.le_refl _) (.int .i64 0)).setCell (p := ⟨w.heap.size, 1, none⟩) (Nat.le_refl _) (.slice none 0 0)
  have H6 : Hid (_ ∧ Below w.heap.size w _) := ⟨h7, b7⟩
  have H1 : Hid (_ ∧ Below w.heap.size w _) := ⟨hr, b1⟩
  have z0 := frozen_of_row _ _ 0 _ _ hr
  have z1 := frozen_of_row _ _ 1 _ _ hr
  have y0 := cell_of_row _ _ 0 _ _ _ hr
  have y1 := cell_of_row _ _ 1 _ _ _ hr
  clear hr b1 h6 h7 b7
  by_cases h1 : v < 1
  · have hd : decide (v < 1) = true := by simp; omega
    go_enter Try.func9, Try.ntmps9
    go_wp2
    first
      | exact post_d2 2 3 rfl rfl H1.out.1 rfl rfl ⟨rfl, H1.out.2⟩
      | exact post_d2 2 3 rfl rfl (by simpa using H6.out.1) rfl rfl ⟨rfl, H6.out.2⟩
  · have hd : decide (v < 1) = false := by simp; omega
    have hd2 : decide (33 < v) = true := by simp; omega
    have h2 : 33 < v := by omega
    go_enter Try.func9, Try.ntmps9
    go_wp2
    first
      | exact post_d2 2 3 rfl rfl H1.out.1 rfl rfl ⟨rfl, H1.out.2⟩
      | exact post_d2 2 3 rfl rfl (by simpa using H6.out.1) rfl rfl ⟨rfl, H6.out.2⟩
set_option maxRecDepth 100000 in
set_option maxHeartbeats 4000000 in
theorem Make_none (n : Nat) (w : World) (h0 : 1 ≤ n) (h3 : n ≤ 33) (h1 : n % 6 ≠ 1) (h2 : n % 6 ≠ 3) :
    Calls Try.prog 9 #[.int .i64 (n : Int)] w fun e w' => e = .returned (.tuple #[.agg #[.int .i64 0, .slice none 0 0], .int .i64 4]) ∧ Below w.heap.size w w' := by
  have hr := heap_alloc_new w (.cells #[.int .i64 0, .slice none 0 0] 24)
  have b1 := balloc w (.cells #[.int .i64 0, .slice none 0 0] 24)
  have h6 := heap_setCell_same _ w.heap.size 0 _ 24 (.int .i64 0) hr
  have h7 := heap_setCell_same _ w.heap.size 1 _ 24 (.slice none 0 0) h6
  have b7 := (b1.setCell (p := ⟨w.heap.size, 0, none⟩) (Nat.le_refl _) (.int .i64 0)).setCell (p := ⟨w.heap.size, 1, none⟩) (Nat.le_refl _) (.slice none 0 0)
  have H6 : Hid (_ ∧ Below w.heap.size w _) := ⟨h7, b7⟩
  have H1 : Hid (_ ∧ Below w.heap.size w _) := ⟨hr, b1⟩
  have z0 := frozen_of_row _ _ 0 _ _ hr
  have z1 := frozen_of_row _ _ 1 _ _ hr
  have y0 := cell_of_row _ _ 0 _ _ _ hr
  have y1 := cell_of_row _ _ 1 _ _ _ hr
  have hd1 : decide ((n : Int) < 1) = false := by simp; omega
  have hd2 : decide ((33 : Int) < (n : Int)) = false := by simp; omega
  have hd3 : ¬ (n : Int) < 1 := by omega
  have hd4 : ¬ (33 : Int) < (n : Int) := by omega
  have hm : (n : Int).tmod 6 = ((n % 6 : Nat) : Int) := by rw [Int.tmod_eq_emod_of_nonneg (by omega)]; rfl
  have hlt : n % 6 < 6 := Nat.mod_lt _ (by omega)
  generalize n % 6 = r at *
  have e1 : ((r : Int) == 1) = false := by simp; omega
  have e2 : ((r : Int) == 3) = false := by simp; omega
  have e3 : ¬ (r : Int) = 1 := by omega
  have e4 : ¬ (r : Int) = 3 := by omega
  clear hr b1 h6 h7 b7
  go_enter Try.func9, Try.ntmps9
  go_wp2
  first
    | exact post_d2 2 3 rfl rfl H1.out.1 rfl rfl ⟨rfl, H1.out.2⟩
    | exact post_d2 2 3 rfl rfl (by simpa using H6.out.1) rfl rfl ⟨rfl, H6.out.2⟩
theorem made_box {wb w : World} {base n : Nat} {p : Int} {y : Value} {Z : List (List Nat)} (hb : Below (wb.heap.size + 1) (wb.alloc (.cells #[.int .i64 0, .slice none 0 0] 24)) w) (hn : wb.heap.size + 1 ≤ base) (hO : OR w base y Z) (_ : n = 0) :
    w.heap[wb.heap.size]? = some (.cells #[.int .i64 0, .slice none 0 0] 24 (0, 0)) ∧ ((w.setCell ⟨wb.heap.size, 0, none⟩ (.int .i64 p)).setCell ⟨wb.heap.size, 1, none⟩ y).heap[wb.heap.size]? = some (.cells #[.int .i64 p, y] 24 (0, 0)) ∧ Rw ((w.setCell ⟨wb.heap.size, 0, none⟩ (.int .i64 p)).setCell ⟨wb.heap.size, 1, none⟩ y) y (toZ Z) ∧ Below wb.heap.size wb ((w.setCell ⟨wb.heap.size, 0, none⟩ (.int .i64 p)).setCell ⟨wb.heap.size, 1, none⟩ y) := by
  have h : w.heap[wb.heap.size]? = some (.cells #[.int .i64 0, .slice none 0 0] 24 (0, 0)) := (hb.block _ (by omega)).trans (heap_alloc_new wb _)
  have h6 := heap_setCell_same w wb.heap.size 0 _ 24 (.int .i64 p) h
  have h7 := heap_setCell_same _ wb.heap.size 1 _ 24 y h6
  refine ⟨h, by simpa using h7, (hO.keep fun b hb' _ => (heap_setCell_other _ ⟨wb.heap.size, 1, none⟩ b _ (by show b ≠ wb.heap.size; omega)).trans (heap_setCell_other w ⟨wb.heap.size, 0, none⟩ b _ (by show b ≠ wb.heap.size; omega))).rw, ?_⟩
  exact ((((balloc wb _).trans (hb.mono (by omega))).setCell (p := ⟨wb.heap.size, 0, none⟩) (Nat.le_refl _) _).setCell (p := ⟨wb.heap.size, 1, none⟩) (Nat.le_refl _) _)
set_option maxRecDepth 100000 in
set_option maxHeartbeats 4000000 in
theorem Make_sk (n : Nat) (w : World) (h0 : 1 ≤ n) (h3 : n ≤ 33) (h1 : n % 6 = 1) :
    Calls Try.prog 9 #[.int .i64 (n : Int)] w fun e w' => ∃ x Z, e = .returned (.tuple #[.agg #[.int .i64 (n : Int), x], .int .i64 0]) ∧ Srtd (skL (n / 6)) Z ∧ Rw w' x (toZ Z) ∧ Below w.heap.size w w' := by
  have hr := heap_alloc_new w (.cells #[.int .i64 0, .slice none 0 0] 24)
  have hd1 : decide ((n : Int) < 1) = false := by simp; omega
  have hd2 : decide ((33 : Int) < (n : Int)) = false := by simp; omega
  have hd3 : ¬ (n : Int) < 1 := by omega
  have hd4 : ¬ (33 : Int) < (n : Int) := by omega
  have hm : (n : Int).tmod 6 = 1 := by rw [Int.tmod_eq_emod_of_nonneg (by omega)]; omega
  have hq : (n : Int).tdiv 6 = ((n / 6 : Nat) : Int) := by rw [Int.tdiv_eq_ediv_of_nonneg (by omega)]; rfl
  have C := skolem_any (n / 6) (w.alloc (.cells #[.int .i64 0, .slice none 0 0] 24)) (by omega)
  rw [show 6 * (n / 6) + 1 = n by omega, World.size_alloc] at C
  have hq5 : n / 6 ≤ 5 := by omega
  generalize skL (n / 6) = M at *
  generalize n / 6 = q at *
  have HC : Hid (Calls Try.prog 26 #[.int .i64 (q : Int)] (w.alloc (.cells #[.int .i64 0, .slice none 0 0] 24)) fun e w' => ∃ x Z, e = .returned (.agg #[.int .i64 (n : Int), x]) ∧ Srtd M Z ∧ OR w' (w.heap.size + 1 + 4) x Z ∧ Below (w.heap.size + 1) (w.alloc (.cells #[.int .i64 0, .slice none 0 0] 24)) w') := C
  clear C hr h1
  go_enter Try.func9, Try.ntmps9
  go_wp2_with (go_at_call 26; refine HC.out.mono ?_; rintro e w1 ⟨x, Z, rfl, hS, hO, hB⟩; clear HC; obtain ⟨xa, xc, rfl⟩ := hO.cap; have hZl := hS.len; rw [hZl] at hO ⊢; obtain ⟨hr, h7, hR, hb7⟩ := made_box (p := (n : Int)) (n := 0) hB (by omega) hO rfl; have H7 : Hid (_ ∧ _ ∧ _) := ⟨h7, hR, hb7⟩; have z0 := frozen_of_row _ _ 0 _ _ hr; have z1 := frozen_of_row _ _ 1 _ _ hr; have y0 := cell_of_row _ _ 0 _ _ _ hr; have y1 := cell_of_row _ _ 1 _ _ _ hr; clear hr h7 hR hb7 hB hO hZl)
  exact post_d2 2 3 rfl rfl H7.out.1 rfl rfl ⟨_, Z, rfl, hS, H7.out.2.1, H7.out.2.2⟩
set_option maxRecDepth 100000 in
set_option maxHeartbeats 4000000 in
theorem Make_bo (n : Nat) (w : World) (h0 : 1 ≤ n) (h3 : n ≤ 33) (h1 : n % 6 = 3) :
    Calls Try.prog 9 #[.int .i64 (n : Int)] w fun e w' => ∃ x Z, e = .returned (.tuple #[.agg #[.int .i64 (n : Int), x], .int .i64 0]) ∧ Srtd (boL (n / 6)) Z ∧ Rw w' x (toZ Z) ∧ Below w.heap.size w w' := by
  have hr := heap_alloc_new w (.cells #[.int .i64 0, .slice none 0 0] 24)
  have hd1 : decide ((n : Int) < 1) = false := by simp; omega
  have hd2 : decide ((33 : Int) < (n : Int)) = false := by simp; omega
  have hd3 : ¬ (n : Int) < 1 := by omega
  have hd4 : ¬ (33 : Int) < (n : Int) := by omega
  have hm : (n : Int).tmod 6 = 3 := by rw [Int.tmod_eq_emod_of_nonneg (by omega)]; omega
  have hq : (n : Int).tdiv 6 = ((n / 6 : Nat) : Int) := by rw [Int.tdiv_eq_ediv_of_nonneg (by omega)]; rfl
  have C := bose_any (n / 6) (w.alloc (.cells #[.int .i64 0, .slice none 0 0] 24)) (by omega)
  rw [show 6 * (n / 6) + 3 = n by omega, World.size_alloc] at C
  have hq5 : n / 6 ≤ 5 := by omega
  generalize boL (n / 6) = M at *
  generalize n / 6 = q at *
  have HC : Hid (Calls Try.prog 27 #[.int .i64 (q : Int)] (w.alloc (.cells #[.int .i64 0, .slice none 0 0] 24)) fun e w' => ∃ x Z, e = .returned (.agg #[.int .i64 (n : Int), x]) ∧ Srtd M Z ∧ OR w' (w.heap.size + 1 + 4) x Z ∧ Below (w.heap.size + 1) (w.alloc (.cells #[.int .i64 0, .slice none 0 0] 24)) w') := C
  clear C hr h1
  go_enter Try.func9, Try.ntmps9
  go_wp2_with (go_at_call 27; refine HC.out.mono ?_; rintro e w1 ⟨x, Z, rfl, hS, hO, hB⟩; clear HC; obtain ⟨xa, xc, rfl⟩ := hO.cap; have hZl := hS.len; rw [hZl] at hO ⊢; obtain ⟨hr, h7, hR, hb7⟩ := made_box (p := (n : Int)) (n := 0) hB (by omega) hO rfl; have H7 : Hid (_ ∧ _ ∧ _) := ⟨h7, hR, hb7⟩; have z0 := frozen_of_row _ _ 0 _ _ hr; have z1 := frozen_of_row _ _ 1 _ _ hr; have y0 := cell_of_row _ _ 0 _ _ _ hr; have y1 := cell_of_row _ _ 1 _ _ _ hr; clear hr h7 hR hb7 hB hO hZl)
  exact post_d2 2 3 rfl rfl H7.out.1 rfl rfl ⟨_, Z, rfl, hS, H7.out.2.1, H7.out.2.2⟩
theorem Make_any (v : Int) (w : World) :
    Calls Try.prog 9 #[.int .i64 v] w fun e w' => ∃ x Z p f L, e = .returned (.tuple #[.agg #[.int .i64 p, x], .int .i64 f]) ∧ MkT v p f L ∧ Srtd L Z ∧ Rw w' x (toZ Z) ∧ Below w.heap.size w w' := by
  by_cases h : v < 1 ∨ 33 < v
  · refine (Make_far v w h).mono ?_
    rintro e w' ⟨rfl, hb⟩
    exact ⟨_, [], 0, 1, [], rfl, .inl ⟨h, rfl, rfl, rfl⟩, Srtd.nil, (OR.nil w' 0).rw, hb⟩
  · obtain ⟨n, rfl⟩ : ∃ n : Nat, v = n := ⟨v.toNat, by omega⟩
    by_cases h1 : n % 6 = 1
    · refine (Make_sk n w (by omega) (by omega) h1).mono ?_
      rintro e w' ⟨x, Z, rfl, hS, hR, hb⟩
      exact ⟨x, Z, n, 0, _, rfl, .inr ⟨n, rfl, by omega, by omega, .inl ⟨.inl h1, rfl, rfl, (if_pos h1).symm⟩⟩, hS, hR, hb⟩
    · by_cases h2 : n % 6 = 3
      · refine (Make_bo n w (by omega) (by omega) h2).mono ?_
        rintro e w' ⟨x, Z, rfl, hS, hR, hb⟩
        exact ⟨x, Z, n, 0, _, rfl, .inr ⟨n, rfl, by omega, by omega, .inl ⟨.inr h2, rfl, rfl, (if_neg h1).symm⟩⟩, hS, hR, hb⟩
      · refine (Make_none n w (by omega) (by omega) h1 h2).mono ?_
        rintro e w' ⟨rfl, hb⟩
        exact ⟨_, [], 0, 4, [], rfl, .inr ⟨n, rfl, by omega, by omega, .inr ⟨h1, h2, rfl, rfl, rfl⟩⟩, Srtd.nil, (OR.nil w' 0).rw, hb⟩

end Go.Proofs.Ytdeofjmgjhfkcaa
