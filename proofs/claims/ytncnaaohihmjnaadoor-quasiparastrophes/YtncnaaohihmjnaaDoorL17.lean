/- The walks of Cyclic, of latinFact. -/
import Derived.Test.YtncnaaohihmjnaaDoorL16
namespace Go.Proofs.YtncnaaohihmjnaaDoor
open Go.RowKit

def cyc (n : Nat) (i j : Nat) : Nat := (i + j) % n
theorem mod_inj {n a b c : Nat} (ha : a < n) (hb : b < n) (e : (a + c) % n = (b + c) % n) : a = b := by
  have h1 : (((a + c : Nat) : Int) - ((b + c : Nat) : Int)) % (n : Int) = 0 := by
    apply Int.emod_eq_zero_of_dvd
    have h2 : ((a + c : Nat) : Int) % n = ((b + c : Nat) : Int) % n := by exact_mod_cast e
    exact Int.dvd_of_emod_eq_zero (Int.emod_eq_emod_iff_emod_sub_eq_zero.1 h2)
  have h3 : ((a + c : Nat) : Int) - ((b + c : Nat) : Int) = (a : Int) - b := by omega
  rw [h3] at h1
  obtain ⟨q, hq⟩ := Int.dvd_of_emod_eq_zero h1
  have hq0 : q = 0 := by
    rcases Int.lt_trichotomy q 0 with h | h | h
    · have : (n : Int) * q ≤ (n : Int) * (-1) := Int.mul_le_mul_of_nonneg_left (by omega) (by omega)
      omega
    · exact h
    · have : (n : Int) * 1 ≤ (n : Int) * q := Int.mul_le_mul_of_nonneg_left (by omega) (by omega)
      omega
  subst hq0
  simp at hq
  omega
theorem cyc_lat {n : Nat} (hn : 0 < n) : Lat n (cyc n) := by
  refine ⟨fun i j _ _ => Nat.mod_lt _ hn, fun i hi j k hj hk e => ?_, fun j hj i k hi hk e => ?_⟩
  · unfold cyc at e
    exact mod_inj hj hk (by rw [Nat.add_comm j i, Nat.add_comm k i]; exact e)
  · unfold cyc at e
    exact mod_inj hi hk e
theorem fl_at {n : Nat} {t : Nat → Nat → Nat} {k : Nat} (hk : k < n * n) : ((flN n t (n * n)).map Int.ofNat).getD k 0 = (t (k / n) (k % n) : Int) := by
  unfold flN
  simp [hk]
theorem fl_sq {n : Nat} {t : Nat → Nat → Nat} {i j : Nat} (hi : i < n) (hj : j < n) : sq n ((flN n t (n * n)).map Int.ofNat) i j = t i j := by
  unfold sq
  rw [fl_at (cell_lt hi hj), (divmod hj).1, (divmod hj).2]
  simp
theorem lat_congr {n : Nat} {s t : Nat → Nat → Nat} (h : ∀ i j, i < n → j < n → s i j = t i j) (L : Lat n s) : Lat n t :=
  ⟨fun i j hi hj => by rw [← h i j hi hj]; exact L.lt i j hi hj, fun i hi j k hj hk e => L.row i hi j k hj hk (by rw [h i j hi hj, h i k hi hk]; exact e), fun j hj i k hi hk e => L.col j hj i k hi hk (by rw [h i j hi hj, h k j hk hj]; exact e)⟩
theorem fl_good {n : Nat} {t : Nat → Nat → Nat} (h1 : 0 < n) (h8 : n ≤ 8) (L : Lat n t) : GoodS n ((flN n t (n * n)).map Int.ofNat) := by
  refine ⟨h1, h8, by simp [flN], fun k hk => ?_, lat_congr (fun i j hi hj => (fl_sq hi hj).symm) L⟩
  rw [fl_at hk]
  have := L.lt (k / n) (k % n) (Nat.div_lt_of_lt_mul hk) (Nat.mod_lt _ h1)
  omega
theorem own_slice {w : World} {base n : Nat} {e : TypeId} {size : Nat} {v : Value} {xs : List Value} (h : w.ownsRow base e size v n xs) : ∃ a l c, v = .slice a l c := by
  obtain ⟨_, ⟨e, _⟩ | ⟨g', cap, cur, e, _⟩⟩ := h
  · exact ⟨_, _, _, e⟩
  · exact ⟨_, _, _, e⟩
theorem orow_base {w : World} {base base' n : Nat} {e : TypeId} {size : Nat} {v : Value} {xs : List Value} (h : w.ownsRow base e size v n xs) (hb : base' ≤ base) : w.ownsRow base' e size v n xs := by
  obtain ⟨h3, h4 | ⟨g, cap, cur, h5, h6, h7⟩⟩ := h
  · exact ⟨h3, .inl h4⟩
  · exact ⟨h3, .inr ⟨g, cap, cur, h5, Nat.le_trans hb h6, h7⟩⟩
theorem fl_sl {w : World} {base n : Nat} {t : Nat → Nat → Nat} {y : Value} (h : w.ownsRow base 3 1 y (n * n) (vn (flN n t (n * n)))) : Sl w y ((flN n t (n * n)).map Int.ofNat) := by
  apply Sl.owned (base := base)
  have hl : ((flN n t (n * n)).map Int.ofNat).length = n * n := by simp [flN]
  rw [hl]
  have : ((flN n t (n * n)).map Int.ofNat).map (Value.int .i64) = vn (flN n t (n * n)) := by simp [vn]
  rw [this]
  exact h

theorem e42 : ∀ args w, (callFunc 21 args).run Tryd.prog w = .ok (.enter 21 args) w := enters_of Tryd.func21 (by kernel_rfl) rfl
set_option maxHeartbeats 1000000 in
theorem cyclic1_any (n b r c : Nat) (W : World) (h1 : 0 < n) (hn : n ≤ 8) (hb : W.cell? ⟨b, 0, none⟩ = some (.int .i64 (n : Int))) (hr : r < n) (hc : c < n) :
    Calls Tryd.prog 21 #[.int .i64 (r : Int), .int .i64 (c : Int), .pointer (some ⟨b, 0, none⟩)] W fun e w' => e = .returned (.int .i64 (cyc n r c : Int)) ∧ Below W.heap.size W w' := by
  have hadd : (r : Int) + (c : Int) = ((r + c : Nat) : Int) := by simp
  obtain ⟨q, hq⟩ : ∃ q, q = r + c := ⟨_, rfl⟩
  rw [← hq] at hadd
  have hq99 : q ≤ 99 := by omega
  have hmod : (q : Int) % (n : Int) = ((q % n : Nat) : Int) := by simp
  have hx : q % n = cyc n r c := by rw [hq]; rfl
  rw [hx] at hmod
  have hlt : cyc n r c < n := Nat.mod_lt _ h1
  generalize cyc n r c = x at *
  have hn0 : (n : Int) ≠ 0 := by omega
  have hnp : (0 : Int) < n := by omega
  have hnn : ¬ n = 0 := by omega
  clear hq hx
  go_enter Tryd.func21, Tryd.ntmps21
  go_wp2
  go_ret
  refine ⟨?_, Below.refl _ _⟩
  show Ending.returned (.int .i64 ((q : Int) % (n : Int))) = _
  rw [hmod]
set_option maxHeartbeats 4000000 in
theorem Cyclic_bad (n : Int) (w : World) (h : n < 1 ∨ 8 < n) : Calls Tryd.prog 9 #[.int .i64 n] w fun e w' => e = .returned (.tuple #[.agg #[.int .i64 0, .slice none 0 0], .int .i64 1]) ∧ Below w.heap.size w w' := by
  have C := fun W => isSide_any n W
  have hs : sideB n = false := by unfold sideB; rcases h with h | h <;> simp <;> omega
  rw [hs] at C
  clear hs h
  have hh : ((w.alloc (.cells #[.int .i64 n] 3)).alloc (.cells #[.int .i64 0, .slice none 0 0] 24)).heap[w.heap.size + 1]? = some (.cells #[.int .i64 0, .slice none 0 0] 24 (0, 0)) := by
    have := heap_alloc_new (w.alloc (.cells #[.int .i64 n] 3)) (.cells #[.int .i64 0, .slice none 0 0] 24)
    simpa using this
  have HH : Hid (((w.alloc (.cells #[.int .i64 n] 3)).alloc (.cells #[.int .i64 0, .slice none 0 0] 24)).heap[w.heap.size + 1]? = some (.cells #[.int .i64 0, .slice none 0 0] 24 (0, 0))) := hh
  clear hh
  go_enter Tryd.func9, Tryd.ntmps9
  go_wp2_with (go_at_call 19; refine (C _).mono ?_; rintro e w1 ⟨rfl, rfl⟩)
  exact post_sq2 2 3 Tryd.results9 rfl HH.out rfl rfl ⟨rfl, Below.next (balloc _ _) (balloc _ _)⟩
set_option maxHeartbeats 4000000 in
theorem Cyclic_ok (n : Nat) (w : World) (h1 : 1 ≤ n) (h8 : n ≤ 8) : Calls Tryd.prog 9 #[.int .i64 (n : Int)] w fun e w' => (∃ y, e = .returned (.tuple #[.agg #[.int .i64 (n : Int), y], .int .i64 0]) ∧ w'.ownsRow w.heap.size 3 1 y (n * n) (vn (flN n (cyc n) (n * n)))) ∧ Below w.heap.size w w' := by
  have C := fun W => isSide_any n W
  have hs : sideB n = true := by unfold sideB; simp; omega
  rw [hs] at C
  have hR0 : ((w.alloc (.cells #[.int .i64 (n : Int)] 3)).alloc (.cells #[.int .i64 0, .slice none 0 0] 24)).heap[w.heap.size + 1]? = some (.cells #[.int .i64 0, .slice none 0 0] 24 (0, 0)) := by
    have := heap_alloc_new (w.alloc (.cells #[.int .i64 (n : Int)] 3)) (.cells #[.int .i64 0, .slice none 0 0] 24)
    simpa using this
  have hN0 : ((w.alloc (.cells #[.int .i64 (n : Int)] 3)).alloc (.cells #[.int .i64 0, .slice none 0 0] 24)).heap[w.heap.size]? = some (.cells #[.int .i64 (n : Int)] 3 (0, 0)) := (Below.heap_alloc _ _ _ (by simp)).trans (heap_alloc_new w _)
  have hb0 : Below w.heap.size w ((w.alloc (.cells #[.int .i64 (n : Int)] 3)).alloc (.cells #[.int .i64 0, .slice none 0 0] 24)) := Below.next (balloc _ _) (balloc _ _)
  have hsz : ((w.alloc (.cells #[.int .i64 (n : Int)] 3)).alloc (.cells #[.int .i64 0, .slice none 0 0] 24)).heap.size = w.heap.size + 1 + 1 := by simp
  have C2 : Hid (Calls Tryd.prog 20 #[.int .i64 (n : Int), .func (.func 21) #[] #[.pointer (some ⟨w.heap.size, 0, none⟩)]] ((w.alloc (.cells #[.int .i64 (n : Int)] 3)).alloc (.cells #[.int .i64 0, .slice none 0 0] 24)) fun e w' => (∃ y, e = .returned (.agg #[.int .i64 (n : Int), y]) ∧ w'.ownsRow ((w.alloc (.cells #[.int .i64 (n : Int)] 3)).alloc (.cells #[.int .i64 0, .slice none 0 0] 24)).heap.size 3 1 y (n * n) (vn (flN n (cyc n) (n * n)))) ∧ Below ((w.alloc (.cells #[.int .i64 (n : Int)] 3)).alloc (.cells #[.int .i64 0, .slice none 0 0] 24)).heap.size ((w.alloc (.cells #[.int .i64 (n : Int)] 3)).alloc (.cells #[.int .i64 0, .slice none 0 0] 24)) w') :=
    filled_any n (cyc n) _ _ h1 h8 ⟨_, _, rfl, e42, fun W b r c hr hc => cyclic1_any n w.heap.size r c W h1 h8 (by
      have := (b.block w.heap.size (by rw [hsz]; omega)).trans hN0
      rw [cell_of_row _ _ _ _ _ _ this]; rfl) hr hc⟩
  clear hs
  go_enter Tryd.func9, Tryd.ntmps9
  go_wp2_with (first
    | (go_at_call 19; refine (C _).mono ?_; rintro e w1 ⟨rfl, rfl⟩)
    | (go_at_call 20; refine C2.out.mono ?_; rintro e w2 ⟨⟨y, rfl, hW⟩, b2⟩; have hR2 := (b2.block (w.heap.size + 1) (by rw [hsz]; omega)).trans hR0; obtain ⟨og, ol, oc, rfl⟩ := own_slice hW; have a2 : w2.cell? ⟨w.heap.size + 1, 0, none⟩ = some (.int .i64 0) := (by rw [cell_of_row _ _ _ _ _ _ hR2]; rfl); have a3 : w2.cell? ⟨w.heap.size + 1, 1, none⟩ = some (.slice none 0 0) := (by rw [cell_of_row _ _ _ _ _ _ hR2]; rfl); have f0 := frozen_of_row w2 (w.heap.size + 1) 0 _ _ hR2; have f1 := frozen_of_row w2 (w.heap.size + 1) 1 _ _ hR2))
  have hn1 := heap_setCell_same w2 (w.heap.size + 1) 0 _ _ (.int .i64 (n : Int)) hR2
  have hn2 := heap_setCell_same _ (w.heap.size + 1) 1 _ _ (.slice og ol oc) hn1
  have hW2 := orow_other (orow_other hW ⟨w.heap.size + 1, 0, none⟩ (.int .i64 (n : Int)) (own_diff hW hR2)) ⟨w.heap.size + 1, 1, none⟩ (.slice og ol oc) (own_diff hW hR2)
  exact post_sq2 2 3 Tryd.results9 rfl hn2 rfl rfl ⟨⟨_, rfl, orow_base hW2 (by rw [hsz]; omega)⟩, ((Below.next hb0 b2).setCell (by show w.heap.size ≤ w.heap.size + 1; omega) _).setCell (by show w.heap.size ≤ w.heap.size + 1; omega) _⟩
end Go.Proofs.YtncnaaohihmjnaaDoor
