/- The walks of Sylvester, Excess, hadaFact. -/
import Derived.Test.YtamdpcajfgbagaaDoorH3
import Derived.Test.YtamdpcajfgbagaaDoorE1
/- The walks of sign, OnesCount, sylvester, Sylvester, Excess, hadaFact. -/
namespace Go.Proofs.YtamdpcajfgbagaaDoor
open Go.RowKit

def sgn (b : Bool) : Int := if b then 1 else -1
theorem sign_any (b : Bool) (w : World) : Calls Tryd.prog 25 #[.bool b] w fun e w' => e = .returned (.int .i64 (sgn b)) ∧ w' = w := by
  cases b
  · go_enter Tryd.func25, Tryd.ntmps25
    go_wp2
    go_ret
    exact ⟨rfl, rfl⟩
  · go_enter Tryd.func25, Tryd.ntmps25
    go_wp2
    go_ret
    exact ⟨rfl, rfl⟩
theorem OnesCount_any (x : Nat) (hx : x < 2 ^ 64) (w : World) :
    Calls Tryd.prog 26 #[.int .u64 (x : Int)] w fun e w' => e = .returned (.int .i64 (pc x : Int)) ∧ w' = w := by
  go_enter Tryd.func26, Tryd.ntmps26
  go_wp2_with (go_at_call 34; refine (ones_any x hx w).mono ?_; rintro e w' ⟨rfl, rfl⟩)
  go_ret
  exact ⟨rfl, rfl⟩
theorem and16 : ∀ r c : Fin 16, bits .and .i64 ((r.val : Nat) : Int) ((c.val : Nat) : Int) = ((r.val &&& c.val : Nat) : Int) ∧ r.val &&& c.val < 16 := by decide +kernel
theorem e32 : ∀ args w, (callFunc 17 args).run Tryd.prog w = .ok (.enter 17 args) w := enters_of Tryd.func17 (by kernel_rfl) rfl
set_option maxHeartbeats 1000000 in
theorem sylvester_any (r c : Nat) (w : World) (hr : r < 16) (hc : c < 16) : Calls Tryd.prog 17 #[.int .i64 (r : Int), .int .i64 (c : Int)] w fun e w' => e = .returned (.int .i64 (syF r c)) ∧ Below w.heap.size w w' := by
  obtain ⟨ha, hk⟩ := and16 ⟨r, hr⟩ ⟨c, hc⟩
  dsimp only at ha hk
  have hs : syF r c = sgn (pc (r &&& c) % 2 == 0) := by unfold syF sgn; simp
  rw [hs]
  obtain ⟨k, hkk⟩ : ∃ k, k = r &&& c := ⟨_, rfl⟩
  rw [← hkk] at ha hk ⊢
  have C1 := OnesCount_any k (by omega) w
  have hw : IntKind.u64.wrap (k : Int) = (k : Int) := wrapN (by omega)
  have hp := pc_le k
  obtain ⟨p, Hp⟩ : ∃ p, Hid (pc k = p) := ⟨_, rfl⟩
  rw [Hp.out] at C1 hp ⊢
  obtain ⟨m, Hm⟩ : ∃ m, Hid (p % 2 = m) := ⟨_, rfl⟩
  have m1 : (p : Int) % 2 = (m : Int) := by rw [← Hm.out]; simp
  have m2 : (p : Int).tmod 2 = (m : Int) := by rw [Int.tmod_eq_emod_of_nonneg (by omega)]; exact m1
  rw [Hm.out]
  have hb : ((m : Int) == 0) = (m == 0) := by rw [Bool.eq_iff_iff]; simp
  have hm2 : m < 2 := by rw [← Hm.out]; omega
  have C2 := sign_any (m == 0) w
  generalize (m == 0) = b at *
  clear hs hkk
  go_enter Tryd.func17, Tryd.ntmps17
  go_wp2_with (first
    | (go_at_call 26; refine C1.mono ?_; rintro e w1 ⟨rfl, h1⟩; replace h1 := h1.symm; subst h1; clear C1)
    | (go_at_call 25; refine C2.mono ?_; rintro e w2 ⟨rfl, h2⟩; replace h2 := h2.symm; subst h2; clear C2))
  go_ret
  exact ⟨rfl, Below.refl _ _⟩
end Go.Proofs.YtamdpcajfgbagaaDoor

namespace Go.Proofs.YtamdpcajfgbagaaDoor
open Go.RowKit

theorem sy_teller (n : Nat) (w : World) (hn : n ≤ 16) : Teller (.func (.func 17) #[] #[]) n n syF w :=
  ⟨17, #[], rfl, e32, fun W _ r c hr hc => sylvester_any r c W (by omega) (by omega)⟩
set_option maxHeartbeats 4000000 in
theorem Sylvester_bad (k : Int) (w : World) (h : k < 0 ∨ 4 < k) : Calls Tryd.prog 5 #[.int .i64 k] w fun e w' => e = .returned (.tuple #[.agg #[.int .i64 0, .slice none 0 0], .int .i64 1]) ∧ Below w.heap.size w w' := by
  have HH : Hid ((w.alloc (.cells #[.int .i64 0, .slice none 0 0] 24)).heap[w.heap.size]? = some (.cells #[.int .i64 0, .slice none 0 0] 24 (0, 0))) := heap_alloc_new w _
  by_cases h1 : k < 0
  · have d1 : decide (k < 0) = true := decide_eq_true h1
    clear h h1
    go_enter Tryd.func5, Tryd.ntmps5
    go_wp2
    exact post_sq2 2 3 Tryd.results5 rfl HH.out rfl rfl ⟨rfl, balloc _ _⟩
  · have d1 : decide (k < 0) = false := decide_eq_false h1
    have h2 : 4 < k := by omega
    have d2 : decide (4 < k) = true := decide_eq_true h2
    clear h h1 h2
    go_enter Tryd.func5, Tryd.ntmps5
    go_wp2
    exact post_sq2 2 3 Tryd.results5 rfl HH.out rfl rfl ⟨rfl, balloc _ _⟩
theorem pow16 {k : Nat} (hk : k ≤ 4) : 1 ≤ 2 ^ k ∧ 2 ^ k ≤ 16 := ⟨Nat.two_pow_pos k, Nat.pow_le_pow_right (by decide) hk⟩
set_option maxHeartbeats 4000000 in
theorem Sylvester_ok (k : Nat) (w : World) (hk : k ≤ 4) : Calls Tryd.prog 5 #[.int .i64 (k : Int)] w fun e w' => (∃ y, e = .returned (.tuple #[.agg #[.int .i64 ((2 ^ k : Nat) : Int), y], .int .i64 0]) ∧ w'.ownsRow w.heap.size 3 1 y (2 ^ k * 2 ^ k) (vi (flI (2 ^ k) syF (2 ^ k * 2 ^ k)))) ∧ Below w.heap.size w w' := by
  have d1 : decide ((k : Int) < 0) = false := by simp
  have d2 : decide (4 < (k : Int)) = false := by simp; omega
  obtain ⟨p1, p2⟩ := pow16 hk
  have hp : (2 : Int) ^ k = ((2 ^ k : Nat) : Int) := by simp
  obtain ⟨n, Hn⟩ : ∃ n : Nat, Hid (2 ^ k = n) := ⟨_, rfl⟩
  rw [Hn.out] at p1 p2 hp ⊢
  have hR0 : (w.alloc (.cells #[.int .i64 0, .slice none 0 0] 24)).heap[w.heap.size]? = some (.cells #[.int .i64 0, .slice none 0 0] 24 (0, 0)) := heap_alloc_new w _
  have hb0 := balloc w (.cells #[.int .i64 0, .slice none 0 0] 24)
  have hsz : (w.alloc (.cells #[.int .i64 0, .slice none 0 0] 24)).heap.size = w.heap.size + 1 := by simp
  have C2 := filled_any n syF (.func (.func 17) #[] #[]) (w.alloc (.cells #[.int .i64 0, .slice none 0 0] 24)) p1 (by omega) (sy_teller n _ p2)
  have HSZ : Hid ((w.alloc (.cells #[.int .i64 0, .slice none 0 0] 24)).heap.size = w.heap.size + 1) := hsz
  generalize hL : vi (flI n syF (n * n)) = L at *
  clear hsz hL
  go_enter Tryd.func5, Tryd.ntmps5
  go_wp2_with (go_at_call 16; refine C2.mono ?_; rintro e w2 ⟨⟨y, rfl, hW⟩, b2⟩; have hR2 := (b2.block w.heap.size (by rw [HSZ.out]; omega)).trans hR0; obtain ⟨og, ol, oc, rfl⟩ := own_slice hW; have a2 : w2.cell? ⟨w.heap.size, 0, none⟩ = some (.int .i64 0) := (by rw [cell_of_row _ _ _ _ _ _ hR2]; rfl); have a3 : w2.cell? ⟨w.heap.size, 1, none⟩ = some (.slice none 0 0) := (by rw [cell_of_row _ _ _ _ _ _ hR2]; rfl); have f0 := frozen_of_row w2 w.heap.size 0 _ _ hR2; have f1 := frozen_of_row w2 w.heap.size 1 _ _ hR2)
  have hn1 := heap_setCell_same w2 w.heap.size 0 _ _ (.int .i64 (n : Int)) hR2
  have hn2 := heap_setCell_same _ w.heap.size 1 _ _ (.slice og ol oc) hn1
  have hW2 := orow_other (orow_other hW ⟨w.heap.size, 0, none⟩ (.int .i64 (n : Int)) (own_diff hW hR2)) ⟨w.heap.size, 1, none⟩ (.slice og ol oc) (own_diff hW hR2)
  exact post_sq2 2 3 Tryd.results5 rfl hn2 rfl rfl ⟨⟨_, rfl, orow_base hW2 (by rw [HSZ.out]; omega)⟩, ((Below.next hb0 b2).setCell (by show w.heap.size ≤ w.heap.size; omega) _).setCell (by show w.heap.size ≤ w.heap.size; omega) _⟩

/-- A square in a box, in each later world. -/
theorem sq_box (n : Int) (v : Value) (w W : World) (hb : Below (w.alloc (.cells #[.int .i64 n, v] 24)).heap.size (w.alloc (.cells #[.int .i64 n, v] 24)) W) : W.cell? ⟨w.heap.size, 0, none⟩ = some (.int .i64 n) ∧ W.cell? ⟨w.heap.size, 1, none⟩ = some v := by
  have h := (hb.block w.heap.size (by simp)).trans (heap_alloc_new w (.cells #[.int .i64 n, v] 24))
  exact ⟨by rw [cell_of_row _ _ _ _ _ _ h]; rfl, by rw [cell_of_row _ _ _ _ _ _ h]; rfl⟩
set_option maxHeartbeats 4000000 in
theorem Excess_bad (s : Int) (L : List Int) (v : Value) (w : World) (hv : Sl w v L) (hll : L.length ≤ maxLen) (hz : hF s L ≠ 0) :
    Calls Tryd.prog 15 #[.agg #[.int .i64 s, v]] w fun e w' => e = .returned (.tuple #[.int .i64 0, .int .i64 (hF s L : Int)]) ∧ Below w.heap.size w w' := by
  have b0 := balloc w (.cells #[.int .i64 s, v] 24)
  have C := Check_any s L v _ (hv.below b0) hll
  obtain ⟨u, Hu⟩ : ∃ u, Hid (hF s L = u) := ⟨_, rfl⟩
  rw [Hu.out] at C hz ⊢
  have hne : ((u : Int) != 0) = true := by simp; omega
  clear hz
  obtain ⟨va, vn, vc, rfl⟩ : ∃ a n c, v = .slice a n c := by obtain ⟨a, c, rfl, _⟩ := hv; exact ⟨_, _, _, rfl⟩
  clear hv
  go_enter Tryd.func15, Tryd.ntmps15
  go_wp2_with (go_at_call 14; refine C.mono ?_; rintro e w1 ⟨rfl, b1⟩; clear C)
  go_ret2
  exact ⟨rfl, Below.next b0 b1⟩
set_option maxHeartbeats 8000000 in
theorem Excess_ok (n : Nat) (L : List Int) (v : Value) (w : World) (hv : Sl w v L) (G : GoodH n L) :
    Calls Tryd.prog 15 #[.agg #[.int .i64 (n : Int), v]] w fun e w' => e = .returned (.tuple #[.int .i64 (smL L), .int .i64 0]) ∧ Below w.heap.size w w' := by
  have b0 := balloc w (.cells #[.int .i64 (n : Int), v] 24)
  have hz99 : n * n ≤ 999 := Nat.le_trans (Nat.mul_le_mul G.le G.le) (by decide)
  have hml : L.length ≤ maxLen := by rw [G.len]; unfold maxLen; omega
  have C := Check_any n L v _ (hv.below b0) hml
  rw [hF_good G] at C
  obtain ⟨a, off, cap, rfl, ha, hcell⟩ := hv.form G.len (Nat.mul_pos G.pos G.pos)
  have HC : Hid (∀ j, j < n * n → w.cell? ⟨a, off + j, none⟩ = some (.int .i64 (L.getD j 0))) := hcell
  have HG : Hid (∀ j, j < n * n → Sg (L.getD j 0)) := fun j hj => G.at hj
  have HE : Hid (smL L = sm (n * n) fun j => L.getD j 0) := by show _ = _; unfold smL; rw [G.len]
  rw [HE.out]
  obtain ⟨z, Hz⟩ : ∃ z, Hid (n * n = z) := ⟨_, rfl⟩
  rw [Hz.out] at hz99 b0 HC HG C ⊢
  have HB0 : Hid (Below w.heap.size w (w.alloc (.cells #[.int .i64 (n : Int), .slice (some ⟨a, off, none⟩) z cap] 24))) := b0
  obtain ⟨Y, HY⟩ : ∃ Y, Hid ((sm z fun j => L.getD j 0) = Y) := ⟨_, rfl⟩
  rw [HY.out]
  clear hv hcell G HE hml b0
  go_enter Tryd.func15, Tryd.ntmps15
  go_wp2_with (go_at_call 14; refine C.mono ?_; rintro e w1 ⟨rfl, b1⟩; clear C; obtain ⟨x0, x1⟩ := sq_box _ _ _ _ b1; have hB1 := Below.next HB0.out b1)
  go_loopw [5, 16] (fun o i wr => ∃ (j : Nat) (X : Int), i = .int .i64 (j : Int) ∧ j ≤ z ∧ o = .int .i64 X ∧ Hid ((sm j fun j => L.getD j 0) = X) ∧ -(j : Int) ≤ X ∧ X ≤ j ∧ Below w.heap.size w wr) (fun _ i _ => (z - intOf i).toNat)
  case atStart => exact ⟨0, 0, rfl, by omega, rfl, (rfl : (sm 0 fun j => L.getD j 0) = 0), by omega, by omega, hB1⟩
  case round =>
    clear hB1 x0 x1
    obtain ⟨j, X, rfl, hj, rfl, HS, hX1, hX2, hB⟩ := hrel
    by_cases hlt : j < z
    · have hdj : decide ((j : Int) < (z : Int)) = true := by simp; omega
      have hji : (j : Int) < z := by omega
      have hj0 : (0 : Int) ≤ (j : Int) := by omega
      have hcj := (hB.cell (p := ⟨a, off + j, none⟩) ha).trans (HC.out j hlt)
      have hx := HG.out j hlt
      have HS2 : Hid ((sm (j + 1) fun j => L.getD j 0) = X + L.getD j 0) := by show _ = _; rw [sm, HS.out]
      obtain ⟨x, Hx⟩ : ∃ x, Hid (L.getD j 0 = x) := ⟨_, rfl⟩
      rw [Hx.out] at hcj hx HS2
      have hx1 : -1 ≤ x ∧ x ≤ 1 := by rcases hx with h | h <;> omega
      obtain ⟨hx2, hx3⟩ := hx1
      clear hx HS
      go_wp2
      go_roundw
      case rel => exact ⟨j + 1, X + x, by go_num, by omega, by go_num, HS2, by omega, by omega, hB⟩
      case measure => simp [intOf]; omega
    · have hdj : decide ((j : Int) < (z : Int)) = false := by simp; omega
      obtain rfl : j = z := by omega
      obtain rfl : X = Y := HS.out.symm.trans HY.out
      go_wp2
      go_ret2
      exact ⟨rfl, hB⟩
theorem sy_one : smL (flI 2 syF (2 * 2)) = 2 := by decide +kernel
set_option maxHeartbeats 4000000 in
theorem hadaFact_any (w : World) : Calls Tryd.prog 13 #[] w fun e w' => e = .returned (.bool true) ∧ Below w.heap.size w w' := by
  have C1 : Calls Tryd.prog 5 #[.int .i64 1] w fun e w' => (∃ y, e = .returned (.tuple #[.agg #[.int .i64 2, y], .int .i64 0]) ∧ w'.ownsRow w.heap.size 3 1 y (2 * 2) (vi (flI 2 syF (2 * 2)))) ∧ Below w.heap.size w w' := Sylvester_ok 1 w (by decide)
  have C2 : Hid (∀ y W, Sl W y (flI 2 syF (2 * 2)) → Calls Tryd.prog 15 #[.agg #[.int .i64 2, y]] W fun e w' => e = .returned (.tuple #[.int .i64 2, .int .i64 0]) ∧ Below W.heap.size W w') := fun y W hS => by
    have h := Excess_ok 2 _ y W hS (flI_good (by decide) (by decide) (sy_had (k := 1) (by decide)))
    rw [sy_one] at h
    exact h
  go_enter Tryd.func13, Tryd.ntmps13
  go_wp2_with (first
    | (go_at_call 5; refine C1.mono ?_; rintro e w1 ⟨⟨y, rfl, hW⟩, b1⟩; obtain ⟨og, ol, oc, rfl⟩ := own_slice hW; have hS := fl_sl hW; have D := C2.out _ _ (hS.alloc (.cells #[.int .i64 2, .slice og ol oc] 24)); clear C1)
    | (go_at_call 15; refine D.mono ?_; rintro e w2 ⟨rfl, b2⟩))
  go_ret
  exact ⟨rfl, Below.next (Below.next b1 (balloc _ _)) b2⟩
end Go.Proofs.YtamdpcajfgbagaaDoor
