/- The law HadaMade. -/
import Derived.Test.YtamdpcajfgbagaaDoorG2
import Derived.Test.YtamdpcajfgbagaaDoorG4
namespace Go.Proofs.YtamdpcajfgbagaaDoor
open Go.RowKit

/-- What a maker tells: a square and an error; where there is none, a matrix. -/
def Mk (f : Nat) (args : Array Value) (n z : Nat) (l : List Int) (W : World) : Prop :=
  Calls Tryd.prog f args W fun e w' => (∃ y, e = .returned (.tuple #[.agg #[.int .i64 (n : Int), y], .int .i64 (z : Int)]) ∧ w'.ownsRow W.heap.size 3 1 y l.length (vi l)) ∧ Below W.heap.size W w'
theorem mk_err {f : Nat} {args : Array Value} {z : Nat} {W : World} (h : Calls Tryd.prog f args W fun e w' => e = .returned (.tuple #[.agg #[.int .i64 0, .slice none 0 0], .int .i64 (z : Int)]) ∧ Below W.heap.size W w') : Mk f args 0 z [] W :=
  h.mono fun _ _ ⟨he, hb⟩ => ⟨⟨_, he, World.ownsRow_nil _ _ _ _⟩, hb⟩
theorem mk_ok {f n : Nat} {t : Nat → Nat → Int} {args : Array Value} {W : World} (h : Calls Tryd.prog f args W fun e w' => (∃ y, e = .returned (.tuple #[.agg #[.int .i64 (n : Int), y], .int .i64 0]) ∧ w'.ownsRow W.heap.size 3 1 y (n * n) (vi (flI n t (n * n)))) ∧ Below W.heap.size W w') : Mk f args n 0 (flI n t (n * n)) W :=
  h.mono fun _ _ ⟨⟨y, he, hW⟩, hb⟩ => ⟨⟨y, he, by rw [flI_len]; exact hW⟩, hb⟩
theorem second_box (w : World) (a : Obj) (cs : Array Value) (t : TypeId) : ((w.alloc a).alloc (.cells cs t)).heap[w.heap.size + 1]? = some (.cells cs t (0, 0)) := by
  have := heap_alloc_new (w.alloc a) (.cells cs t)
  simpa using this
theorem first_box (w : World) (b : Obj) (cs : Array Value) (t : TypeId) : ((w.alloc (.cells cs t)).alloc b).heap[w.heap.size]? = some (.cells cs t (0, 0)) := (Below.heap_alloc _ _ _ (by simp)).trans (heap_alloc_new w _)
theorem sl_of_own {w : World} {base : Nat} {y : Value} {l : List Int} (h : w.ownsRow base 3 1 y l.length (vi l)) : Sl w y l := Sl.owned h
theorem Syl_mk (k : Int) : ∃ (n z : Nat) (l : List Int), (z = 0 → GoodH n l ∧ ∃ m : Nat, k = m ∧ m ≤ 4 ∧ n = 2 ^ m) ∧ ∀ W, Mk 5 #[.int .i64 k] n z l W := by
  by_cases h : k < 0 ∨ 4 < k
  · exact ⟨0, 1, [], fun h => (by cases h), fun W => mk_err (z := 1) (Sylvester_bad k W h)⟩
  · obtain ⟨m, rfl⟩ : ∃ m : Nat, k = m := ⟨k.toNat, by omega⟩
    have hm : m ≤ 4 := by omega
    obtain ⟨p1, p2⟩ := pow16 hm
    exact ⟨2 ^ m, 0, _, fun _ => ⟨flI_good p1 (by omega) (sy_had hm), m, rfl, hm, rfl⟩, fun W => mk_ok (Sylvester_ok m W hm)⟩
theorem Pal_mk (p : Int) : ∃ (n z : Nat) (l : List Int), (z = 0 → GoodH n l ∧ ∃ m : Nat, p = m ∧ m ≤ 23 ∧ n = m + 1) ∧ ∀ W, Fd.Tab W → Mk 8 #[.int .i64 p] n z l W := by
  by_cases h : p < 1 ∨ 23 < p
  · exact ⟨0, 1, [], fun h => (by cases h), fun W _ => mk_err (z := 1) (Pal_far p W h)⟩
  · obtain ⟨m, rfl⟩ : ∃ m : Nat, p = m := ⟨p.toNat, by omega⟩
    cases hq : p43 m
    · exact ⟨0, 4, [], fun h => (by cases h), fun W hT => mk_err (z := 4) (Pal_none m W hT (by omega) (by omega) hq)⟩
    · have hq' : paQ m = true := by rw [← p43_q ⟨m, by omega⟩]; exact hq
      exact ⟨m + 1, 0, _, fun _ => ⟨flI_good (by omega) (by omega) (pa_had hq' (by omega)), m, rfl, by omega, rfl⟩, fun W hT => mk_ok (Pal_ok m W hT (by omega) (by omega) hq)⟩
theorem mF_zero {s t : Int} {L M : List Int} (h : mF s t L M = 0) : ∃ n m : Nat, s = n ∧ t = m ∧ GoodH n L ∧ GoodH m M ∧ n * m ≤ 8 * 3 := by
  unfold mF at h
  split at h
  · rename_i h1; exact (h1 h).elim
  · rename_i h1
    split at h
    · rename_i h2; exact (h2 h).elim
    · rename_i h2
      split at h
      · cases h
      · rename_i h3
        obtain ⟨n, rfl, G1⟩ := hF_ok (L := L) (s := s) (by omega)
        obtain ⟨m, rfl, G2⟩ := hF_ok (L := M) (s := t) (by omega)
        refine ⟨n, m, rfl, rfl, G1, G2, ?_⟩
        have : ((n * m : Nat) : Int) ≤ 8 * 3 := by simp at h3 ⊢; omega
        omega
theorem Pro_mk (s t : Int) (L M : List Int) (hL : L.length ≤ maxLen) (hM : M.length ≤ maxLen) : ∃ (n z : Nat) (l : List Int), (z = 0 → GoodH n l ∧ ∃ a b : Nat, s = a ∧ t = b ∧ GoodH a L ∧ GoodH b M ∧ smL l = smL L * smL M) ∧ ∀ u v W, Sl W u L → Sl W v M → Mk 10 #[.agg #[.int .i64 s, u], .agg #[.int .i64 t, v]] n z l W := by
  by_cases h : mF s t L M = 0
  · obtain ⟨n, m, rfl, rfl, G1, G2, hnm⟩ := mF_zero h
    have hp := Nat.mul_pos G1.pos G2.pos
    have hH := G1.had.prod G2.had G2.pos
    refine ⟨n * m, 0, _, fun _ => ⟨flI_good hp hnm hH, n, m, rfl, rfl, G1, G2, ?_⟩, fun u v W hu hv => mk_ok (Product_ok n m L M u v W hu hv G1 G2 hnm)⟩
    rw [smL_exc (n := n * m) (by simp), smL_exc G1.len, smL_exc G2.len, exc_congr (fun i j hi hj => flI_mx hi hj), exc_prod G2.pos]
  · exact ⟨0, mF s t L M, [], fun e => (h e).elim, fun u v W hu hv => mk_err (Product_bad s t L M u v W hu hv hL hM h)⟩
theorem smL_bd {n : Nat} {L : List Int} (G : GoodH n L) : -576 ≤ smL L ∧ smL L ≤ 576 := by
  have hz : n * n ≤ 576 := Nat.le_trans (Nat.mul_le_mul G.le G.le) (by decide)
  have h := sm_abs (n := n * n) fun i hi => G.at hi
  have e : smL L = sm (n * n) fun j => L.getD j 0 := by unfold smL; rw [G.len]
  rw [e]; omega
set_option maxRecDepth 100000 in
set_option maxHeartbeats 8000000 in
theorem Md_ooo (k p s t : Int) (L M : List Int) (u v : Value) (w : World) (n1 z1 n2 z2 n3 z3 : Nat) (l1 l2 l3 : List Int) (hT : Fd.Tab w) (hu : Sl w u L) (hv : Sl w v M)
    (S1 : ∀ W, Mk 5 #[.int .i64 k] n1 z1 l1 W) (S2 : ∀ W, Fd.Tab W → Mk 8 #[.int .i64 p] n2 z2 l2 W) (S3 : ∀ u v W, Sl W u L → Sl W v M → Mk 10 #[.agg #[.int .i64 s, u], .agg #[.int .i64 t, v]] n3 z3 l3 W)
    (e1 : z1 = 0) (K1 : GoodH n1 l1 ∧ ∃ m : Nat, k = m ∧ m ≤ 4 ∧ n1 = 2 ^ m) (e2 : z2 = 0) (K2 : GoodH n2 l2 ∧ ∃ m : Nat, p = m ∧ m ≤ 23 ∧ n2 = m + 1) (e3 : z3 = 0) (K3 : GoodH n3 l3 ∧ ∃ a b : Nat, s = a ∧ t = b ∧ GoodH a L ∧ GoodH b M ∧ smL l3 = smL L * smL M) :
    Calls Tryd.prog 4 #[.int .i64 k, .int .i64 p, .agg #[.int .i64 s, u], .agg #[.int .i64 t, v]] w fun e w' => e = .returned (.bool true) ∧ Below w.heap.size w w' := by
  obtain ⟨ua, ul, uc, rfl⟩ : ∃ a l c, u = .slice a l c := by obtain ⟨a, c, e, _⟩ := hu; exact ⟨a, _, c, e⟩
  obtain ⟨va, vn, vc, rfl⟩ : ∃ a l c, v = .slice a l c := by obtain ⟨a, c, e, _⟩ := hv; exact ⟨a, _, c, e⟩
  have HB0 : Hid (Below w.heap.size w ((w.alloc (.cells #[.int .i64 s, .slice ua ul uc] 24)).alloc (.cells #[.int .i64 t, .slice va vn vc] 24))) := Below.next (balloc _ _) (balloc _ _)
  have HBX : Hid (∀ X, Below ((w.alloc (.cells #[.int .i64 s, .slice ua ul uc] 24)).alloc (.cells #[.int .i64 t, .slice va vn vc] 24)).heap.size ((w.alloc (.cells #[.int .i64 s, .slice ua ul uc] 24)).alloc (.cells #[.int .i64 t, .slice va vn vc] 24)) X → (X.cell? ⟨w.heap.size, 0, none⟩ = some (.int .i64 s) ∧ X.cell? ⟨w.heap.size, 1, none⟩ = some (.slice ua ul uc)) ∧ (X.cell? ⟨w.heap.size + 1, 0, none⟩ = some (.int .i64 t) ∧ X.cell? ⟨w.heap.size + 1, 1, none⟩ = some (.slice va vn vc))) := fun X bX => by
    have k1 := (bX.block w.heap.size (by simp; omega)).trans (first_box w (.cells #[.int .i64 t, .slice va vn vc] 24) #[.int .i64 s, .slice ua ul uc] 24)
    have k2 := (bX.block (w.heap.size + 1) (by simp)).trans (second_box w (.cells #[.int .i64 s, .slice ua ul uc] 24) #[.int .i64 t, .slice va vn vc] 24)
    exact ⟨⟨by rw [cell_of_row _ _ _ _ _ _ k1]; rfl, by rw [cell_of_row _ _ _ _ _ _ k1]; rfl⟩, by rw [cell_of_row _ _ _ _ _ _ k2]; rfl, by rw [cell_of_row _ _ _ _ _ _ k2]; rfl⟩
  have HSZ : Hid (((w.alloc (.cells #[.int .i64 s, .slice ua ul uc] 24)).alloc (.cells #[.int .i64 t, .slice va vn vc] 24)).heap.size = w.heap.size + 1 + 1) := by show _ = _; simp
  have C0 := hadaFact_any ((w.alloc (.cells #[.int .i64 s, .slice ua ul uc] 24)).alloc (.cells #[.int .i64 t, .slice va vn vc] 24))
  have T1 : Hid (∀ W, Calls Tryd.prog 5 #[.int .i64 k] W fun e w' => (∃ y, e = .returned (.tuple #[.agg #[.int .i64 (n1 : Int), y], .int .i64 (z1 : Int)]) ∧ w'.ownsRow W.heap.size 3 1 y l1.length (vi l1)) ∧ Below W.heap.size W w') := S1
  have T2 : Hid (∀ W, Below ((w.alloc (.cells #[.int .i64 s, .slice ua ul uc] 24)).alloc (.cells #[.int .i64 t, .slice va vn vc] 24)).heap.size ((w.alloc (.cells #[.int .i64 s, .slice ua ul uc] 24)).alloc (.cells #[.int .i64 t, .slice va vn vc] 24)) W → Calls Tryd.prog 8 #[.int .i64 p] W fun e w' => (∃ y, e = .returned (.tuple #[.agg #[.int .i64 (n2 : Int), y], .int .i64 (z2 : Int)]) ∧ w'.ownsRow W.heap.size 3 1 y l2.length (vi l2)) ∧ Below W.heap.size W w') := fun W b => S2 W (hT.below (Below.next HB0.out b))
  have T3 : Hid (∀ W, Below ((w.alloc (.cells #[.int .i64 s, .slice ua ul uc] 24)).alloc (.cells #[.int .i64 t, .slice va vn vc] 24)).heap.size ((w.alloc (.cells #[.int .i64 s, .slice ua ul uc] 24)).alloc (.cells #[.int .i64 t, .slice va vn vc] 24)) W → Calls Tryd.prog 10 #[.agg #[.int .i64 s, .slice ua ul uc], .agg #[.int .i64 t, .slice va vn vc]] W fun e w' => (∃ y, e = .returned (.tuple #[.agg #[.int .i64 (n3 : Int), y], .int .i64 (z3 : Int)]) ∧ w'.ownsRow W.heap.size 3 1 y l3.length (vi l3)) ∧ Below W.heap.size W w') := fun W b => S3 _ _ W (hu.below (Below.next HB0.out b)) (hv.below (Below.next HB0.out b))
  have G1 := K1.1
  have hl1 : l1.length ≤ maxLen := by rw [G1.len]; have := Nat.mul_le_mul G1.le G1.le; unfold maxLen; omega
  have U1 : Hid (∀ y W, Sl W y l1 → Calls Tryd.prog 14 #[.agg #[.int .i64 (n1 : Int), y]] W fun e w' => e = .returned (.int .i64 0) ∧ Below W.heap.size W w') := fun y W hS => by
    have h := Check_any n1 l1 y W hS hl1
    rw [hF_good G1] at h
    exact h
  have G2 := K2.1
  have hl2 : l2.length ≤ maxLen := by rw [G2.len]; have := Nat.mul_le_mul G2.le G2.le; unfold maxLen; omega
  have U2 : Hid (∀ y W, Sl W y l2 → Calls Tryd.prog 14 #[.agg #[.int .i64 (n2 : Int), y]] W fun e w' => e = .returned (.int .i64 0) ∧ Below W.heap.size W w') := fun y W hS => by
    have h := Check_any n2 l2 y W hS hl2
    rw [hF_good G2] at h
    exact h
  have G3 := K3.1
  have hl3 : l3.length ≤ maxLen := by rw [G3.len]; have := Nat.mul_le_mul G3.le G3.le; unfold maxLen; omega
  have U3 : Hid (∀ y W, Sl W y l3 → Calls Tryd.prog 14 #[.agg #[.int .i64 (n3 : Int), y]] W fun e w' => e = .returned (.int .i64 0) ∧ Below W.heap.size W w') := fun y W hS => by
    have h := Check_any n3 l3 y W hS hl3
    rw [hF_good G3] at h
    exact h
  obtain ⟨m1, rfl, hm1, hn1⟩ := K1.2
  have hpw : (2 : Int) ^ m1 = (n1 : Int) := by rw [hn1]; simp
  have hn16 : n1 ≤ 16 := by rw [hn1]; exact (pow16 hm1).2
  have hnn1 : ((n1 : Int) != (n1 : Int)) = false := by simp
  have wn1 := wrapN9 (q := n1) (by omega)
  clear hn1
  obtain ⟨m2, rfl, hm2, hn2⟩ := K2.2
  have hpl : (m2 : Int) + 1 = (n2 : Int) := by rw [hn2]; simp
  have hn24 : n2 ≤ 99 := by omega
  have hnn2 : ((n2 : Int) != (n2 : Int)) = false := by simp
  clear hn2
  obtain ⟨a, b, rfl, rfl, Ga, Gb, hsm⟩ := K3.2
  have ba := smL_bd Ga
  have bb := smL_bd Gb
  have X1 : Hid (∀ W, Below ((w.alloc (.cells #[.int .i64 (a : Int), .slice ua ul uc] 24)).alloc (.cells #[.int .i64 (b : Int), .slice va vn vc] 24)).heap.size ((w.alloc (.cells #[.int .i64 (a : Int), .slice ua ul uc] 24)).alloc (.cells #[.int .i64 (b : Int), .slice va vn vc] 24)) W → Calls Tryd.prog 15 #[.agg #[.int .i64 (a : Int), .slice ua ul uc]] W fun e w' => e = .returned (.tuple #[.int .i64 (smL L), .int .i64 0]) ∧ Below W.heap.size W w') := fun W k => Excess_ok a L _ W (hu.below (Below.next HB0.out k)) Ga
  have X2 : Hid (∀ W, Below ((w.alloc (.cells #[.int .i64 (a : Int), .slice ua ul uc] 24)).alloc (.cells #[.int .i64 (b : Int), .slice va vn vc] 24)).heap.size ((w.alloc (.cells #[.int .i64 (a : Int), .slice ua ul uc] 24)).alloc (.cells #[.int .i64 (b : Int), .slice va vn vc] 24)) W → Calls Tryd.prog 15 #[.agg #[.int .i64 (b : Int), .slice va vn vc]] W fun e w' => e = .returned (.tuple #[.int .i64 (smL M), .int .i64 0]) ∧ Below W.heap.size W w') := fun W k => Excess_ok b M _ W (hv.below (Below.next HB0.out k)) Gb
  have X3 : Hid (∀ y W, Sl W y l3 → Calls Tryd.prog 15 #[.agg #[.int .i64 (n3 : Int), y]] W fun e w' => e = .returned (.tuple #[.int .i64 (smL l3), .int .i64 0]) ∧ Below W.heap.size W w') := fun y W hS => Excess_ok n3 l3 y W hS G3
  obtain ⟨xa, Hxa⟩ : ∃ x, Hid (smL L = x) := ⟨_, rfl⟩
  obtain ⟨xb, Hxb⟩ : ∃ x, Hid (smL M = x) := ⟨_, rfl⟩
  obtain ⟨xc, Hxc⟩ : ∃ x, Hid (smL l3 = x) := ⟨_, rfl⟩
  rw [Hxa.out] at X1 ba hsm
  rw [Hxb.out] at X2 bb hsm
  rw [Hxc.out] at X3 hsm
  have hxx : xa * xb = xc := hsm.symm
  have bc := smL_bd G3
  rw [Hxc.out] at bc
  obtain ⟨bc1, bc2⟩ := bc
  have hcc : (xc == xc) = true := by simp
  clear hsm Ga Gb ba bb
  have g1 : ((z1 : Int) == 0) = true := by simp [e1]
  have g1' : ((z1 : Int) != 0) = false := by simp [e1]
  have g2 : ((z2 : Int) == 0) = true := by simp [e2]
  have g2' : ((z2 : Int) != 0) = false := by simp [e2]
  have g3 : ((z3 : Int) == 0) = true := by simp [e3]
  have g3' : ((z3 : Int) != 0) = false := by simp [e3]
  clear e1 e2 e3 hu hv S1 S2 S3 hT K1 G1 hl1 K2 G2 hl2 K3 G3 hl3
  go_enter Tryd.func4, Tryd.ntmps4
  go_wp2_with (first
    | (go_at_call 13; refine C0.mono ?_; rintro e w1 ⟨rfl, j1⟩; clear C0; have D1 := T1.out w1; clear T1)
    | (go_at_call 5; refine D1.mono ?_; rintro e w2 ⟨⟨y1, rfl, hW1⟩, j2⟩; clear D1; obtain ⟨y1a, y1l, y1c, rfl⟩ := own_slice hW1; have hq := heap_alloc_new w2 (.cells #[.int .i64 (n1 : Int), .slice y1a y1l y1c] 24); have J2 := Below.next (Below.next j1 j2) (balloc w2 (.cells #[.int .i64 (n1 : Int), .slice y1a y1l y1c] 24)); have hw2 := (Below.next j1 j2).size; have DU := U1.out _ _ ((sl_of_own hW1).alloc (.cells #[.int .i64 (n1 : Int), .slice y1a y1l y1c] 24)); clear U1)
    | (go_at_call 14; refine DU.mono ?_; rintro e w3 ⟨rfl, j3⟩; clear DU; have hq3 := (j3.block w2.heap.size (by simp)).trans hq; have J3 := Below.next J2 j3; have hw3 := j3.size; simp at hw3; have q0 : w3.cell? ⟨w2.heap.size, 0, none⟩ = some (.int .i64 (n1 : Int)) := (by rw [cell_of_row _ _ _ _ _ _ hq3]; rfl); have q1 : w3.cell? ⟨w2.heap.size, 1, none⟩ = some (.slice y1a y1l y1c) := (by rw [cell_of_row _ _ _ _ _ _ hq3]; rfl)))
  go_quiet (fail)
  clear q0 q1
  go_wp2_with (first
    | (go_at_call 8; refine (T2.out _ (bdrewN J3 _)).mono ?_; rintro e w4 ⟨⟨y2, rfl, hW2⟩, j4⟩; clear T2; obtain ⟨y2a, y2l, y2c, rfl⟩ := own_slice hW2; have hq4 := (j4.block w2.heap.size (show w2.heap.size < w3.heap.size by omega)).trans hq3; have J4 := Below.next (bdrewN J3 _) j4; have q0 : w4.cell? ⟨w2.heap.size, 0, none⟩ = some (.int .i64 (n1 : Int)) := (by rw [cell_of_row _ _ _ _ _ _ hq4]; rfl); have q1 : w4.cell? ⟨w2.heap.size, 1, none⟩ = some (.slice y1a y1l y1c) := (by rw [cell_of_row _ _ _ _ _ _ hq4]; rfl); have f0 := frozen_of_row w4 w2.heap.size 0 _ _ hq4; have f1 := frozen_of_row w4 w2.heap.size 1 _ _ hq4; have s4n1 := heap_setCell_same w4 w2.heap.size 0 _ _ (.int .i64 (n2 : Int)) hq4; have s4h : ((w4.setCell ⟨w2.heap.size, 0, none⟩ (.int .i64 (n2 : Int))).setCell ⟨w2.heap.size, 1, none⟩ (.slice y2a y2l y2c)).heap[w2.heap.size]? = some (.cells #[.int .i64 (n2 : Int), .slice y2a y2l y2c] 24 (0, 0)) := heap_setCell_same _ w2.heap.size 1 _ _ (.slice y2a y2l y2c) s4n1; have s4J := (J4.setCell (p := ⟨w2.heap.size, 0, none⟩) (by show _ ≤ w2.heap.size; omega) (.int .i64 (n2 : Int))).setCell (p := ⟨w2.heap.size, 1, none⟩) (by show _ ≤ w2.heap.size; omega) (.slice y2a y2l y2c); have s4W := orow_other (orow_other hW2 ⟨w2.heap.size, 0, none⟩ (.int .i64 (n2 : Int)) (own_diff hW2 hq4)) ⟨w2.heap.size, 1, none⟩ (.slice y2a y2l y2c) (own_diff hW2 hq4); clear s4n1; have DU := U2.out _ _ (sl_of_own s4W); clear U2)
    | (go_at_call 14; refine DU.mono ?_; rintro e w5 ⟨rfl, j5⟩; clear DU q0 q1 f0 f1; have hq5 := (j5.block w2.heap.size (by have := (Array.getElem?_eq_some_iff.1 s4h).1; exact this)).trans s4h; have J5 := Below.next s4J j5; obtain ⟨⟨x0, x1⟩, y0, y1⟩ := HBX.out _ J5; have D3 := T3.out _ J5; clear T3; have q0 : w5.cell? ⟨w2.heap.size, 0, none⟩ = some (.int .i64 (n2 : Int)) := (by rw [cell_of_row _ _ _ _ _ _ hq5]; rfl); have q1 : w5.cell? ⟨w2.heap.size, 1, none⟩ = some (.slice y2a y2l y2c) := (by rw [cell_of_row _ _ _ _ _ _ hq5]; rfl))
    | (go_at_call 10; refine D3.mono ?_; rintro e w6 ⟨⟨y3, rfl, hW3⟩, j6⟩; clear D3 x0 x1 y0 y1 q0 q1; obtain ⟨y3a, y3l, y3c, rfl⟩ := own_slice hW3; have hq6 := (j6.block w2.heap.size (by have := (Array.getElem?_eq_some_iff.1 hq5).1; exact this)).trans hq5; have J6 := Below.next J5 j6; have q0 : w6.cell? ⟨w2.heap.size, 0, none⟩ = some (.int .i64 (n2 : Int)) := (by rw [cell_of_row _ _ _ _ _ _ hq6]; rfl); have q1 : w6.cell? ⟨w2.heap.size, 1, none⟩ = some (.slice y2a y2l y2c) := (by rw [cell_of_row _ _ _ _ _ _ hq6]; rfl); have f0 := frozen_of_row w6 w2.heap.size 0 _ _ hq6; have f1 := frozen_of_row w6 w2.heap.size 1 _ _ hq6; have s6n1 := heap_setCell_same w6 w2.heap.size 0 _ _ (.int .i64 (n3 : Int)) hq6; have s6h : ((w6.setCell ⟨w2.heap.size, 0, none⟩ (.int .i64 (n3 : Int))).setCell ⟨w2.heap.size, 1, none⟩ (.slice y3a y3l y3c)).heap[w2.heap.size]? = some (.cells #[.int .i64 (n3 : Int), .slice y3a y3l y3c] 24 (0, 0)) := heap_setCell_same _ w2.heap.size 1 _ _ (.slice y3a y3l y3c) s6n1; have s6J := (J6.setCell (p := ⟨w2.heap.size, 0, none⟩) (by show _ ≤ w2.heap.size; omega) (.int .i64 (n3 : Int))).setCell (p := ⟨w2.heap.size, 1, none⟩) (by show _ ≤ w2.heap.size; omega) (.slice y3a y3l y3c); have s6W := orow_other (orow_other hW3 ⟨w2.heap.size, 0, none⟩ (.int .i64 (n3 : Int)) (own_diff hW3 hq6)) ⟨w2.heap.size, 1, none⟩ (.slice y3a y3l y3c) (own_diff hW3 hq6); clear s6n1; have DU := U3.out _ _ (sl_of_own s6W); clear U3)
    | (go_at_call 14; refine DU.mono ?_; rintro e w7 ⟨rfl, j7⟩; clear DU q0 q1 f0 f1; have J7 := Below.next s6J j7; obtain ⟨⟨x0, x1⟩, y0, y1⟩ := HBX.out _ J7; have DX := X1.out _ J7; clear X1)
    | (go_at_call 15; refine DX.mono ?_; rintro e w8 ⟨rfl, j8⟩; clear DX x0 x1 y0 y1; have J8 := Below.next J7 j8; obtain ⟨⟨x0, x1⟩, y0, y1⟩ := HBX.out _ J8; have DY := X2.out _ J8; clear X2)
    | (go_at_call 15; refine DY.mono ?_; rintro e w9 ⟨rfl, j9⟩; clear DY x0 x1 y0 y1; have J9 := Below.next J8 j9; have j79 := Below.next (Below.next j7 j8) j9; have hq9 := (j79.block w2.heap.size (by have := (Array.getElem?_eq_some_iff.1 s6h).1; exact this)).trans s6h; have q0 : w9.cell? ⟨w2.heap.size, 0, none⟩ = some (.int .i64 (n3 : Int)) := (by rw [cell_of_row _ _ _ _ _ _ hq9]; rfl); have q1 : w9.cell? ⟨w2.heap.size, 1, none⟩ = some (.slice y3a y3l y3c) := (by rw [cell_of_row _ _ _ _ _ _ hq9]; rfl); have DZ := X3.out _ _ ((sl_of_own s6W).below j79); clear X3)
    | (go_at_call 15; refine DZ.mono ?_; rintro e w10 ⟨rfl, j10⟩; clear DZ q0 q1))
  go_ret
  exact ⟨rfl, Below.next HB0.out (Below.next J9 j10)⟩
set_option maxRecDepth 100000 in
set_option maxHeartbeats 8000000 in
theorem Md_ooe (k p s t : Int) (L M : List Int) (u v : Value) (w : World) (n1 z1 n2 z2 n3 z3 : Nat) (l1 l2 l3 : List Int) (hT : Fd.Tab w) (hu : Sl w u L) (hv : Sl w v M)
    (S1 : ∀ W, Mk 5 #[.int .i64 k] n1 z1 l1 W) (S2 : ∀ W, Fd.Tab W → Mk 8 #[.int .i64 p] n2 z2 l2 W) (S3 : ∀ u v W, Sl W u L → Sl W v M → Mk 10 #[.agg #[.int .i64 s, u], .agg #[.int .i64 t, v]] n3 z3 l3 W)
    (e1 : z1 = 0) (K1 : GoodH n1 l1 ∧ ∃ m : Nat, k = m ∧ m ≤ 4 ∧ n1 = 2 ^ m) (e2 : z2 = 0) (K2 : GoodH n2 l2 ∧ ∃ m : Nat, p = m ∧ m ≤ 23 ∧ n2 = m + 1) (e3 : z3 ≠ 0) :
    Calls Tryd.prog 4 #[.int .i64 k, .int .i64 p, .agg #[.int .i64 s, u], .agg #[.int .i64 t, v]] w fun e w' => e = .returned (.bool true) ∧ Below w.heap.size w w' := by
  obtain ⟨ua, ul, uc, rfl⟩ : ∃ a l c, u = .slice a l c := by obtain ⟨a, c, e, _⟩ := hu; exact ⟨a, _, c, e⟩
  obtain ⟨va, vn, vc, rfl⟩ : ∃ a l c, v = .slice a l c := by obtain ⟨a, c, e, _⟩ := hv; exact ⟨a, _, c, e⟩
  have HB0 : Hid (Below w.heap.size w ((w.alloc (.cells #[.int .i64 s, .slice ua ul uc] 24)).alloc (.cells #[.int .i64 t, .slice va vn vc] 24))) := Below.next (balloc _ _) (balloc _ _)
  have HBX : Hid (∀ X, Below ((w.alloc (.cells #[.int .i64 s, .slice ua ul uc] 24)).alloc (.cells #[.int .i64 t, .slice va vn vc] 24)).heap.size ((w.alloc (.cells #[.int .i64 s, .slice ua ul uc] 24)).alloc (.cells #[.int .i64 t, .slice va vn vc] 24)) X → (X.cell? ⟨w.heap.size, 0, none⟩ = some (.int .i64 s) ∧ X.cell? ⟨w.heap.size, 1, none⟩ = some (.slice ua ul uc)) ∧ (X.cell? ⟨w.heap.size + 1, 0, none⟩ = some (.int .i64 t) ∧ X.cell? ⟨w.heap.size + 1, 1, none⟩ = some (.slice va vn vc))) := fun X bX => by
    have k1 := (bX.block w.heap.size (by simp; omega)).trans (first_box w (.cells #[.int .i64 t, .slice va vn vc] 24) #[.int .i64 s, .slice ua ul uc] 24)
    have k2 := (bX.block (w.heap.size + 1) (by simp)).trans (second_box w (.cells #[.int .i64 s, .slice ua ul uc] 24) #[.int .i64 t, .slice va vn vc] 24)
    exact ⟨⟨by rw [cell_of_row _ _ _ _ _ _ k1]; rfl, by rw [cell_of_row _ _ _ _ _ _ k1]; rfl⟩, by rw [cell_of_row _ _ _ _ _ _ k2]; rfl, by rw [cell_of_row _ _ _ _ _ _ k2]; rfl⟩
  have HSZ : Hid (((w.alloc (.cells #[.int .i64 s, .slice ua ul uc] 24)).alloc (.cells #[.int .i64 t, .slice va vn vc] 24)).heap.size = w.heap.size + 1 + 1) := by show _ = _; simp
  have C0 := hadaFact_any ((w.alloc (.cells #[.int .i64 s, .slice ua ul uc] 24)).alloc (.cells #[.int .i64 t, .slice va vn vc] 24))
  have T1 : Hid (∀ W, Calls Tryd.prog 5 #[.int .i64 k] W fun e w' => (∃ y, e = .returned (.tuple #[.agg #[.int .i64 (n1 : Int), y], .int .i64 (z1 : Int)]) ∧ w'.ownsRow W.heap.size 3 1 y l1.length (vi l1)) ∧ Below W.heap.size W w') := S1
  have T2 : Hid (∀ W, Below ((w.alloc (.cells #[.int .i64 s, .slice ua ul uc] 24)).alloc (.cells #[.int .i64 t, .slice va vn vc] 24)).heap.size ((w.alloc (.cells #[.int .i64 s, .slice ua ul uc] 24)).alloc (.cells #[.int .i64 t, .slice va vn vc] 24)) W → Calls Tryd.prog 8 #[.int .i64 p] W fun e w' => (∃ y, e = .returned (.tuple #[.agg #[.int .i64 (n2 : Int), y], .int .i64 (z2 : Int)]) ∧ w'.ownsRow W.heap.size 3 1 y l2.length (vi l2)) ∧ Below W.heap.size W w') := fun W b => S2 W (hT.below (Below.next HB0.out b))
  have T3 : Hid (∀ W, Below ((w.alloc (.cells #[.int .i64 s, .slice ua ul uc] 24)).alloc (.cells #[.int .i64 t, .slice va vn vc] 24)).heap.size ((w.alloc (.cells #[.int .i64 s, .slice ua ul uc] 24)).alloc (.cells #[.int .i64 t, .slice va vn vc] 24)) W → Calls Tryd.prog 10 #[.agg #[.int .i64 s, .slice ua ul uc], .agg #[.int .i64 t, .slice va vn vc]] W fun e w' => (∃ y, e = .returned (.tuple #[.agg #[.int .i64 (n3 : Int), y], .int .i64 (z3 : Int)]) ∧ w'.ownsRow W.heap.size 3 1 y l3.length (vi l3)) ∧ Below W.heap.size W w') := fun W b => S3 _ _ W (hu.below (Below.next HB0.out b)) (hv.below (Below.next HB0.out b))
  have G1 := K1.1
  have hl1 : l1.length ≤ maxLen := by rw [G1.len]; have := Nat.mul_le_mul G1.le G1.le; unfold maxLen; omega
  have U1 : Hid (∀ y W, Sl W y l1 → Calls Tryd.prog 14 #[.agg #[.int .i64 (n1 : Int), y]] W fun e w' => e = .returned (.int .i64 0) ∧ Below W.heap.size W w') := fun y W hS => by
    have h := Check_any n1 l1 y W hS hl1
    rw [hF_good G1] at h
    exact h
  have G2 := K2.1
  have hl2 : l2.length ≤ maxLen := by rw [G2.len]; have := Nat.mul_le_mul G2.le G2.le; unfold maxLen; omega
  have U2 : Hid (∀ y W, Sl W y l2 → Calls Tryd.prog 14 #[.agg #[.int .i64 (n2 : Int), y]] W fun e w' => e = .returned (.int .i64 0) ∧ Below W.heap.size W w') := fun y W hS => by
    have h := Check_any n2 l2 y W hS hl2
    rw [hF_good G2] at h
    exact h
  obtain ⟨m1, rfl, hm1, hn1⟩ := K1.2
  have hpw : (2 : Int) ^ m1 = (n1 : Int) := by rw [hn1]; simp
  have hn16 : n1 ≤ 16 := by rw [hn1]; exact (pow16 hm1).2
  have hnn1 : ((n1 : Int) != (n1 : Int)) = false := by simp
  have wn1 := wrapN9 (q := n1) (by omega)
  clear hn1
  obtain ⟨m2, rfl, hm2, hn2⟩ := K2.2
  have hpl : (m2 : Int) + 1 = (n2 : Int) := by rw [hn2]; simp
  have hn24 : n2 ≤ 99 := by omega
  have hnn2 : ((n2 : Int) != (n2 : Int)) = false := by simp
  clear hn2
  have g1 : ((z1 : Int) == 0) = true := by simp [e1]
  have g1' : ((z1 : Int) != 0) = false := by simp [e1]
  have g2 : ((z2 : Int) == 0) = true := by simp [e2]
  have g2' : ((z2 : Int) != 0) = false := by simp [e2]
  have g3 : ((z3 : Int) == 0) = false := by simp [e3]
  have g3' : ((z3 : Int) != 0) = true := by simp [e3]
  clear e1 e2 e3 hu hv S1 S2 S3 hT K1 G1 hl1 K2 G2 hl2
  go_enter Tryd.func4, Tryd.ntmps4
  go_wp2_with (first
    | (go_at_call 13; refine C0.mono ?_; rintro e w1 ⟨rfl, j1⟩; clear C0; have D1 := T1.out w1; clear T1)
    | (go_at_call 5; refine D1.mono ?_; rintro e w2 ⟨⟨y1, rfl, hW1⟩, j2⟩; clear D1; obtain ⟨y1a, y1l, y1c, rfl⟩ := own_slice hW1; have hq := heap_alloc_new w2 (.cells #[.int .i64 (n1 : Int), .slice y1a y1l y1c] 24); have J2 := Below.next (Below.next j1 j2) (balloc w2 (.cells #[.int .i64 (n1 : Int), .slice y1a y1l y1c] 24)); have hw2 := (Below.next j1 j2).size; have DU := U1.out _ _ ((sl_of_own hW1).alloc (.cells #[.int .i64 (n1 : Int), .slice y1a y1l y1c] 24)); clear U1)
    | (go_at_call 14; refine DU.mono ?_; rintro e w3 ⟨rfl, j3⟩; clear DU; have hq3 := (j3.block w2.heap.size (by simp)).trans hq; have J3 := Below.next J2 j3; have hw3 := j3.size; simp at hw3; have q0 : w3.cell? ⟨w2.heap.size, 0, none⟩ = some (.int .i64 (n1 : Int)) := (by rw [cell_of_row _ _ _ _ _ _ hq3]; rfl); have q1 : w3.cell? ⟨w2.heap.size, 1, none⟩ = some (.slice y1a y1l y1c) := (by rw [cell_of_row _ _ _ _ _ _ hq3]; rfl)))
  go_quiet (fail)
  clear q0 q1
  go_wp2_with (first
    | (go_at_call 8; refine (T2.out _ (bdrewN J3 _)).mono ?_; rintro e w4 ⟨⟨y2, rfl, hW2⟩, j4⟩; clear T2; obtain ⟨y2a, y2l, y2c, rfl⟩ := own_slice hW2; have hq4 := (j4.block w2.heap.size (show w2.heap.size < w3.heap.size by omega)).trans hq3; have J4 := Below.next (bdrewN J3 _) j4; have q0 : w4.cell? ⟨w2.heap.size, 0, none⟩ = some (.int .i64 (n1 : Int)) := (by rw [cell_of_row _ _ _ _ _ _ hq4]; rfl); have q1 : w4.cell? ⟨w2.heap.size, 1, none⟩ = some (.slice y1a y1l y1c) := (by rw [cell_of_row _ _ _ _ _ _ hq4]; rfl); have f0 := frozen_of_row w4 w2.heap.size 0 _ _ hq4; have f1 := frozen_of_row w4 w2.heap.size 1 _ _ hq4; have s4n1 := heap_setCell_same w4 w2.heap.size 0 _ _ (.int .i64 (n2 : Int)) hq4; have s4h : ((w4.setCell ⟨w2.heap.size, 0, none⟩ (.int .i64 (n2 : Int))).setCell ⟨w2.heap.size, 1, none⟩ (.slice y2a y2l y2c)).heap[w2.heap.size]? = some (.cells #[.int .i64 (n2 : Int), .slice y2a y2l y2c] 24 (0, 0)) := heap_setCell_same _ w2.heap.size 1 _ _ (.slice y2a y2l y2c) s4n1; have s4J := (J4.setCell (p := ⟨w2.heap.size, 0, none⟩) (by show _ ≤ w2.heap.size; omega) (.int .i64 (n2 : Int))).setCell (p := ⟨w2.heap.size, 1, none⟩) (by show _ ≤ w2.heap.size; omega) (.slice y2a y2l y2c); have s4W := orow_other (orow_other hW2 ⟨w2.heap.size, 0, none⟩ (.int .i64 (n2 : Int)) (own_diff hW2 hq4)) ⟨w2.heap.size, 1, none⟩ (.slice y2a y2l y2c) (own_diff hW2 hq4); clear s4n1; have DU := U2.out _ _ (sl_of_own s4W); clear U2)
    | (go_at_call 14; refine DU.mono ?_; rintro e w5 ⟨rfl, j5⟩; clear DU q0 q1 f0 f1; have hq5 := (j5.block w2.heap.size (by have := (Array.getElem?_eq_some_iff.1 s4h).1; exact this)).trans s4h; have J5 := Below.next s4J j5; obtain ⟨⟨x0, x1⟩, y0, y1⟩ := HBX.out _ J5; have D3 := T3.out _ J5; clear T3; have q0 : w5.cell? ⟨w2.heap.size, 0, none⟩ = some (.int .i64 (n2 : Int)) := (by rw [cell_of_row _ _ _ _ _ _ hq5]; rfl); have q1 : w5.cell? ⟨w2.heap.size, 1, none⟩ = some (.slice y2a y2l y2c) := (by rw [cell_of_row _ _ _ _ _ _ hq5]; rfl))
    | (go_at_call 10; refine D3.mono ?_; rintro e w6 ⟨⟨y3, rfl, hW3⟩, j6⟩; clear D3 x0 x1 y0 y1 q0 q1; obtain ⟨y3a, y3l, y3c, rfl⟩ := own_slice hW3; have hq6 := (j6.block w2.heap.size (by have := (Array.getElem?_eq_some_iff.1 hq5).1; exact this)).trans hq5; have J6 := Below.next J5 j6; have q0 : w6.cell? ⟨w2.heap.size, 0, none⟩ = some (.int .i64 (n2 : Int)) := (by rw [cell_of_row _ _ _ _ _ _ hq6]; rfl); have q1 : w6.cell? ⟨w2.heap.size, 1, none⟩ = some (.slice y2a y2l y2c) := (by rw [cell_of_row _ _ _ _ _ _ hq6]; rfl); have f0 := frozen_of_row w6 w2.heap.size 0 _ _ hq6; have f1 := frozen_of_row w6 w2.heap.size 1 _ _ hq6; have s6n1 := heap_setCell_same w6 w2.heap.size 0 _ _ (.int .i64 (n3 : Int)) hq6; have s6h : ((w6.setCell ⟨w2.heap.size, 0, none⟩ (.int .i64 (n3 : Int))).setCell ⟨w2.heap.size, 1, none⟩ (.slice y3a y3l y3c)).heap[w2.heap.size]? = some (.cells #[.int .i64 (n3 : Int), .slice y3a y3l y3c] 24 (0, 0)) := heap_setCell_same _ w2.heap.size 1 _ _ (.slice y3a y3l y3c) s6n1; have s6J := (J6.setCell (p := ⟨w2.heap.size, 0, none⟩) (by show _ ≤ w2.heap.size; omega) (.int .i64 (n3 : Int))).setCell (p := ⟨w2.heap.size, 1, none⟩) (by show _ ≤ w2.heap.size; omega) (.slice y3a y3l y3c); have s6W := orow_other (orow_other hW3 ⟨w2.heap.size, 0, none⟩ (.int .i64 (n3 : Int)) (own_diff hW3 hq6)) ⟨w2.heap.size, 1, none⟩ (.slice y3a y3l y3c) (own_diff hW3 hq6); clear s6n1))
  go_ret
  exact ⟨rfl, Below.next HB0.out (s6J)⟩
set_option maxRecDepth 100000 in
set_option maxHeartbeats 8000000 in
theorem Md_oeo (k p s t : Int) (L M : List Int) (u v : Value) (w : World) (n1 z1 n2 z2 n3 z3 : Nat) (l1 l2 l3 : List Int) (hT : Fd.Tab w) (hu : Sl w u L) (hv : Sl w v M)
    (S1 : ∀ W, Mk 5 #[.int .i64 k] n1 z1 l1 W) (S2 : ∀ W, Fd.Tab W → Mk 8 #[.int .i64 p] n2 z2 l2 W) (S3 : ∀ u v W, Sl W u L → Sl W v M → Mk 10 #[.agg #[.int .i64 s, u], .agg #[.int .i64 t, v]] n3 z3 l3 W)
    (e1 : z1 = 0) (K1 : GoodH n1 l1 ∧ ∃ m : Nat, k = m ∧ m ≤ 4 ∧ n1 = 2 ^ m) (e2 : z2 ≠ 0) (e3 : z3 = 0) (K3 : GoodH n3 l3 ∧ ∃ a b : Nat, s = a ∧ t = b ∧ GoodH a L ∧ GoodH b M ∧ smL l3 = smL L * smL M) :
    Calls Tryd.prog 4 #[.int .i64 k, .int .i64 p, .agg #[.int .i64 s, u], .agg #[.int .i64 t, v]] w fun e w' => e = .returned (.bool true) ∧ Below w.heap.size w w' := by
  obtain ⟨ua, ul, uc, rfl⟩ : ∃ a l c, u = .slice a l c := by obtain ⟨a, c, e, _⟩ := hu; exact ⟨a, _, c, e⟩
  obtain ⟨va, vn, vc, rfl⟩ : ∃ a l c, v = .slice a l c := by obtain ⟨a, c, e, _⟩ := hv; exact ⟨a, _, c, e⟩
  have HB0 : Hid (Below w.heap.size w ((w.alloc (.cells #[.int .i64 s, .slice ua ul uc] 24)).alloc (.cells #[.int .i64 t, .slice va vn vc] 24))) := Below.next (balloc _ _) (balloc _ _)
  have HBX : Hid (∀ X, Below ((w.alloc (.cells #[.int .i64 s, .slice ua ul uc] 24)).alloc (.cells #[.int .i64 t, .slice va vn vc] 24)).heap.size ((w.alloc (.cells #[.int .i64 s, .slice ua ul uc] 24)).alloc (.cells #[.int .i64 t, .slice va vn vc] 24)) X → (X.cell? ⟨w.heap.size, 0, none⟩ = some (.int .i64 s) ∧ X.cell? ⟨w.heap.size, 1, none⟩ = some (.slice ua ul uc)) ∧ (X.cell? ⟨w.heap.size + 1, 0, none⟩ = some (.int .i64 t) ∧ X.cell? ⟨w.heap.size + 1, 1, none⟩ = some (.slice va vn vc))) := fun X bX => by
    have k1 := (bX.block w.heap.size (by simp; omega)).trans (first_box w (.cells #[.int .i64 t, .slice va vn vc] 24) #[.int .i64 s, .slice ua ul uc] 24)
    have k2 := (bX.block (w.heap.size + 1) (by simp)).trans (second_box w (.cells #[.int .i64 s, .slice ua ul uc] 24) #[.int .i64 t, .slice va vn vc] 24)
    exact ⟨⟨by rw [cell_of_row _ _ _ _ _ _ k1]; rfl, by rw [cell_of_row _ _ _ _ _ _ k1]; rfl⟩, by rw [cell_of_row _ _ _ _ _ _ k2]; rfl, by rw [cell_of_row _ _ _ _ _ _ k2]; rfl⟩
  have HSZ : Hid (((w.alloc (.cells #[.int .i64 s, .slice ua ul uc] 24)).alloc (.cells #[.int .i64 t, .slice va vn vc] 24)).heap.size = w.heap.size + 1 + 1) := by show _ = _; simp
  have C0 := hadaFact_any ((w.alloc (.cells #[.int .i64 s, .slice ua ul uc] 24)).alloc (.cells #[.int .i64 t, .slice va vn vc] 24))
  have T1 : Hid (∀ W, Calls Tryd.prog 5 #[.int .i64 k] W fun e w' => (∃ y, e = .returned (.tuple #[.agg #[.int .i64 (n1 : Int), y], .int .i64 (z1 : Int)]) ∧ w'.ownsRow W.heap.size 3 1 y l1.length (vi l1)) ∧ Below W.heap.size W w') := S1
  have T2 : Hid (∀ W, Below ((w.alloc (.cells #[.int .i64 s, .slice ua ul uc] 24)).alloc (.cells #[.int .i64 t, .slice va vn vc] 24)).heap.size ((w.alloc (.cells #[.int .i64 s, .slice ua ul uc] 24)).alloc (.cells #[.int .i64 t, .slice va vn vc] 24)) W → Calls Tryd.prog 8 #[.int .i64 p] W fun e w' => (∃ y, e = .returned (.tuple #[.agg #[.int .i64 (n2 : Int), y], .int .i64 (z2 : Int)]) ∧ w'.ownsRow W.heap.size 3 1 y l2.length (vi l2)) ∧ Below W.heap.size W w') := fun W b => S2 W (hT.below (Below.next HB0.out b))
  have T3 : Hid (∀ W, Below ((w.alloc (.cells #[.int .i64 s, .slice ua ul uc] 24)).alloc (.cells #[.int .i64 t, .slice va vn vc] 24)).heap.size ((w.alloc (.cells #[.int .i64 s, .slice ua ul uc] 24)).alloc (.cells #[.int .i64 t, .slice va vn vc] 24)) W → Calls Tryd.prog 10 #[.agg #[.int .i64 s, .slice ua ul uc], .agg #[.int .i64 t, .slice va vn vc]] W fun e w' => (∃ y, e = .returned (.tuple #[.agg #[.int .i64 (n3 : Int), y], .int .i64 (z3 : Int)]) ∧ w'.ownsRow W.heap.size 3 1 y l3.length (vi l3)) ∧ Below W.heap.size W w') := fun W b => S3 _ _ W (hu.below (Below.next HB0.out b)) (hv.below (Below.next HB0.out b))
  have G1 := K1.1
  have hl1 : l1.length ≤ maxLen := by rw [G1.len]; have := Nat.mul_le_mul G1.le G1.le; unfold maxLen; omega
  have U1 : Hid (∀ y W, Sl W y l1 → Calls Tryd.prog 14 #[.agg #[.int .i64 (n1 : Int), y]] W fun e w' => e = .returned (.int .i64 0) ∧ Below W.heap.size W w') := fun y W hS => by
    have h := Check_any n1 l1 y W hS hl1
    rw [hF_good G1] at h
    exact h
  have G3 := K3.1
  have hl3 : l3.length ≤ maxLen := by rw [G3.len]; have := Nat.mul_le_mul G3.le G3.le; unfold maxLen; omega
  have U3 : Hid (∀ y W, Sl W y l3 → Calls Tryd.prog 14 #[.agg #[.int .i64 (n3 : Int), y]] W fun e w' => e = .returned (.int .i64 0) ∧ Below W.heap.size W w') := fun y W hS => by
    have h := Check_any n3 l3 y W hS hl3
    rw [hF_good G3] at h
    exact h
  obtain ⟨m1, rfl, hm1, hn1⟩ := K1.2
  have hpw : (2 : Int) ^ m1 = (n1 : Int) := by rw [hn1]; simp
  have hn16 : n1 ≤ 16 := by rw [hn1]; exact (pow16 hm1).2
  have hnn1 : ((n1 : Int) != (n1 : Int)) = false := by simp
  have wn1 := wrapN9 (q := n1) (by omega)
  clear hn1
  obtain ⟨a, b, rfl, rfl, Ga, Gb, hsm⟩ := K3.2
  have ba := smL_bd Ga
  have bb := smL_bd Gb
  have X1 : Hid (∀ W, Below ((w.alloc (.cells #[.int .i64 (a : Int), .slice ua ul uc] 24)).alloc (.cells #[.int .i64 (b : Int), .slice va vn vc] 24)).heap.size ((w.alloc (.cells #[.int .i64 (a : Int), .slice ua ul uc] 24)).alloc (.cells #[.int .i64 (b : Int), .slice va vn vc] 24)) W → Calls Tryd.prog 15 #[.agg #[.int .i64 (a : Int), .slice ua ul uc]] W fun e w' => e = .returned (.tuple #[.int .i64 (smL L), .int .i64 0]) ∧ Below W.heap.size W w') := fun W k => Excess_ok a L _ W (hu.below (Below.next HB0.out k)) Ga
  have X2 : Hid (∀ W, Below ((w.alloc (.cells #[.int .i64 (a : Int), .slice ua ul uc] 24)).alloc (.cells #[.int .i64 (b : Int), .slice va vn vc] 24)).heap.size ((w.alloc (.cells #[.int .i64 (a : Int), .slice ua ul uc] 24)).alloc (.cells #[.int .i64 (b : Int), .slice va vn vc] 24)) W → Calls Tryd.prog 15 #[.agg #[.int .i64 (b : Int), .slice va vn vc]] W fun e w' => e = .returned (.tuple #[.int .i64 (smL M), .int .i64 0]) ∧ Below W.heap.size W w') := fun W k => Excess_ok b M _ W (hv.below (Below.next HB0.out k)) Gb
  have X3 : Hid (∀ y W, Sl W y l3 → Calls Tryd.prog 15 #[.agg #[.int .i64 (n3 : Int), y]] W fun e w' => e = .returned (.tuple #[.int .i64 (smL l3), .int .i64 0]) ∧ Below W.heap.size W w') := fun y W hS => Excess_ok n3 l3 y W hS G3
  obtain ⟨xa, Hxa⟩ : ∃ x, Hid (smL L = x) := ⟨_, rfl⟩
  obtain ⟨xb, Hxb⟩ : ∃ x, Hid (smL M = x) := ⟨_, rfl⟩
  obtain ⟨xc, Hxc⟩ : ∃ x, Hid (smL l3 = x) := ⟨_, rfl⟩
  rw [Hxa.out] at X1 ba hsm
  rw [Hxb.out] at X2 bb hsm
  rw [Hxc.out] at X3 hsm
  have hxx : xa * xb = xc := hsm.symm
  have bc := smL_bd G3
  rw [Hxc.out] at bc
  obtain ⟨bc1, bc2⟩ := bc
  have hcc : (xc == xc) = true := by simp
  clear hsm Ga Gb ba bb
  have g1 : ((z1 : Int) == 0) = true := by simp [e1]
  have g1' : ((z1 : Int) != 0) = false := by simp [e1]
  have g2 : ((z2 : Int) == 0) = false := by simp [e2]
  have g2' : ((z2 : Int) != 0) = true := by simp [e2]
  have g3 : ((z3 : Int) == 0) = true := by simp [e3]
  have g3' : ((z3 : Int) != 0) = false := by simp [e3]
  clear e1 e2 e3 hu hv S1 S2 S3 hT K1 G1 hl1 K3 G3 hl3
  go_enter Tryd.func4, Tryd.ntmps4
  go_wp2_with (first
    | (go_at_call 13; refine C0.mono ?_; rintro e w1 ⟨rfl, j1⟩; clear C0; have D1 := T1.out w1; clear T1)
    | (go_at_call 5; refine D1.mono ?_; rintro e w2 ⟨⟨y1, rfl, hW1⟩, j2⟩; clear D1; obtain ⟨y1a, y1l, y1c, rfl⟩ := own_slice hW1; have hq := heap_alloc_new w2 (.cells #[.int .i64 (n1 : Int), .slice y1a y1l y1c] 24); have J2 := Below.next (Below.next j1 j2) (balloc w2 (.cells #[.int .i64 (n1 : Int), .slice y1a y1l y1c] 24)); have hw2 := (Below.next j1 j2).size; have DU := U1.out _ _ ((sl_of_own hW1).alloc (.cells #[.int .i64 (n1 : Int), .slice y1a y1l y1c] 24)); clear U1)
    | (go_at_call 14; refine DU.mono ?_; rintro e w3 ⟨rfl, j3⟩; clear DU; have hq3 := (j3.block w2.heap.size (by simp)).trans hq; have J3 := Below.next J2 j3; have hw3 := j3.size; simp at hw3; have q0 : w3.cell? ⟨w2.heap.size, 0, none⟩ = some (.int .i64 (n1 : Int)) := (by rw [cell_of_row _ _ _ _ _ _ hq3]; rfl); have q1 : w3.cell? ⟨w2.heap.size, 1, none⟩ = some (.slice y1a y1l y1c) := (by rw [cell_of_row _ _ _ _ _ _ hq3]; rfl)))
  go_quiet (fail)
  clear q0 q1
  go_wp2_with (first
    | (go_at_call 8; refine (T2.out _ (bdrewN J3 _)).mono ?_; rintro e w4 ⟨⟨y2, rfl, hW2⟩, j4⟩; clear T2; obtain ⟨y2a, y2l, y2c, rfl⟩ := own_slice hW2; have hq4 := (j4.block w2.heap.size (show w2.heap.size < w3.heap.size by omega)).trans hq3; have J4 := Below.next (bdrewN J3 _) j4; have q0 : w4.cell? ⟨w2.heap.size, 0, none⟩ = some (.int .i64 (n1 : Int)) := (by rw [cell_of_row _ _ _ _ _ _ hq4]; rfl); have q1 : w4.cell? ⟨w2.heap.size, 1, none⟩ = some (.slice y1a y1l y1c) := (by rw [cell_of_row _ _ _ _ _ _ hq4]; rfl); have f0 := frozen_of_row w4 w2.heap.size 0 _ _ hq4; have f1 := frozen_of_row w4 w2.heap.size 1 _ _ hq4; have s4n1 := heap_setCell_same w4 w2.heap.size 0 _ _ (.int .i64 (n2 : Int)) hq4; have s4h : ((w4.setCell ⟨w2.heap.size, 0, none⟩ (.int .i64 (n2 : Int))).setCell ⟨w2.heap.size, 1, none⟩ (.slice y2a y2l y2c)).heap[w2.heap.size]? = some (.cells #[.int .i64 (n2 : Int), .slice y2a y2l y2c] 24 (0, 0)) := heap_setCell_same _ w2.heap.size 1 _ _ (.slice y2a y2l y2c) s4n1; have s4J := (J4.setCell (p := ⟨w2.heap.size, 0, none⟩) (by show _ ≤ w2.heap.size; omega) (.int .i64 (n2 : Int))).setCell (p := ⟨w2.heap.size, 1, none⟩) (by show _ ≤ w2.heap.size; omega) (.slice y2a y2l y2c); have s4W := orow_other (orow_other hW2 ⟨w2.heap.size, 0, none⟩ (.int .i64 (n2 : Int)) (own_diff hW2 hq4)) ⟨w2.heap.size, 1, none⟩ (.slice y2a y2l y2c) (own_diff hW2 hq4); clear s4n1; obtain ⟨⟨x0, x1⟩, y0, y1⟩ := HBX.out _ s4J; have D3 := T3.out _ s4J; clear T3)
    | (go_at_call 10; refine D3.mono ?_; rintro e w6 ⟨⟨y3, rfl, hW3⟩, j6⟩; clear D3 x0 x1 y0 y1 q0 q1 f0 f1; obtain ⟨y3a, y3l, y3c, rfl⟩ := own_slice hW3; have hq6 := (j6.block w2.heap.size (by have := (Array.getElem?_eq_some_iff.1 s4h).1; exact this)).trans s4h; have J6 := Below.next s4J j6; have q0 : w6.cell? ⟨w2.heap.size, 0, none⟩ = some (.int .i64 (n2 : Int)) := (by rw [cell_of_row _ _ _ _ _ _ hq6]; rfl); have q1 : w6.cell? ⟨w2.heap.size, 1, none⟩ = some (.slice y2a y2l y2c) := (by rw [cell_of_row _ _ _ _ _ _ hq6]; rfl); have f0 := frozen_of_row w6 w2.heap.size 0 _ _ hq6; have f1 := frozen_of_row w6 w2.heap.size 1 _ _ hq6; have s6n1 := heap_setCell_same w6 w2.heap.size 0 _ _ (.int .i64 (n3 : Int)) hq6; have s6h : ((w6.setCell ⟨w2.heap.size, 0, none⟩ (.int .i64 (n3 : Int))).setCell ⟨w2.heap.size, 1, none⟩ (.slice y3a y3l y3c)).heap[w2.heap.size]? = some (.cells #[.int .i64 (n3 : Int), .slice y3a y3l y3c] 24 (0, 0)) := heap_setCell_same _ w2.heap.size 1 _ _ (.slice y3a y3l y3c) s6n1; have s6J := (J6.setCell (p := ⟨w2.heap.size, 0, none⟩) (by show _ ≤ w2.heap.size; omega) (.int .i64 (n3 : Int))).setCell (p := ⟨w2.heap.size, 1, none⟩) (by show _ ≤ w2.heap.size; omega) (.slice y3a y3l y3c); have s6W := orow_other (orow_other hW3 ⟨w2.heap.size, 0, none⟩ (.int .i64 (n3 : Int)) (own_diff hW3 hq6)) ⟨w2.heap.size, 1, none⟩ (.slice y3a y3l y3c) (own_diff hW3 hq6); clear s6n1; have DU := U3.out _ _ (sl_of_own s6W); clear U3)
    | (go_at_call 14; refine DU.mono ?_; rintro e w7 ⟨rfl, j7⟩; clear DU q0 q1 f0 f1; have J7 := Below.next s6J j7; obtain ⟨⟨x0, x1⟩, y0, y1⟩ := HBX.out _ J7; have DX := X1.out _ J7; clear X1)
    | (go_at_call 15; refine DX.mono ?_; rintro e w8 ⟨rfl, j8⟩; clear DX x0 x1 y0 y1; have J8 := Below.next J7 j8; obtain ⟨⟨x0, x1⟩, y0, y1⟩ := HBX.out _ J8; have DY := X2.out _ J8; clear X2)
    | (go_at_call 15; refine DY.mono ?_; rintro e w9 ⟨rfl, j9⟩; clear DY x0 x1 y0 y1; have J9 := Below.next J8 j9; have j79 := Below.next (Below.next j7 j8) j9; have hq9 := (j79.block w2.heap.size (by have := (Array.getElem?_eq_some_iff.1 s6h).1; exact this)).trans s6h; have q0 : w9.cell? ⟨w2.heap.size, 0, none⟩ = some (.int .i64 (n3 : Int)) := (by rw [cell_of_row _ _ _ _ _ _ hq9]; rfl); have q1 : w9.cell? ⟨w2.heap.size, 1, none⟩ = some (.slice y3a y3l y3c) := (by rw [cell_of_row _ _ _ _ _ _ hq9]; rfl); have DZ := X3.out _ _ ((sl_of_own s6W).below j79); clear X3)
    | (go_at_call 15; refine DZ.mono ?_; rintro e w10 ⟨rfl, j10⟩; clear DZ q0 q1))
  go_ret
  exact ⟨rfl, Below.next HB0.out (Below.next J9 j10)⟩
set_option maxRecDepth 100000 in
set_option maxHeartbeats 8000000 in
theorem Md_oee (k p s t : Int) (L M : List Int) (u v : Value) (w : World) (n1 z1 n2 z2 n3 z3 : Nat) (l1 l2 l3 : List Int) (hT : Fd.Tab w) (hu : Sl w u L) (hv : Sl w v M)
    (S1 : ∀ W, Mk 5 #[.int .i64 k] n1 z1 l1 W) (S2 : ∀ W, Fd.Tab W → Mk 8 #[.int .i64 p] n2 z2 l2 W) (S3 : ∀ u v W, Sl W u L → Sl W v M → Mk 10 #[.agg #[.int .i64 s, u], .agg #[.int .i64 t, v]] n3 z3 l3 W)
    (e1 : z1 = 0) (K1 : GoodH n1 l1 ∧ ∃ m : Nat, k = m ∧ m ≤ 4 ∧ n1 = 2 ^ m) (e2 : z2 ≠ 0) (e3 : z3 ≠ 0) :
    Calls Tryd.prog 4 #[.int .i64 k, .int .i64 p, .agg #[.int .i64 s, u], .agg #[.int .i64 t, v]] w fun e w' => e = .returned (.bool true) ∧ Below w.heap.size w w' := by
  obtain ⟨ua, ul, uc, rfl⟩ : ∃ a l c, u = .slice a l c := by obtain ⟨a, c, e, _⟩ := hu; exact ⟨a, _, c, e⟩
  obtain ⟨va, vn, vc, rfl⟩ : ∃ a l c, v = .slice a l c := by obtain ⟨a, c, e, _⟩ := hv; exact ⟨a, _, c, e⟩
  have HB0 : Hid (Below w.heap.size w ((w.alloc (.cells #[.int .i64 s, .slice ua ul uc] 24)).alloc (.cells #[.int .i64 t, .slice va vn vc] 24))) := Below.next (balloc _ _) (balloc _ _)
  have HBX : Hid (∀ X, Below ((w.alloc (.cells #[.int .i64 s, .slice ua ul uc] 24)).alloc (.cells #[.int .i64 t, .slice va vn vc] 24)).heap.size ((w.alloc (.cells #[.int .i64 s, .slice ua ul uc] 24)).alloc (.cells #[.int .i64 t, .slice va vn vc] 24)) X → (X.cell? ⟨w.heap.size, 0, none⟩ = some (.int .i64 s) ∧ X.cell? ⟨w.heap.size, 1, none⟩ = some (.slice ua ul uc)) ∧ (X.cell? ⟨w.heap.size + 1, 0, none⟩ = some (.int .i64 t) ∧ X.cell? ⟨w.heap.size + 1, 1, none⟩ = some (.slice va vn vc))) := fun X bX => by
    have k1 := (bX.block w.heap.size (by simp; omega)).trans (first_box w (.cells #[.int .i64 t, .slice va vn vc] 24) #[.int .i64 s, .slice ua ul uc] 24)
    have k2 := (bX.block (w.heap.size + 1) (by simp)).trans (second_box w (.cells #[.int .i64 s, .slice ua ul uc] 24) #[.int .i64 t, .slice va vn vc] 24)
    exact ⟨⟨by rw [cell_of_row _ _ _ _ _ _ k1]; rfl, by rw [cell_of_row _ _ _ _ _ _ k1]; rfl⟩, by rw [cell_of_row _ _ _ _ _ _ k2]; rfl, by rw [cell_of_row _ _ _ _ _ _ k2]; rfl⟩
  have HSZ : Hid (((w.alloc (.cells #[.int .i64 s, .slice ua ul uc] 24)).alloc (.cells #[.int .i64 t, .slice va vn vc] 24)).heap.size = w.heap.size + 1 + 1) := by show _ = _; simp
  have C0 := hadaFact_any ((w.alloc (.cells #[.int .i64 s, .slice ua ul uc] 24)).alloc (.cells #[.int .i64 t, .slice va vn vc] 24))
  have T1 : Hid (∀ W, Calls Tryd.prog 5 #[.int .i64 k] W fun e w' => (∃ y, e = .returned (.tuple #[.agg #[.int .i64 (n1 : Int), y], .int .i64 (z1 : Int)]) ∧ w'.ownsRow W.heap.size 3 1 y l1.length (vi l1)) ∧ Below W.heap.size W w') := S1
  have T2 : Hid (∀ W, Below ((w.alloc (.cells #[.int .i64 s, .slice ua ul uc] 24)).alloc (.cells #[.int .i64 t, .slice va vn vc] 24)).heap.size ((w.alloc (.cells #[.int .i64 s, .slice ua ul uc] 24)).alloc (.cells #[.int .i64 t, .slice va vn vc] 24)) W → Calls Tryd.prog 8 #[.int .i64 p] W fun e w' => (∃ y, e = .returned (.tuple #[.agg #[.int .i64 (n2 : Int), y], .int .i64 (z2 : Int)]) ∧ w'.ownsRow W.heap.size 3 1 y l2.length (vi l2)) ∧ Below W.heap.size W w') := fun W b => S2 W (hT.below (Below.next HB0.out b))
  have T3 : Hid (∀ W, Below ((w.alloc (.cells #[.int .i64 s, .slice ua ul uc] 24)).alloc (.cells #[.int .i64 t, .slice va vn vc] 24)).heap.size ((w.alloc (.cells #[.int .i64 s, .slice ua ul uc] 24)).alloc (.cells #[.int .i64 t, .slice va vn vc] 24)) W → Calls Tryd.prog 10 #[.agg #[.int .i64 s, .slice ua ul uc], .agg #[.int .i64 t, .slice va vn vc]] W fun e w' => (∃ y, e = .returned (.tuple #[.agg #[.int .i64 (n3 : Int), y], .int .i64 (z3 : Int)]) ∧ w'.ownsRow W.heap.size 3 1 y l3.length (vi l3)) ∧ Below W.heap.size W w') := fun W b => S3 _ _ W (hu.below (Below.next HB0.out b)) (hv.below (Below.next HB0.out b))
  have G1 := K1.1
  have hl1 : l1.length ≤ maxLen := by rw [G1.len]; have := Nat.mul_le_mul G1.le G1.le; unfold maxLen; omega
  have U1 : Hid (∀ y W, Sl W y l1 → Calls Tryd.prog 14 #[.agg #[.int .i64 (n1 : Int), y]] W fun e w' => e = .returned (.int .i64 0) ∧ Below W.heap.size W w') := fun y W hS => by
    have h := Check_any n1 l1 y W hS hl1
    rw [hF_good G1] at h
    exact h
  obtain ⟨m1, rfl, hm1, hn1⟩ := K1.2
  have hpw : (2 : Int) ^ m1 = (n1 : Int) := by rw [hn1]; simp
  have hn16 : n1 ≤ 16 := by rw [hn1]; exact (pow16 hm1).2
  have hnn1 : ((n1 : Int) != (n1 : Int)) = false := by simp
  have wn1 := wrapN9 (q := n1) (by omega)
  clear hn1
  have g1 : ((z1 : Int) == 0) = true := by simp [e1]
  have g1' : ((z1 : Int) != 0) = false := by simp [e1]
  have g2 : ((z2 : Int) == 0) = false := by simp [e2]
  have g2' : ((z2 : Int) != 0) = true := by simp [e2]
  have g3 : ((z3 : Int) == 0) = false := by simp [e3]
  have g3' : ((z3 : Int) != 0) = true := by simp [e3]
  clear e1 e2 e3 hu hv S1 S2 S3 hT K1 G1 hl1
  go_enter Tryd.func4, Tryd.ntmps4
  go_wp2_with (first
    | (go_at_call 13; refine C0.mono ?_; rintro e w1 ⟨rfl, j1⟩; clear C0; have D1 := T1.out w1; clear T1)
    | (go_at_call 5; refine D1.mono ?_; rintro e w2 ⟨⟨y1, rfl, hW1⟩, j2⟩; clear D1; obtain ⟨y1a, y1l, y1c, rfl⟩ := own_slice hW1; have hq := heap_alloc_new w2 (.cells #[.int .i64 (n1 : Int), .slice y1a y1l y1c] 24); have J2 := Below.next (Below.next j1 j2) (balloc w2 (.cells #[.int .i64 (n1 : Int), .slice y1a y1l y1c] 24)); have hw2 := (Below.next j1 j2).size; have DU := U1.out _ _ ((sl_of_own hW1).alloc (.cells #[.int .i64 (n1 : Int), .slice y1a y1l y1c] 24)); clear U1)
    | (go_at_call 14; refine DU.mono ?_; rintro e w3 ⟨rfl, j3⟩; clear DU; have hq3 := (j3.block w2.heap.size (by simp)).trans hq; have J3 := Below.next J2 j3; have hw3 := j3.size; simp at hw3; have q0 : w3.cell? ⟨w2.heap.size, 0, none⟩ = some (.int .i64 (n1 : Int)) := (by rw [cell_of_row _ _ _ _ _ _ hq3]; rfl); have q1 : w3.cell? ⟨w2.heap.size, 1, none⟩ = some (.slice y1a y1l y1c) := (by rw [cell_of_row _ _ _ _ _ _ hq3]; rfl)))
  go_quiet (fail)
  clear q0 q1
  go_wp2_with (first
    | (go_at_call 8; refine (T2.out _ (bdrewN J3 _)).mono ?_; rintro e w4 ⟨⟨y2, rfl, hW2⟩, j4⟩; clear T2; obtain ⟨y2a, y2l, y2c, rfl⟩ := own_slice hW2; have hq4 := (j4.block w2.heap.size (show w2.heap.size < w3.heap.size by omega)).trans hq3; have J4 := Below.next (bdrewN J3 _) j4; have q0 : w4.cell? ⟨w2.heap.size, 0, none⟩ = some (.int .i64 (n1 : Int)) := (by rw [cell_of_row _ _ _ _ _ _ hq4]; rfl); have q1 : w4.cell? ⟨w2.heap.size, 1, none⟩ = some (.slice y1a y1l y1c) := (by rw [cell_of_row _ _ _ _ _ _ hq4]; rfl); have f0 := frozen_of_row w4 w2.heap.size 0 _ _ hq4; have f1 := frozen_of_row w4 w2.heap.size 1 _ _ hq4; have s4n1 := heap_setCell_same w4 w2.heap.size 0 _ _ (.int .i64 (n2 : Int)) hq4; have s4h : ((w4.setCell ⟨w2.heap.size, 0, none⟩ (.int .i64 (n2 : Int))).setCell ⟨w2.heap.size, 1, none⟩ (.slice y2a y2l y2c)).heap[w2.heap.size]? = some (.cells #[.int .i64 (n2 : Int), .slice y2a y2l y2c] 24 (0, 0)) := heap_setCell_same _ w2.heap.size 1 _ _ (.slice y2a y2l y2c) s4n1; have s4J := (J4.setCell (p := ⟨w2.heap.size, 0, none⟩) (by show _ ≤ w2.heap.size; omega) (.int .i64 (n2 : Int))).setCell (p := ⟨w2.heap.size, 1, none⟩) (by show _ ≤ w2.heap.size; omega) (.slice y2a y2l y2c); have s4W := orow_other (orow_other hW2 ⟨w2.heap.size, 0, none⟩ (.int .i64 (n2 : Int)) (own_diff hW2 hq4)) ⟨w2.heap.size, 1, none⟩ (.slice y2a y2l y2c) (own_diff hW2 hq4); clear s4n1; obtain ⟨⟨x0, x1⟩, y0, y1⟩ := HBX.out _ s4J; have D3 := T3.out _ s4J; clear T3)
    | (go_at_call 10; refine D3.mono ?_; rintro e w6 ⟨⟨y3, rfl, hW3⟩, j6⟩; clear D3 x0 x1 y0 y1 q0 q1 f0 f1; obtain ⟨y3a, y3l, y3c, rfl⟩ := own_slice hW3; have hq6 := (j6.block w2.heap.size (by have := (Array.getElem?_eq_some_iff.1 s4h).1; exact this)).trans s4h; have J6 := Below.next s4J j6; have q0 : w6.cell? ⟨w2.heap.size, 0, none⟩ = some (.int .i64 (n2 : Int)) := (by rw [cell_of_row _ _ _ _ _ _ hq6]; rfl); have q1 : w6.cell? ⟨w2.heap.size, 1, none⟩ = some (.slice y2a y2l y2c) := (by rw [cell_of_row _ _ _ _ _ _ hq6]; rfl); have f0 := frozen_of_row w6 w2.heap.size 0 _ _ hq6; have f1 := frozen_of_row w6 w2.heap.size 1 _ _ hq6; have s6n1 := heap_setCell_same w6 w2.heap.size 0 _ _ (.int .i64 (n3 : Int)) hq6; have s6h : ((w6.setCell ⟨w2.heap.size, 0, none⟩ (.int .i64 (n3 : Int))).setCell ⟨w2.heap.size, 1, none⟩ (.slice y3a y3l y3c)).heap[w2.heap.size]? = some (.cells #[.int .i64 (n3 : Int), .slice y3a y3l y3c] 24 (0, 0)) := heap_setCell_same _ w2.heap.size 1 _ _ (.slice y3a y3l y3c) s6n1; have s6J := (J6.setCell (p := ⟨w2.heap.size, 0, none⟩) (by show _ ≤ w2.heap.size; omega) (.int .i64 (n3 : Int))).setCell (p := ⟨w2.heap.size, 1, none⟩) (by show _ ≤ w2.heap.size; omega) (.slice y3a y3l y3c); have s6W := orow_other (orow_other hW3 ⟨w2.heap.size, 0, none⟩ (.int .i64 (n3 : Int)) (own_diff hW3 hq6)) ⟨w2.heap.size, 1, none⟩ (.slice y3a y3l y3c) (own_diff hW3 hq6); clear s6n1))
  go_ret
  exact ⟨rfl, Below.next HB0.out (s6J)⟩
set_option maxRecDepth 100000 in
set_option maxHeartbeats 8000000 in
theorem Md_eoo (k p s t : Int) (L M : List Int) (u v : Value) (w : World) (n1 z1 n2 z2 n3 z3 : Nat) (l1 l2 l3 : List Int) (hT : Fd.Tab w) (hu : Sl w u L) (hv : Sl w v M)
    (S1 : ∀ W, Mk 5 #[.int .i64 k] n1 z1 l1 W) (S2 : ∀ W, Fd.Tab W → Mk 8 #[.int .i64 p] n2 z2 l2 W) (S3 : ∀ u v W, Sl W u L → Sl W v M → Mk 10 #[.agg #[.int .i64 s, u], .agg #[.int .i64 t, v]] n3 z3 l3 W)
    (e1 : z1 ≠ 0) (e2 : z2 = 0) (K2 : GoodH n2 l2 ∧ ∃ m : Nat, p = m ∧ m ≤ 23 ∧ n2 = m + 1) (e3 : z3 = 0) (K3 : GoodH n3 l3 ∧ ∃ a b : Nat, s = a ∧ t = b ∧ GoodH a L ∧ GoodH b M ∧ smL l3 = smL L * smL M) :
    Calls Tryd.prog 4 #[.int .i64 k, .int .i64 p, .agg #[.int .i64 s, u], .agg #[.int .i64 t, v]] w fun e w' => e = .returned (.bool true) ∧ Below w.heap.size w w' := by
  obtain ⟨ua, ul, uc, rfl⟩ : ∃ a l c, u = .slice a l c := by obtain ⟨a, c, e, _⟩ := hu; exact ⟨a, _, c, e⟩
  obtain ⟨va, vn, vc, rfl⟩ : ∃ a l c, v = .slice a l c := by obtain ⟨a, c, e, _⟩ := hv; exact ⟨a, _, c, e⟩
  have HB0 : Hid (Below w.heap.size w ((w.alloc (.cells #[.int .i64 s, .slice ua ul uc] 24)).alloc (.cells #[.int .i64 t, .slice va vn vc] 24))) := Below.next (balloc _ _) (balloc _ _)
  have HBX : Hid (∀ X, Below ((w.alloc (.cells #[.int .i64 s, .slice ua ul uc] 24)).alloc (.cells #[.int .i64 t, .slice va vn vc] 24)).heap.size ((w.alloc (.cells #[.int .i64 s, .slice ua ul uc] 24)).alloc (.cells #[.int .i64 t, .slice va vn vc] 24)) X → (X.cell? ⟨w.heap.size, 0, none⟩ = some (.int .i64 s) ∧ X.cell? ⟨w.heap.size, 1, none⟩ = some (.slice ua ul uc)) ∧ (X.cell? ⟨w.heap.size + 1, 0, none⟩ = some (.int .i64 t) ∧ X.cell? ⟨w.heap.size + 1, 1, none⟩ = some (.slice va vn vc))) := fun X bX => by
    have k1 := (bX.block w.heap.size (by simp; omega)).trans (first_box w (.cells #[.int .i64 t, .slice va vn vc] 24) #[.int .i64 s, .slice ua ul uc] 24)
    have k2 := (bX.block (w.heap.size + 1) (by simp)).trans (second_box w (.cells #[.int .i64 s, .slice ua ul uc] 24) #[.int .i64 t, .slice va vn vc] 24)
    exact ⟨⟨by rw [cell_of_row _ _ _ _ _ _ k1]; rfl, by rw [cell_of_row _ _ _ _ _ _ k1]; rfl⟩, by rw [cell_of_row _ _ _ _ _ _ k2]; rfl, by rw [cell_of_row _ _ _ _ _ _ k2]; rfl⟩
  have HSZ : Hid (((w.alloc (.cells #[.int .i64 s, .slice ua ul uc] 24)).alloc (.cells #[.int .i64 t, .slice va vn vc] 24)).heap.size = w.heap.size + 1 + 1) := by show _ = _; simp
  have C0 := hadaFact_any ((w.alloc (.cells #[.int .i64 s, .slice ua ul uc] 24)).alloc (.cells #[.int .i64 t, .slice va vn vc] 24))
  have T1 : Hid (∀ W, Calls Tryd.prog 5 #[.int .i64 k] W fun e w' => (∃ y, e = .returned (.tuple #[.agg #[.int .i64 (n1 : Int), y], .int .i64 (z1 : Int)]) ∧ w'.ownsRow W.heap.size 3 1 y l1.length (vi l1)) ∧ Below W.heap.size W w') := S1
  have T2 : Hid (∀ W, Below ((w.alloc (.cells #[.int .i64 s, .slice ua ul uc] 24)).alloc (.cells #[.int .i64 t, .slice va vn vc] 24)).heap.size ((w.alloc (.cells #[.int .i64 s, .slice ua ul uc] 24)).alloc (.cells #[.int .i64 t, .slice va vn vc] 24)) W → Calls Tryd.prog 8 #[.int .i64 p] W fun e w' => (∃ y, e = .returned (.tuple #[.agg #[.int .i64 (n2 : Int), y], .int .i64 (z2 : Int)]) ∧ w'.ownsRow W.heap.size 3 1 y l2.length (vi l2)) ∧ Below W.heap.size W w') := fun W b => S2 W (hT.below (Below.next HB0.out b))
  have T3 : Hid (∀ W, Below ((w.alloc (.cells #[.int .i64 s, .slice ua ul uc] 24)).alloc (.cells #[.int .i64 t, .slice va vn vc] 24)).heap.size ((w.alloc (.cells #[.int .i64 s, .slice ua ul uc] 24)).alloc (.cells #[.int .i64 t, .slice va vn vc] 24)) W → Calls Tryd.prog 10 #[.agg #[.int .i64 s, .slice ua ul uc], .agg #[.int .i64 t, .slice va vn vc]] W fun e w' => (∃ y, e = .returned (.tuple #[.agg #[.int .i64 (n3 : Int), y], .int .i64 (z3 : Int)]) ∧ w'.ownsRow W.heap.size 3 1 y l3.length (vi l3)) ∧ Below W.heap.size W w') := fun W b => S3 _ _ W (hu.below (Below.next HB0.out b)) (hv.below (Below.next HB0.out b))
  have G2 := K2.1
  have hl2 : l2.length ≤ maxLen := by rw [G2.len]; have := Nat.mul_le_mul G2.le G2.le; unfold maxLen; omega
  have U2 : Hid (∀ y W, Sl W y l2 → Calls Tryd.prog 14 #[.agg #[.int .i64 (n2 : Int), y]] W fun e w' => e = .returned (.int .i64 0) ∧ Below W.heap.size W w') := fun y W hS => by
    have h := Check_any n2 l2 y W hS hl2
    rw [hF_good G2] at h
    exact h
  have G3 := K3.1
  have hl3 : l3.length ≤ maxLen := by rw [G3.len]; have := Nat.mul_le_mul G3.le G3.le; unfold maxLen; omega
  have U3 : Hid (∀ y W, Sl W y l3 → Calls Tryd.prog 14 #[.agg #[.int .i64 (n3 : Int), y]] W fun e w' => e = .returned (.int .i64 0) ∧ Below W.heap.size W w') := fun y W hS => by
    have h := Check_any n3 l3 y W hS hl3
    rw [hF_good G3] at h
    exact h
  obtain ⟨m2, rfl, hm2, hn2⟩ := K2.2
  have hpl : (m2 : Int) + 1 = (n2 : Int) := by rw [hn2]; simp
  have hn24 : n2 ≤ 99 := by omega
  have hnn2 : ((n2 : Int) != (n2 : Int)) = false := by simp
  clear hn2
  obtain ⟨a, b, rfl, rfl, Ga, Gb, hsm⟩ := K3.2
  have ba := smL_bd Ga
  have bb := smL_bd Gb
  have X1 : Hid (∀ W, Below ((w.alloc (.cells #[.int .i64 (a : Int), .slice ua ul uc] 24)).alloc (.cells #[.int .i64 (b : Int), .slice va vn vc] 24)).heap.size ((w.alloc (.cells #[.int .i64 (a : Int), .slice ua ul uc] 24)).alloc (.cells #[.int .i64 (b : Int), .slice va vn vc] 24)) W → Calls Tryd.prog 15 #[.agg #[.int .i64 (a : Int), .slice ua ul uc]] W fun e w' => e = .returned (.tuple #[.int .i64 (smL L), .int .i64 0]) ∧ Below W.heap.size W w') := fun W k => Excess_ok a L _ W (hu.below (Below.next HB0.out k)) Ga
  have X2 : Hid (∀ W, Below ((w.alloc (.cells #[.int .i64 (a : Int), .slice ua ul uc] 24)).alloc (.cells #[.int .i64 (b : Int), .slice va vn vc] 24)).heap.size ((w.alloc (.cells #[.int .i64 (a : Int), .slice ua ul uc] 24)).alloc (.cells #[.int .i64 (b : Int), .slice va vn vc] 24)) W → Calls Tryd.prog 15 #[.agg #[.int .i64 (b : Int), .slice va vn vc]] W fun e w' => e = .returned (.tuple #[.int .i64 (smL M), .int .i64 0]) ∧ Below W.heap.size W w') := fun W k => Excess_ok b M _ W (hv.below (Below.next HB0.out k)) Gb
  have X3 : Hid (∀ y W, Sl W y l3 → Calls Tryd.prog 15 #[.agg #[.int .i64 (n3 : Int), y]] W fun e w' => e = .returned (.tuple #[.int .i64 (smL l3), .int .i64 0]) ∧ Below W.heap.size W w') := fun y W hS => Excess_ok n3 l3 y W hS G3
  obtain ⟨xa, Hxa⟩ : ∃ x, Hid (smL L = x) := ⟨_, rfl⟩
  obtain ⟨xb, Hxb⟩ : ∃ x, Hid (smL M = x) := ⟨_, rfl⟩
  obtain ⟨xc, Hxc⟩ : ∃ x, Hid (smL l3 = x) := ⟨_, rfl⟩
  rw [Hxa.out] at X1 ba hsm
  rw [Hxb.out] at X2 bb hsm
  rw [Hxc.out] at X3 hsm
  have hxx : xa * xb = xc := hsm.symm
  have bc := smL_bd G3
  rw [Hxc.out] at bc
  obtain ⟨bc1, bc2⟩ := bc
  have hcc : (xc == xc) = true := by simp
  clear hsm Ga Gb ba bb
  have g1 : ((z1 : Int) == 0) = false := by simp [e1]
  have g1' : ((z1 : Int) != 0) = true := by simp [e1]
  have g2 : ((z2 : Int) == 0) = true := by simp [e2]
  have g2' : ((z2 : Int) != 0) = false := by simp [e2]
  have g3 : ((z3 : Int) == 0) = true := by simp [e3]
  have g3' : ((z3 : Int) != 0) = false := by simp [e3]
  clear e1 e2 e3 hu hv S1 S2 S3 hT K2 G2 hl2 K3 G3 hl3
  go_enter Tryd.func4, Tryd.ntmps4
  go_wp2_with (first
    | (go_at_call 13; refine C0.mono ?_; rintro e w1 ⟨rfl, j1⟩; clear C0; have D1 := T1.out w1; clear T1)
    | (go_at_call 5; refine D1.mono ?_; rintro e w2 ⟨⟨y1, rfl, hW1⟩, j2⟩; clear D1; obtain ⟨y1a, y1l, y1c, rfl⟩ := own_slice hW1; have hq := heap_alloc_new w2 (.cells #[.int .i64 (n1 : Int), .slice y1a y1l y1c] 24); have J2 := Below.next (Below.next j1 j2) (balloc w2 (.cells #[.int .i64 (n1 : Int), .slice y1a y1l y1c] 24)); have hw2 := (Below.next j1 j2).size; have D2 := T2.out _ J2; clear T2)
    | (go_at_call 8; refine D2.mono ?_; rintro e w4 ⟨⟨y2, rfl, hW2⟩, j4⟩; clear D2; obtain ⟨y2a, y2l, y2c, rfl⟩ := own_slice hW2; have hq4 := (j4.block w2.heap.size (by simp)).trans hq; have J4 := Below.next J2 j4; have q0 : w4.cell? ⟨w2.heap.size, 0, none⟩ = some (.int .i64 (n1 : Int)) := (by rw [cell_of_row _ _ _ _ _ _ hq4]; rfl); have q1 : w4.cell? ⟨w2.heap.size, 1, none⟩ = some (.slice y1a y1l y1c) := (by rw [cell_of_row _ _ _ _ _ _ hq4]; rfl); have f0 := frozen_of_row w4 w2.heap.size 0 _ _ hq4; have f1 := frozen_of_row w4 w2.heap.size 1 _ _ hq4; have s4n1 := heap_setCell_same w4 w2.heap.size 0 _ _ (.int .i64 (n2 : Int)) hq4; have s4h : ((w4.setCell ⟨w2.heap.size, 0, none⟩ (.int .i64 (n2 : Int))).setCell ⟨w2.heap.size, 1, none⟩ (.slice y2a y2l y2c)).heap[w2.heap.size]? = some (.cells #[.int .i64 (n2 : Int), .slice y2a y2l y2c] 24 (0, 0)) := heap_setCell_same _ w2.heap.size 1 _ _ (.slice y2a y2l y2c) s4n1; have s4J := (J4.setCell (p := ⟨w2.heap.size, 0, none⟩) (by show _ ≤ w2.heap.size; omega) (.int .i64 (n2 : Int))).setCell (p := ⟨w2.heap.size, 1, none⟩) (by show _ ≤ w2.heap.size; omega) (.slice y2a y2l y2c); have s4W := orow_other (orow_other hW2 ⟨w2.heap.size, 0, none⟩ (.int .i64 (n2 : Int)) (own_diff hW2 hq4)) ⟨w2.heap.size, 1, none⟩ (.slice y2a y2l y2c) (own_diff hW2 hq4); clear s4n1; have DU := U2.out _ _ (sl_of_own s4W); clear U2)
    | (go_at_call 14; refine DU.mono ?_; rintro e w5 ⟨rfl, j5⟩; clear DU q0 q1 f0 f1; have hq5 := (j5.block w2.heap.size (by have := (Array.getElem?_eq_some_iff.1 s4h).1; exact this)).trans s4h; have J5 := Below.next s4J j5; obtain ⟨⟨x0, x1⟩, y0, y1⟩ := HBX.out _ J5; have D3 := T3.out _ J5; clear T3; have q0 : w5.cell? ⟨w2.heap.size, 0, none⟩ = some (.int .i64 (n2 : Int)) := (by rw [cell_of_row _ _ _ _ _ _ hq5]; rfl); have q1 : w5.cell? ⟨w2.heap.size, 1, none⟩ = some (.slice y2a y2l y2c) := (by rw [cell_of_row _ _ _ _ _ _ hq5]; rfl))
    | (go_at_call 10; refine D3.mono ?_; rintro e w6 ⟨⟨y3, rfl, hW3⟩, j6⟩; clear D3 x0 x1 y0 y1 q0 q1; obtain ⟨y3a, y3l, y3c, rfl⟩ := own_slice hW3; have hq6 := (j6.block w2.heap.size (by have := (Array.getElem?_eq_some_iff.1 hq5).1; exact this)).trans hq5; have J6 := Below.next J5 j6; have q0 : w6.cell? ⟨w2.heap.size, 0, none⟩ = some (.int .i64 (n2 : Int)) := (by rw [cell_of_row _ _ _ _ _ _ hq6]; rfl); have q1 : w6.cell? ⟨w2.heap.size, 1, none⟩ = some (.slice y2a y2l y2c) := (by rw [cell_of_row _ _ _ _ _ _ hq6]; rfl); have f0 := frozen_of_row w6 w2.heap.size 0 _ _ hq6; have f1 := frozen_of_row w6 w2.heap.size 1 _ _ hq6; have s6n1 := heap_setCell_same w6 w2.heap.size 0 _ _ (.int .i64 (n3 : Int)) hq6; have s6h : ((w6.setCell ⟨w2.heap.size, 0, none⟩ (.int .i64 (n3 : Int))).setCell ⟨w2.heap.size, 1, none⟩ (.slice y3a y3l y3c)).heap[w2.heap.size]? = some (.cells #[.int .i64 (n3 : Int), .slice y3a y3l y3c] 24 (0, 0)) := heap_setCell_same _ w2.heap.size 1 _ _ (.slice y3a y3l y3c) s6n1; have s6J := (J6.setCell (p := ⟨w2.heap.size, 0, none⟩) (by show _ ≤ w2.heap.size; omega) (.int .i64 (n3 : Int))).setCell (p := ⟨w2.heap.size, 1, none⟩) (by show _ ≤ w2.heap.size; omega) (.slice y3a y3l y3c); have s6W := orow_other (orow_other hW3 ⟨w2.heap.size, 0, none⟩ (.int .i64 (n3 : Int)) (own_diff hW3 hq6)) ⟨w2.heap.size, 1, none⟩ (.slice y3a y3l y3c) (own_diff hW3 hq6); clear s6n1; have DU := U3.out _ _ (sl_of_own s6W); clear U3)
    | (go_at_call 14; refine DU.mono ?_; rintro e w7 ⟨rfl, j7⟩; clear DU q0 q1 f0 f1; have J7 := Below.next s6J j7; obtain ⟨⟨x0, x1⟩, y0, y1⟩ := HBX.out _ J7; have DX := X1.out _ J7; clear X1)
    | (go_at_call 15; refine DX.mono ?_; rintro e w8 ⟨rfl, j8⟩; clear DX x0 x1 y0 y1; have J8 := Below.next J7 j8; obtain ⟨⟨x0, x1⟩, y0, y1⟩ := HBX.out _ J8; have DY := X2.out _ J8; clear X2)
    | (go_at_call 15; refine DY.mono ?_; rintro e w9 ⟨rfl, j9⟩; clear DY x0 x1 y0 y1; have J9 := Below.next J8 j9; have j79 := Below.next (Below.next j7 j8) j9; have hq9 := (j79.block w2.heap.size (by have := (Array.getElem?_eq_some_iff.1 s6h).1; exact this)).trans s6h; have q0 : w9.cell? ⟨w2.heap.size, 0, none⟩ = some (.int .i64 (n3 : Int)) := (by rw [cell_of_row _ _ _ _ _ _ hq9]; rfl); have q1 : w9.cell? ⟨w2.heap.size, 1, none⟩ = some (.slice y3a y3l y3c) := (by rw [cell_of_row _ _ _ _ _ _ hq9]; rfl); have DZ := X3.out _ _ ((sl_of_own s6W).below j79); clear X3)
    | (go_at_call 15; refine DZ.mono ?_; rintro e w10 ⟨rfl, j10⟩; clear DZ q0 q1))
  go_ret
  exact ⟨rfl, Below.next HB0.out (Below.next J9 j10)⟩
set_option maxRecDepth 100000 in
set_option maxHeartbeats 8000000 in
theorem Md_eoe (k p s t : Int) (L M : List Int) (u v : Value) (w : World) (n1 z1 n2 z2 n3 z3 : Nat) (l1 l2 l3 : List Int) (hT : Fd.Tab w) (hu : Sl w u L) (hv : Sl w v M)
    (S1 : ∀ W, Mk 5 #[.int .i64 k] n1 z1 l1 W) (S2 : ∀ W, Fd.Tab W → Mk 8 #[.int .i64 p] n2 z2 l2 W) (S3 : ∀ u v W, Sl W u L → Sl W v M → Mk 10 #[.agg #[.int .i64 s, u], .agg #[.int .i64 t, v]] n3 z3 l3 W)
    (e1 : z1 ≠ 0) (e2 : z2 = 0) (K2 : GoodH n2 l2 ∧ ∃ m : Nat, p = m ∧ m ≤ 23 ∧ n2 = m + 1) (e3 : z3 ≠ 0) :
    Calls Tryd.prog 4 #[.int .i64 k, .int .i64 p, .agg #[.int .i64 s, u], .agg #[.int .i64 t, v]] w fun e w' => e = .returned (.bool true) ∧ Below w.heap.size w w' := by
  obtain ⟨ua, ul, uc, rfl⟩ : ∃ a l c, u = .slice a l c := by obtain ⟨a, c, e, _⟩ := hu; exact ⟨a, _, c, e⟩
  obtain ⟨va, vn, vc, rfl⟩ : ∃ a l c, v = .slice a l c := by obtain ⟨a, c, e, _⟩ := hv; exact ⟨a, _, c, e⟩
  have HB0 : Hid (Below w.heap.size w ((w.alloc (.cells #[.int .i64 s, .slice ua ul uc] 24)).alloc (.cells #[.int .i64 t, .slice va vn vc] 24))) := Below.next (balloc _ _) (balloc _ _)
  have HBX : Hid (∀ X, Below ((w.alloc (.cells #[.int .i64 s, .slice ua ul uc] 24)).alloc (.cells #[.int .i64 t, .slice va vn vc] 24)).heap.size ((w.alloc (.cells #[.int .i64 s, .slice ua ul uc] 24)).alloc (.cells #[.int .i64 t, .slice va vn vc] 24)) X → (X.cell? ⟨w.heap.size, 0, none⟩ = some (.int .i64 s) ∧ X.cell? ⟨w.heap.size, 1, none⟩ = some (.slice ua ul uc)) ∧ (X.cell? ⟨w.heap.size + 1, 0, none⟩ = some (.int .i64 t) ∧ X.cell? ⟨w.heap.size + 1, 1, none⟩ = some (.slice va vn vc))) := fun X bX => by
    have k1 := (bX.block w.heap.size (by simp; omega)).trans (first_box w (.cells #[.int .i64 t, .slice va vn vc] 24) #[.int .i64 s, .slice ua ul uc] 24)
    have k2 := (bX.block (w.heap.size + 1) (by simp)).trans (second_box w (.cells #[.int .i64 s, .slice ua ul uc] 24) #[.int .i64 t, .slice va vn vc] 24)
    exact ⟨⟨by rw [cell_of_row _ _ _ _ _ _ k1]; rfl, by rw [cell_of_row _ _ _ _ _ _ k1]; rfl⟩, by rw [cell_of_row _ _ _ _ _ _ k2]; rfl, by rw [cell_of_row _ _ _ _ _ _ k2]; rfl⟩
  have HSZ : Hid (((w.alloc (.cells #[.int .i64 s, .slice ua ul uc] 24)).alloc (.cells #[.int .i64 t, .slice va vn vc] 24)).heap.size = w.heap.size + 1 + 1) := by show _ = _; simp
  have C0 := hadaFact_any ((w.alloc (.cells #[.int .i64 s, .slice ua ul uc] 24)).alloc (.cells #[.int .i64 t, .slice va vn vc] 24))
  have T1 : Hid (∀ W, Calls Tryd.prog 5 #[.int .i64 k] W fun e w' => (∃ y, e = .returned (.tuple #[.agg #[.int .i64 (n1 : Int), y], .int .i64 (z1 : Int)]) ∧ w'.ownsRow W.heap.size 3 1 y l1.length (vi l1)) ∧ Below W.heap.size W w') := S1
  have T2 : Hid (∀ W, Below ((w.alloc (.cells #[.int .i64 s, .slice ua ul uc] 24)).alloc (.cells #[.int .i64 t, .slice va vn vc] 24)).heap.size ((w.alloc (.cells #[.int .i64 s, .slice ua ul uc] 24)).alloc (.cells #[.int .i64 t, .slice va vn vc] 24)) W → Calls Tryd.prog 8 #[.int .i64 p] W fun e w' => (∃ y, e = .returned (.tuple #[.agg #[.int .i64 (n2 : Int), y], .int .i64 (z2 : Int)]) ∧ w'.ownsRow W.heap.size 3 1 y l2.length (vi l2)) ∧ Below W.heap.size W w') := fun W b => S2 W (hT.below (Below.next HB0.out b))
  have T3 : Hid (∀ W, Below ((w.alloc (.cells #[.int .i64 s, .slice ua ul uc] 24)).alloc (.cells #[.int .i64 t, .slice va vn vc] 24)).heap.size ((w.alloc (.cells #[.int .i64 s, .slice ua ul uc] 24)).alloc (.cells #[.int .i64 t, .slice va vn vc] 24)) W → Calls Tryd.prog 10 #[.agg #[.int .i64 s, .slice ua ul uc], .agg #[.int .i64 t, .slice va vn vc]] W fun e w' => (∃ y, e = .returned (.tuple #[.agg #[.int .i64 (n3 : Int), y], .int .i64 (z3 : Int)]) ∧ w'.ownsRow W.heap.size 3 1 y l3.length (vi l3)) ∧ Below W.heap.size W w') := fun W b => S3 _ _ W (hu.below (Below.next HB0.out b)) (hv.below (Below.next HB0.out b))
  have G2 := K2.1
  have hl2 : l2.length ≤ maxLen := by rw [G2.len]; have := Nat.mul_le_mul G2.le G2.le; unfold maxLen; omega
  have U2 : Hid (∀ y W, Sl W y l2 → Calls Tryd.prog 14 #[.agg #[.int .i64 (n2 : Int), y]] W fun e w' => e = .returned (.int .i64 0) ∧ Below W.heap.size W w') := fun y W hS => by
    have h := Check_any n2 l2 y W hS hl2
    rw [hF_good G2] at h
    exact h
  obtain ⟨m2, rfl, hm2, hn2⟩ := K2.2
  have hpl : (m2 : Int) + 1 = (n2 : Int) := by rw [hn2]; simp
  have hn24 : n2 ≤ 99 := by omega
  have hnn2 : ((n2 : Int) != (n2 : Int)) = false := by simp
  clear hn2
  have g1 : ((z1 : Int) == 0) = false := by simp [e1]
  have g1' : ((z1 : Int) != 0) = true := by simp [e1]
  have g2 : ((z2 : Int) == 0) = true := by simp [e2]
  have g2' : ((z2 : Int) != 0) = false := by simp [e2]
  have g3 : ((z3 : Int) == 0) = false := by simp [e3]
  have g3' : ((z3 : Int) != 0) = true := by simp [e3]
  clear e1 e2 e3 hu hv S1 S2 S3 hT K2 G2 hl2
  go_enter Tryd.func4, Tryd.ntmps4
  go_wp2_with (first
    | (go_at_call 13; refine C0.mono ?_; rintro e w1 ⟨rfl, j1⟩; clear C0; have D1 := T1.out w1; clear T1)
    | (go_at_call 5; refine D1.mono ?_; rintro e w2 ⟨⟨y1, rfl, hW1⟩, j2⟩; clear D1; obtain ⟨y1a, y1l, y1c, rfl⟩ := own_slice hW1; have hq := heap_alloc_new w2 (.cells #[.int .i64 (n1 : Int), .slice y1a y1l y1c] 24); have J2 := Below.next (Below.next j1 j2) (balloc w2 (.cells #[.int .i64 (n1 : Int), .slice y1a y1l y1c] 24)); have hw2 := (Below.next j1 j2).size; have D2 := T2.out _ J2; clear T2)
    | (go_at_call 8; refine D2.mono ?_; rintro e w4 ⟨⟨y2, rfl, hW2⟩, j4⟩; clear D2; obtain ⟨y2a, y2l, y2c, rfl⟩ := own_slice hW2; have hq4 := (j4.block w2.heap.size (by simp)).trans hq; have J4 := Below.next J2 j4; have q0 : w4.cell? ⟨w2.heap.size, 0, none⟩ = some (.int .i64 (n1 : Int)) := (by rw [cell_of_row _ _ _ _ _ _ hq4]; rfl); have q1 : w4.cell? ⟨w2.heap.size, 1, none⟩ = some (.slice y1a y1l y1c) := (by rw [cell_of_row _ _ _ _ _ _ hq4]; rfl); have f0 := frozen_of_row w4 w2.heap.size 0 _ _ hq4; have f1 := frozen_of_row w4 w2.heap.size 1 _ _ hq4; have s4n1 := heap_setCell_same w4 w2.heap.size 0 _ _ (.int .i64 (n2 : Int)) hq4; have s4h : ((w4.setCell ⟨w2.heap.size, 0, none⟩ (.int .i64 (n2 : Int))).setCell ⟨w2.heap.size, 1, none⟩ (.slice y2a y2l y2c)).heap[w2.heap.size]? = some (.cells #[.int .i64 (n2 : Int), .slice y2a y2l y2c] 24 (0, 0)) := heap_setCell_same _ w2.heap.size 1 _ _ (.slice y2a y2l y2c) s4n1; have s4J := (J4.setCell (p := ⟨w2.heap.size, 0, none⟩) (by show _ ≤ w2.heap.size; omega) (.int .i64 (n2 : Int))).setCell (p := ⟨w2.heap.size, 1, none⟩) (by show _ ≤ w2.heap.size; omega) (.slice y2a y2l y2c); have s4W := orow_other (orow_other hW2 ⟨w2.heap.size, 0, none⟩ (.int .i64 (n2 : Int)) (own_diff hW2 hq4)) ⟨w2.heap.size, 1, none⟩ (.slice y2a y2l y2c) (own_diff hW2 hq4); clear s4n1; have DU := U2.out _ _ (sl_of_own s4W); clear U2)
    | (go_at_call 14; refine DU.mono ?_; rintro e w5 ⟨rfl, j5⟩; clear DU q0 q1 f0 f1; have hq5 := (j5.block w2.heap.size (by have := (Array.getElem?_eq_some_iff.1 s4h).1; exact this)).trans s4h; have J5 := Below.next s4J j5; obtain ⟨⟨x0, x1⟩, y0, y1⟩ := HBX.out _ J5; have D3 := T3.out _ J5; clear T3; have q0 : w5.cell? ⟨w2.heap.size, 0, none⟩ = some (.int .i64 (n2 : Int)) := (by rw [cell_of_row _ _ _ _ _ _ hq5]; rfl); have q1 : w5.cell? ⟨w2.heap.size, 1, none⟩ = some (.slice y2a y2l y2c) := (by rw [cell_of_row _ _ _ _ _ _ hq5]; rfl))
    | (go_at_call 10; refine D3.mono ?_; rintro e w6 ⟨⟨y3, rfl, hW3⟩, j6⟩; clear D3 x0 x1 y0 y1 q0 q1; obtain ⟨y3a, y3l, y3c, rfl⟩ := own_slice hW3; have hq6 := (j6.block w2.heap.size (by have := (Array.getElem?_eq_some_iff.1 hq5).1; exact this)).trans hq5; have J6 := Below.next J5 j6; have q0 : w6.cell? ⟨w2.heap.size, 0, none⟩ = some (.int .i64 (n2 : Int)) := (by rw [cell_of_row _ _ _ _ _ _ hq6]; rfl); have q1 : w6.cell? ⟨w2.heap.size, 1, none⟩ = some (.slice y2a y2l y2c) := (by rw [cell_of_row _ _ _ _ _ _ hq6]; rfl); have f0 := frozen_of_row w6 w2.heap.size 0 _ _ hq6; have f1 := frozen_of_row w6 w2.heap.size 1 _ _ hq6; have s6n1 := heap_setCell_same w6 w2.heap.size 0 _ _ (.int .i64 (n3 : Int)) hq6; have s6h : ((w6.setCell ⟨w2.heap.size, 0, none⟩ (.int .i64 (n3 : Int))).setCell ⟨w2.heap.size, 1, none⟩ (.slice y3a y3l y3c)).heap[w2.heap.size]? = some (.cells #[.int .i64 (n3 : Int), .slice y3a y3l y3c] 24 (0, 0)) := heap_setCell_same _ w2.heap.size 1 _ _ (.slice y3a y3l y3c) s6n1; have s6J := (J6.setCell (p := ⟨w2.heap.size, 0, none⟩) (by show _ ≤ w2.heap.size; omega) (.int .i64 (n3 : Int))).setCell (p := ⟨w2.heap.size, 1, none⟩) (by show _ ≤ w2.heap.size; omega) (.slice y3a y3l y3c); have s6W := orow_other (orow_other hW3 ⟨w2.heap.size, 0, none⟩ (.int .i64 (n3 : Int)) (own_diff hW3 hq6)) ⟨w2.heap.size, 1, none⟩ (.slice y3a y3l y3c) (own_diff hW3 hq6); clear s6n1))
  go_ret
  exact ⟨rfl, Below.next HB0.out (s6J)⟩
set_option maxRecDepth 100000 in
set_option maxHeartbeats 8000000 in
theorem Md_eeo (k p s t : Int) (L M : List Int) (u v : Value) (w : World) (n1 z1 n2 z2 n3 z3 : Nat) (l1 l2 l3 : List Int) (hT : Fd.Tab w) (hu : Sl w u L) (hv : Sl w v M)
    (S1 : ∀ W, Mk 5 #[.int .i64 k] n1 z1 l1 W) (S2 : ∀ W, Fd.Tab W → Mk 8 #[.int .i64 p] n2 z2 l2 W) (S3 : ∀ u v W, Sl W u L → Sl W v M → Mk 10 #[.agg #[.int .i64 s, u], .agg #[.int .i64 t, v]] n3 z3 l3 W)
    (e1 : z1 ≠ 0) (e2 : z2 ≠ 0) (e3 : z3 = 0) (K3 : GoodH n3 l3 ∧ ∃ a b : Nat, s = a ∧ t = b ∧ GoodH a L ∧ GoodH b M ∧ smL l3 = smL L * smL M) :
    Calls Tryd.prog 4 #[.int .i64 k, .int .i64 p, .agg #[.int .i64 s, u], .agg #[.int .i64 t, v]] w fun e w' => e = .returned (.bool true) ∧ Below w.heap.size w w' := by
  obtain ⟨ua, ul, uc, rfl⟩ : ∃ a l c, u = .slice a l c := by obtain ⟨a, c, e, _⟩ := hu; exact ⟨a, _, c, e⟩
  obtain ⟨va, vn, vc, rfl⟩ : ∃ a l c, v = .slice a l c := by obtain ⟨a, c, e, _⟩ := hv; exact ⟨a, _, c, e⟩
  have HB0 : Hid (Below w.heap.size w ((w.alloc (.cells #[.int .i64 s, .slice ua ul uc] 24)).alloc (.cells #[.int .i64 t, .slice va vn vc] 24))) := Below.next (balloc _ _) (balloc _ _)
  have HBX : Hid (∀ X, Below ((w.alloc (.cells #[.int .i64 s, .slice ua ul uc] 24)).alloc (.cells #[.int .i64 t, .slice va vn vc] 24)).heap.size ((w.alloc (.cells #[.int .i64 s, .slice ua ul uc] 24)).alloc (.cells #[.int .i64 t, .slice va vn vc] 24)) X → (X.cell? ⟨w.heap.size, 0, none⟩ = some (.int .i64 s) ∧ X.cell? ⟨w.heap.size, 1, none⟩ = some (.slice ua ul uc)) ∧ (X.cell? ⟨w.heap.size + 1, 0, none⟩ = some (.int .i64 t) ∧ X.cell? ⟨w.heap.size + 1, 1, none⟩ = some (.slice va vn vc))) := fun X bX => by
    have k1 := (bX.block w.heap.size (by simp; omega)).trans (first_box w (.cells #[.int .i64 t, .slice va vn vc] 24) #[.int .i64 s, .slice ua ul uc] 24)
    have k2 := (bX.block (w.heap.size + 1) (by simp)).trans (second_box w (.cells #[.int .i64 s, .slice ua ul uc] 24) #[.int .i64 t, .slice va vn vc] 24)
    exact ⟨⟨by rw [cell_of_row _ _ _ _ _ _ k1]; rfl, by rw [cell_of_row _ _ _ _ _ _ k1]; rfl⟩, by rw [cell_of_row _ _ _ _ _ _ k2]; rfl, by rw [cell_of_row _ _ _ _ _ _ k2]; rfl⟩
  have HSZ : Hid (((w.alloc (.cells #[.int .i64 s, .slice ua ul uc] 24)).alloc (.cells #[.int .i64 t, .slice va vn vc] 24)).heap.size = w.heap.size + 1 + 1) := by show _ = _; simp
  have C0 := hadaFact_any ((w.alloc (.cells #[.int .i64 s, .slice ua ul uc] 24)).alloc (.cells #[.int .i64 t, .slice va vn vc] 24))
  have T1 : Hid (∀ W, Calls Tryd.prog 5 #[.int .i64 k] W fun e w' => (∃ y, e = .returned (.tuple #[.agg #[.int .i64 (n1 : Int), y], .int .i64 (z1 : Int)]) ∧ w'.ownsRow W.heap.size 3 1 y l1.length (vi l1)) ∧ Below W.heap.size W w') := S1
  have T2 : Hid (∀ W, Below ((w.alloc (.cells #[.int .i64 s, .slice ua ul uc] 24)).alloc (.cells #[.int .i64 t, .slice va vn vc] 24)).heap.size ((w.alloc (.cells #[.int .i64 s, .slice ua ul uc] 24)).alloc (.cells #[.int .i64 t, .slice va vn vc] 24)) W → Calls Tryd.prog 8 #[.int .i64 p] W fun e w' => (∃ y, e = .returned (.tuple #[.agg #[.int .i64 (n2 : Int), y], .int .i64 (z2 : Int)]) ∧ w'.ownsRow W.heap.size 3 1 y l2.length (vi l2)) ∧ Below W.heap.size W w') := fun W b => S2 W (hT.below (Below.next HB0.out b))
  have T3 : Hid (∀ W, Below ((w.alloc (.cells #[.int .i64 s, .slice ua ul uc] 24)).alloc (.cells #[.int .i64 t, .slice va vn vc] 24)).heap.size ((w.alloc (.cells #[.int .i64 s, .slice ua ul uc] 24)).alloc (.cells #[.int .i64 t, .slice va vn vc] 24)) W → Calls Tryd.prog 10 #[.agg #[.int .i64 s, .slice ua ul uc], .agg #[.int .i64 t, .slice va vn vc]] W fun e w' => (∃ y, e = .returned (.tuple #[.agg #[.int .i64 (n3 : Int), y], .int .i64 (z3 : Int)]) ∧ w'.ownsRow W.heap.size 3 1 y l3.length (vi l3)) ∧ Below W.heap.size W w') := fun W b => S3 _ _ W (hu.below (Below.next HB0.out b)) (hv.below (Below.next HB0.out b))
  have G3 := K3.1
  have hl3 : l3.length ≤ maxLen := by rw [G3.len]; have := Nat.mul_le_mul G3.le G3.le; unfold maxLen; omega
  have U3 : Hid (∀ y W, Sl W y l3 → Calls Tryd.prog 14 #[.agg #[.int .i64 (n3 : Int), y]] W fun e w' => e = .returned (.int .i64 0) ∧ Below W.heap.size W w') := fun y W hS => by
    have h := Check_any n3 l3 y W hS hl3
    rw [hF_good G3] at h
    exact h
  obtain ⟨a, b, rfl, rfl, Ga, Gb, hsm⟩ := K3.2
  have ba := smL_bd Ga
  have bb := smL_bd Gb
  have X1 : Hid (∀ W, Below ((w.alloc (.cells #[.int .i64 (a : Int), .slice ua ul uc] 24)).alloc (.cells #[.int .i64 (b : Int), .slice va vn vc] 24)).heap.size ((w.alloc (.cells #[.int .i64 (a : Int), .slice ua ul uc] 24)).alloc (.cells #[.int .i64 (b : Int), .slice va vn vc] 24)) W → Calls Tryd.prog 15 #[.agg #[.int .i64 (a : Int), .slice ua ul uc]] W fun e w' => e = .returned (.tuple #[.int .i64 (smL L), .int .i64 0]) ∧ Below W.heap.size W w') := fun W k => Excess_ok a L _ W (hu.below (Below.next HB0.out k)) Ga
  have X2 : Hid (∀ W, Below ((w.alloc (.cells #[.int .i64 (a : Int), .slice ua ul uc] 24)).alloc (.cells #[.int .i64 (b : Int), .slice va vn vc] 24)).heap.size ((w.alloc (.cells #[.int .i64 (a : Int), .slice ua ul uc] 24)).alloc (.cells #[.int .i64 (b : Int), .slice va vn vc] 24)) W → Calls Tryd.prog 15 #[.agg #[.int .i64 (b : Int), .slice va vn vc]] W fun e w' => e = .returned (.tuple #[.int .i64 (smL M), .int .i64 0]) ∧ Below W.heap.size W w') := fun W k => Excess_ok b M _ W (hv.below (Below.next HB0.out k)) Gb
  have X3 : Hid (∀ y W, Sl W y l3 → Calls Tryd.prog 15 #[.agg #[.int .i64 (n3 : Int), y]] W fun e w' => e = .returned (.tuple #[.int .i64 (smL l3), .int .i64 0]) ∧ Below W.heap.size W w') := fun y W hS => Excess_ok n3 l3 y W hS G3
  obtain ⟨xa, Hxa⟩ : ∃ x, Hid (smL L = x) := ⟨_, rfl⟩
  obtain ⟨xb, Hxb⟩ : ∃ x, Hid (smL M = x) := ⟨_, rfl⟩
  obtain ⟨xc, Hxc⟩ : ∃ x, Hid (smL l3 = x) := ⟨_, rfl⟩
  rw [Hxa.out] at X1 ba hsm
  rw [Hxb.out] at X2 bb hsm
  rw [Hxc.out] at X3 hsm
  have hxx : xa * xb = xc := hsm.symm
  have bc := smL_bd G3
  rw [Hxc.out] at bc
  obtain ⟨bc1, bc2⟩ := bc
  have hcc : (xc == xc) = true := by simp
  clear hsm Ga Gb ba bb
  have g1 : ((z1 : Int) == 0) = false := by simp [e1]
  have g1' : ((z1 : Int) != 0) = true := by simp [e1]
  have g2 : ((z2 : Int) == 0) = false := by simp [e2]
  have g2' : ((z2 : Int) != 0) = true := by simp [e2]
  have g3 : ((z3 : Int) == 0) = true := by simp [e3]
  have g3' : ((z3 : Int) != 0) = false := by simp [e3]
  clear e1 e2 e3 hu hv S1 S2 S3 hT K3 G3 hl3
  go_enter Tryd.func4, Tryd.ntmps4
  go_wp2_with (first
    | (go_at_call 13; refine C0.mono ?_; rintro e w1 ⟨rfl, j1⟩; clear C0; have D1 := T1.out w1; clear T1)
    | (go_at_call 5; refine D1.mono ?_; rintro e w2 ⟨⟨y1, rfl, hW1⟩, j2⟩; clear D1; obtain ⟨y1a, y1l, y1c, rfl⟩ := own_slice hW1; have hq := heap_alloc_new w2 (.cells #[.int .i64 (n1 : Int), .slice y1a y1l y1c] 24); have J2 := Below.next (Below.next j1 j2) (balloc w2 (.cells #[.int .i64 (n1 : Int), .slice y1a y1l y1c] 24)); have hw2 := (Below.next j1 j2).size; have D2 := T2.out _ J2; clear T2)
    | (go_at_call 8; refine D2.mono ?_; rintro e w4 ⟨⟨y2, rfl, hW2⟩, j4⟩; clear D2; obtain ⟨y2a, y2l, y2c, rfl⟩ := own_slice hW2; have hq4 := (j4.block w2.heap.size (by simp)).trans hq; have J4 := Below.next J2 j4; have q0 : w4.cell? ⟨w2.heap.size, 0, none⟩ = some (.int .i64 (n1 : Int)) := (by rw [cell_of_row _ _ _ _ _ _ hq4]; rfl); have q1 : w4.cell? ⟨w2.heap.size, 1, none⟩ = some (.slice y1a y1l y1c) := (by rw [cell_of_row _ _ _ _ _ _ hq4]; rfl); have f0 := frozen_of_row w4 w2.heap.size 0 _ _ hq4; have f1 := frozen_of_row w4 w2.heap.size 1 _ _ hq4; have s4n1 := heap_setCell_same w4 w2.heap.size 0 _ _ (.int .i64 (n2 : Int)) hq4; have s4h : ((w4.setCell ⟨w2.heap.size, 0, none⟩ (.int .i64 (n2 : Int))).setCell ⟨w2.heap.size, 1, none⟩ (.slice y2a y2l y2c)).heap[w2.heap.size]? = some (.cells #[.int .i64 (n2 : Int), .slice y2a y2l y2c] 24 (0, 0)) := heap_setCell_same _ w2.heap.size 1 _ _ (.slice y2a y2l y2c) s4n1; have s4J := (J4.setCell (p := ⟨w2.heap.size, 0, none⟩) (by show _ ≤ w2.heap.size; omega) (.int .i64 (n2 : Int))).setCell (p := ⟨w2.heap.size, 1, none⟩) (by show _ ≤ w2.heap.size; omega) (.slice y2a y2l y2c); have s4W := orow_other (orow_other hW2 ⟨w2.heap.size, 0, none⟩ (.int .i64 (n2 : Int)) (own_diff hW2 hq4)) ⟨w2.heap.size, 1, none⟩ (.slice y2a y2l y2c) (own_diff hW2 hq4); clear s4n1; obtain ⟨⟨x0, x1⟩, y0, y1⟩ := HBX.out _ s4J; have D3 := T3.out _ s4J; clear T3)
    | (go_at_call 10; refine D3.mono ?_; rintro e w6 ⟨⟨y3, rfl, hW3⟩, j6⟩; clear D3 x0 x1 y0 y1 q0 q1 f0 f1; obtain ⟨y3a, y3l, y3c, rfl⟩ := own_slice hW3; have hq6 := (j6.block w2.heap.size (by have := (Array.getElem?_eq_some_iff.1 s4h).1; exact this)).trans s4h; have J6 := Below.next s4J j6; have q0 : w6.cell? ⟨w2.heap.size, 0, none⟩ = some (.int .i64 (n2 : Int)) := (by rw [cell_of_row _ _ _ _ _ _ hq6]; rfl); have q1 : w6.cell? ⟨w2.heap.size, 1, none⟩ = some (.slice y2a y2l y2c) := (by rw [cell_of_row _ _ _ _ _ _ hq6]; rfl); have f0 := frozen_of_row w6 w2.heap.size 0 _ _ hq6; have f1 := frozen_of_row w6 w2.heap.size 1 _ _ hq6; have s6n1 := heap_setCell_same w6 w2.heap.size 0 _ _ (.int .i64 (n3 : Int)) hq6; have s6h : ((w6.setCell ⟨w2.heap.size, 0, none⟩ (.int .i64 (n3 : Int))).setCell ⟨w2.heap.size, 1, none⟩ (.slice y3a y3l y3c)).heap[w2.heap.size]? = some (.cells #[.int .i64 (n3 : Int), .slice y3a y3l y3c] 24 (0, 0)) := heap_setCell_same _ w2.heap.size 1 _ _ (.slice y3a y3l y3c) s6n1; have s6J := (J6.setCell (p := ⟨w2.heap.size, 0, none⟩) (by show _ ≤ w2.heap.size; omega) (.int .i64 (n3 : Int))).setCell (p := ⟨w2.heap.size, 1, none⟩) (by show _ ≤ w2.heap.size; omega) (.slice y3a y3l y3c); have s6W := orow_other (orow_other hW3 ⟨w2.heap.size, 0, none⟩ (.int .i64 (n3 : Int)) (own_diff hW3 hq6)) ⟨w2.heap.size, 1, none⟩ (.slice y3a y3l y3c) (own_diff hW3 hq6); clear s6n1; have DU := U3.out _ _ (sl_of_own s6W); clear U3)
    | (go_at_call 14; refine DU.mono ?_; rintro e w7 ⟨rfl, j7⟩; clear DU q0 q1 f0 f1; have J7 := Below.next s6J j7; obtain ⟨⟨x0, x1⟩, y0, y1⟩ := HBX.out _ J7; have DX := X1.out _ J7; clear X1)
    | (go_at_call 15; refine DX.mono ?_; rintro e w8 ⟨rfl, j8⟩; clear DX x0 x1 y0 y1; have J8 := Below.next J7 j8; obtain ⟨⟨x0, x1⟩, y0, y1⟩ := HBX.out _ J8; have DY := X2.out _ J8; clear X2)
    | (go_at_call 15; refine DY.mono ?_; rintro e w9 ⟨rfl, j9⟩; clear DY x0 x1 y0 y1; have J9 := Below.next J8 j9; have j79 := Below.next (Below.next j7 j8) j9; have hq9 := (j79.block w2.heap.size (by have := (Array.getElem?_eq_some_iff.1 s6h).1; exact this)).trans s6h; have q0 : w9.cell? ⟨w2.heap.size, 0, none⟩ = some (.int .i64 (n3 : Int)) := (by rw [cell_of_row _ _ _ _ _ _ hq9]; rfl); have q1 : w9.cell? ⟨w2.heap.size, 1, none⟩ = some (.slice y3a y3l y3c) := (by rw [cell_of_row _ _ _ _ _ _ hq9]; rfl); have DZ := X3.out _ _ ((sl_of_own s6W).below j79); clear X3)
    | (go_at_call 15; refine DZ.mono ?_; rintro e w10 ⟨rfl, j10⟩; clear DZ q0 q1))
  go_ret
  exact ⟨rfl, Below.next HB0.out (Below.next J9 j10)⟩
set_option maxRecDepth 100000 in
set_option maxHeartbeats 8000000 in
theorem Md_eee (k p s t : Int) (L M : List Int) (u v : Value) (w : World) (n1 z1 n2 z2 n3 z3 : Nat) (l1 l2 l3 : List Int) (hT : Fd.Tab w) (hu : Sl w u L) (hv : Sl w v M)
    (S1 : ∀ W, Mk 5 #[.int .i64 k] n1 z1 l1 W) (S2 : ∀ W, Fd.Tab W → Mk 8 #[.int .i64 p] n2 z2 l2 W) (S3 : ∀ u v W, Sl W u L → Sl W v M → Mk 10 #[.agg #[.int .i64 s, u], .agg #[.int .i64 t, v]] n3 z3 l3 W)
    (e1 : z1 ≠ 0) (e2 : z2 ≠ 0) (e3 : z3 ≠ 0) :
    Calls Tryd.prog 4 #[.int .i64 k, .int .i64 p, .agg #[.int .i64 s, u], .agg #[.int .i64 t, v]] w fun e w' => e = .returned (.bool true) ∧ Below w.heap.size w w' := by
  obtain ⟨ua, ul, uc, rfl⟩ : ∃ a l c, u = .slice a l c := by obtain ⟨a, c, e, _⟩ := hu; exact ⟨a, _, c, e⟩
  obtain ⟨va, vn, vc, rfl⟩ : ∃ a l c, v = .slice a l c := by obtain ⟨a, c, e, _⟩ := hv; exact ⟨a, _, c, e⟩
  have HB0 : Hid (Below w.heap.size w ((w.alloc (.cells #[.int .i64 s, .slice ua ul uc] 24)).alloc (.cells #[.int .i64 t, .slice va vn vc] 24))) := Below.next (balloc _ _) (balloc _ _)
  have HBX : Hid (∀ X, Below ((w.alloc (.cells #[.int .i64 s, .slice ua ul uc] 24)).alloc (.cells #[.int .i64 t, .slice va vn vc] 24)).heap.size ((w.alloc (.cells #[.int .i64 s, .slice ua ul uc] 24)).alloc (.cells #[.int .i64 t, .slice va vn vc] 24)) X → (X.cell? ⟨w.heap.size, 0, none⟩ = some (.int .i64 s) ∧ X.cell? ⟨w.heap.size, 1, none⟩ = some (.slice ua ul uc)) ∧ (X.cell? ⟨w.heap.size + 1, 0, none⟩ = some (.int .i64 t) ∧ X.cell? ⟨w.heap.size + 1, 1, none⟩ = some (.slice va vn vc))) := fun X bX => by
    have k1 := (bX.block w.heap.size (by simp; omega)).trans (first_box w (.cells #[.int .i64 t, .slice va vn vc] 24) #[.int .i64 s, .slice ua ul uc] 24)
    have k2 := (bX.block (w.heap.size + 1) (by simp)).trans (second_box w (.cells #[.int .i64 s, .slice ua ul uc] 24) #[.int .i64 t, .slice va vn vc] 24)
    exact ⟨⟨by rw [cell_of_row _ _ _ _ _ _ k1]; rfl, by rw [cell_of_row _ _ _ _ _ _ k1]; rfl⟩, by rw [cell_of_row _ _ _ _ _ _ k2]; rfl, by rw [cell_of_row _ _ _ _ _ _ k2]; rfl⟩
  have HSZ : Hid (((w.alloc (.cells #[.int .i64 s, .slice ua ul uc] 24)).alloc (.cells #[.int .i64 t, .slice va vn vc] 24)).heap.size = w.heap.size + 1 + 1) := by show _ = _; simp
  have C0 := hadaFact_any ((w.alloc (.cells #[.int .i64 s, .slice ua ul uc] 24)).alloc (.cells #[.int .i64 t, .slice va vn vc] 24))
  have T1 : Hid (∀ W, Calls Tryd.prog 5 #[.int .i64 k] W fun e w' => (∃ y, e = .returned (.tuple #[.agg #[.int .i64 (n1 : Int), y], .int .i64 (z1 : Int)]) ∧ w'.ownsRow W.heap.size 3 1 y l1.length (vi l1)) ∧ Below W.heap.size W w') := S1
  have T2 : Hid (∀ W, Below ((w.alloc (.cells #[.int .i64 s, .slice ua ul uc] 24)).alloc (.cells #[.int .i64 t, .slice va vn vc] 24)).heap.size ((w.alloc (.cells #[.int .i64 s, .slice ua ul uc] 24)).alloc (.cells #[.int .i64 t, .slice va vn vc] 24)) W → Calls Tryd.prog 8 #[.int .i64 p] W fun e w' => (∃ y, e = .returned (.tuple #[.agg #[.int .i64 (n2 : Int), y], .int .i64 (z2 : Int)]) ∧ w'.ownsRow W.heap.size 3 1 y l2.length (vi l2)) ∧ Below W.heap.size W w') := fun W b => S2 W (hT.below (Below.next HB0.out b))
  have T3 : Hid (∀ W, Below ((w.alloc (.cells #[.int .i64 s, .slice ua ul uc] 24)).alloc (.cells #[.int .i64 t, .slice va vn vc] 24)).heap.size ((w.alloc (.cells #[.int .i64 s, .slice ua ul uc] 24)).alloc (.cells #[.int .i64 t, .slice va vn vc] 24)) W → Calls Tryd.prog 10 #[.agg #[.int .i64 s, .slice ua ul uc], .agg #[.int .i64 t, .slice va vn vc]] W fun e w' => (∃ y, e = .returned (.tuple #[.agg #[.int .i64 (n3 : Int), y], .int .i64 (z3 : Int)]) ∧ w'.ownsRow W.heap.size 3 1 y l3.length (vi l3)) ∧ Below W.heap.size W w') := fun W b => S3 _ _ W (hu.below (Below.next HB0.out b)) (hv.below (Below.next HB0.out b))
  have g1 : ((z1 : Int) == 0) = false := by simp [e1]
  have g1' : ((z1 : Int) != 0) = true := by simp [e1]
  have g2 : ((z2 : Int) == 0) = false := by simp [e2]
  have g2' : ((z2 : Int) != 0) = true := by simp [e2]
  have g3 : ((z3 : Int) == 0) = false := by simp [e3]
  have g3' : ((z3 : Int) != 0) = true := by simp [e3]
  clear e1 e2 e3 hu hv S1 S2 S3 hT
  go_enter Tryd.func4, Tryd.ntmps4
  go_wp2_with (first
    | (go_at_call 13; refine C0.mono ?_; rintro e w1 ⟨rfl, j1⟩; clear C0; have D1 := T1.out w1; clear T1)
    | (go_at_call 5; refine D1.mono ?_; rintro e w2 ⟨⟨y1, rfl, hW1⟩, j2⟩; clear D1; obtain ⟨y1a, y1l, y1c, rfl⟩ := own_slice hW1; have hq := heap_alloc_new w2 (.cells #[.int .i64 (n1 : Int), .slice y1a y1l y1c] 24); have J2 := Below.next (Below.next j1 j2) (balloc w2 (.cells #[.int .i64 (n1 : Int), .slice y1a y1l y1c] 24)); have hw2 := (Below.next j1 j2).size; have D2 := T2.out _ J2; clear T2)
    | (go_at_call 8; refine D2.mono ?_; rintro e w4 ⟨⟨y2, rfl, hW2⟩, j4⟩; clear D2; obtain ⟨y2a, y2l, y2c, rfl⟩ := own_slice hW2; have hq4 := (j4.block w2.heap.size (by simp)).trans hq; have J4 := Below.next J2 j4; have q0 : w4.cell? ⟨w2.heap.size, 0, none⟩ = some (.int .i64 (n1 : Int)) := (by rw [cell_of_row _ _ _ _ _ _ hq4]; rfl); have q1 : w4.cell? ⟨w2.heap.size, 1, none⟩ = some (.slice y1a y1l y1c) := (by rw [cell_of_row _ _ _ _ _ _ hq4]; rfl); have f0 := frozen_of_row w4 w2.heap.size 0 _ _ hq4; have f1 := frozen_of_row w4 w2.heap.size 1 _ _ hq4; have s4n1 := heap_setCell_same w4 w2.heap.size 0 _ _ (.int .i64 (n2 : Int)) hq4; have s4h : ((w4.setCell ⟨w2.heap.size, 0, none⟩ (.int .i64 (n2 : Int))).setCell ⟨w2.heap.size, 1, none⟩ (.slice y2a y2l y2c)).heap[w2.heap.size]? = some (.cells #[.int .i64 (n2 : Int), .slice y2a y2l y2c] 24 (0, 0)) := heap_setCell_same _ w2.heap.size 1 _ _ (.slice y2a y2l y2c) s4n1; have s4J := (J4.setCell (p := ⟨w2.heap.size, 0, none⟩) (by show _ ≤ w2.heap.size; omega) (.int .i64 (n2 : Int))).setCell (p := ⟨w2.heap.size, 1, none⟩) (by show _ ≤ w2.heap.size; omega) (.slice y2a y2l y2c); have s4W := orow_other (orow_other hW2 ⟨w2.heap.size, 0, none⟩ (.int .i64 (n2 : Int)) (own_diff hW2 hq4)) ⟨w2.heap.size, 1, none⟩ (.slice y2a y2l y2c) (own_diff hW2 hq4); clear s4n1; obtain ⟨⟨x0, x1⟩, y0, y1⟩ := HBX.out _ s4J; have D3 := T3.out _ s4J; clear T3)
    | (go_at_call 10; refine D3.mono ?_; rintro e w6 ⟨⟨y3, rfl, hW3⟩, j6⟩; clear D3 x0 x1 y0 y1 q0 q1 f0 f1; obtain ⟨y3a, y3l, y3c, rfl⟩ := own_slice hW3; have hq6 := (j6.block w2.heap.size (by have := (Array.getElem?_eq_some_iff.1 s4h).1; exact this)).trans s4h; have J6 := Below.next s4J j6; have q0 : w6.cell? ⟨w2.heap.size, 0, none⟩ = some (.int .i64 (n2 : Int)) := (by rw [cell_of_row _ _ _ _ _ _ hq6]; rfl); have q1 : w6.cell? ⟨w2.heap.size, 1, none⟩ = some (.slice y2a y2l y2c) := (by rw [cell_of_row _ _ _ _ _ _ hq6]; rfl); have f0 := frozen_of_row w6 w2.heap.size 0 _ _ hq6; have f1 := frozen_of_row w6 w2.heap.size 1 _ _ hq6; have s6n1 := heap_setCell_same w6 w2.heap.size 0 _ _ (.int .i64 (n3 : Int)) hq6; have s6h : ((w6.setCell ⟨w2.heap.size, 0, none⟩ (.int .i64 (n3 : Int))).setCell ⟨w2.heap.size, 1, none⟩ (.slice y3a y3l y3c)).heap[w2.heap.size]? = some (.cells #[.int .i64 (n3 : Int), .slice y3a y3l y3c] 24 (0, 0)) := heap_setCell_same _ w2.heap.size 1 _ _ (.slice y3a y3l y3c) s6n1; have s6J := (J6.setCell (p := ⟨w2.heap.size, 0, none⟩) (by show _ ≤ w2.heap.size; omega) (.int .i64 (n3 : Int))).setCell (p := ⟨w2.heap.size, 1, none⟩) (by show _ ≤ w2.heap.size; omega) (.slice y3a y3l y3c); have s6W := orow_other (orow_other hW3 ⟨w2.heap.size, 0, none⟩ (.int .i64 (n3 : Int)) (own_diff hW3 hq6)) ⟨w2.heap.size, 1, none⟩ (.slice y3a y3l y3c) (own_diff hW3 hq6); clear s6n1))
  go_ret
  exact ⟨rfl, Below.next HB0.out (s6J)⟩
theorem Made_any (k p s t : Int) (L M : List Int) (u v : Value) (w : World) (hT : Fd.Tab w) (hu : Sl w u L) (hv : Sl w v M) (hL : L.length ≤ maxLen) (hM : M.length ≤ maxLen) :
    Calls Tryd.prog 4 #[.int .i64 k, .int .i64 p, .agg #[.int .i64 s, u], .agg #[.int .i64 t, v]] w fun e w' => e = .returned (.bool true) ∧ Below w.heap.size w w' := by
  obtain ⟨n1, z1, l1, K1, S1⟩ := Syl_mk k
  obtain ⟨n2, z2, l2, K2, S2⟩ := Pal_mk p
  obtain ⟨n3, z3, l3, K3, S3⟩ := Pro_mk s t L M hL hM
  by_cases e1 : z1 = 0 <;> by_cases e2 : z2 = 0 <;> by_cases e3 : z3 = 0
  · exact Md_ooo k p s t L M u v w n1 z1 n2 z2 n3 z3 l1 l2 l3 hT hu hv S1 S2 S3 e1 (K1 e1) e2 (K2 e2) e3 (K3 e3)
  · exact Md_ooe k p s t L M u v w n1 z1 n2 z2 n3 z3 l1 l2 l3 hT hu hv S1 S2 S3 e1 (K1 e1) e2 (K2 e2) e3
  · exact Md_oeo k p s t L M u v w n1 z1 n2 z2 n3 z3 l1 l2 l3 hT hu hv S1 S2 S3 e1 (K1 e1) e2 e3 (K3 e3)
  · exact Md_oee k p s t L M u v w n1 z1 n2 z2 n3 z3 l1 l2 l3 hT hu hv S1 S2 S3 e1 (K1 e1) e2 e3
  · exact Md_eoo k p s t L M u v w n1 z1 n2 z2 n3 z3 l1 l2 l3 hT hu hv S1 S2 S3 e1 e2 (K2 e2) e3 (K3 e3)
  · exact Md_eoe k p s t L M u v w n1 z1 n2 z2 n3 z3 l1 l2 l3 hT hu hv S1 S2 S3 e1 e2 (K2 e2) e3
  · exact Md_eeo k p s t L M u v w n1 z1 n2 z2 n3 z3 l1 l2 l3 hT hu hv S1 S2 S3 e1 e2 e3 (K3 e3)
  · exact Md_eee k p s t L M u v w n1 z1 n2 z2 n3 z3 l1 l2 l3 hT hu hv S1 S2 S3 e1 e2 e3
end Go.Proofs.YtamdpcajfgbagaaDoor
