/- The walk of product. -/
import Derived.Test.YtdeofjmgjhfkcaaP1
import Derived.Test.YtdeofjmgjhfkcaaTPro
namespace Go.Proofs.Ytdeofjmgjhfkcaa
open Go.RowKit

/-- The boxes of the product. -/
structure Bx5 (s v m : Nat) (ua ub : Value) (W : World) : Prop where
  a : W.heap[s]? = some (.cells #[.int .i64 (v : Int), ua] 24 (0, 0))
  b : W.heap[s + 1]? = some (.cells #[.int .i64 (m : Int), ub] 24 (0, 0))
  r : W.heap[s + 2]? = some (.cells #[.int .i64 0, .slice none 0 0] 24 (0, 0))
  x : ∃ x, W.heap[s + 3]? = some (.cells #[x, .int .i64 (m : Int)] 76 (0, 0))
theorem Bx5.kp {s v m : Nat} {ua ub : Value} {W W' : World} {L : List (List Nat)} (h : Bx5 s v m ua ub W) (k : Kp (s + 4) (s + 3) W W') (hL : RowB W' (s + 4) (s + 3) m L) : Bx5 s v m ua ub W' := by
  obtain ⟨x, h1, _⟩ := hL
  exact ⟨(k.at' s (by omega) (by omega)).trans h.a, (k.at' (s + 1) (by omega) (by omega)).trans h.b, (k.at' (s + 2) (by omega) (by omega)).trans h.r, x, h1⟩
theorem Bx5.cells {s v m : Nat} {ua ub : Value} {W : World} (h : Bx5 s v m ua ub W) : (W.cell? ⟨s, 0, none⟩ = some (.int .i64 (v : Int)) ∧ W.cell? ⟨s, 1, none⟩ = some ua) ∧ (W.cell? ⟨s + 1, 0, none⟩ = some (.int .i64 (m : Int)) ∧ W.cell? ⟨s + 1, 1, none⟩ = some ub) :=
  ⟨⟨by rw [cell_of_row _ _ _ _ _ _ h.a]; rfl, by rw [cell_of_row _ _ _ _ _ _ h.a]; rfl⟩, by rw [cell_of_row _ _ _ _ _ _ h.b]; rfl, by rw [cell_of_row _ _ _ _ _ _ h.b]; rfl⟩
def W5 (w : World) (v m : Nat) (ua ub : Value) : World := (((w.alloc (.cells #[.int .i64 (v : Int), ua] 24)).alloc (.cells #[.int .i64 (m : Int), ub] 24)).alloc (.cells #[.int .i64 0, .slice none 0 0] 24)).alloc (.cells #[.slice none 0 0, .int .i64 (m : Int)] 76)
theorem W5_size (w : World) (v m : Nat) (ua ub : Value) : (W5 w v m ua ub).heap.size = w.heap.size + 4 := by simp [W5]
theorem W5_bx (w : World) (v m : Nat) (ua ub : Value) : Bx5 w.heap.size v m ua ub (W5 w v m ua ub) ∧ RowB (W5 w v m ua ub) (w.heap.size + 4) (w.heap.size + 3) m [] := by
  have e1 := heap_alloc_new w (.cells #[.int .i64 (v : Int), ua] 24)
  have e2 := heap_alloc_new (w.alloc (.cells #[.int .i64 (v : Int), ua] 24)) (.cells #[.int .i64 (m : Int), ub] 24)
  have e3 := heap_alloc_new ((w.alloc (.cells #[.int .i64 (v : Int), ua] 24)).alloc (.cells #[.int .i64 (m : Int), ub] 24)) (.cells #[.int .i64 0, .slice none 0 0] 24)
  have e4 := heap_alloc_new (((w.alloc (.cells #[.int .i64 (v : Int), ua] 24)).alloc (.cells #[.int .i64 (m : Int), ub] 24)).alloc (.cells #[.int .i64 0, .slice none 0 0] 24)) (.cells #[.slice none 0 0, .int .i64 (m : Int)] 76)
  rw [show (w.alloc (.cells #[.int .i64 (v : Int), ua] 24)).heap.size = w.heap.size + 1 by simp] at e2
  rw [show ((w.alloc (.cells #[.int .i64 (v : Int), ua] 24)).alloc (.cells #[.int .i64 (m : Int), ub] 24)).heap.size = w.heap.size + 2 by simp] at e3
  rw [show (((w.alloc (.cells #[.int .i64 (v : Int), ua] 24)).alloc (.cells #[.int .i64 (m : Int), ub] 24)).alloc (.cells #[.int .i64 0, .slice none 0 0] 24)).heap.size = w.heap.size + 3 by simp] at e4
  have k := fun (W : World) (o : Obj) (b : Nat) (hb : b < W.heap.size) => (balloc W o).block b hb
  exact ⟨⟨(k _ _ _ (by simp <;> omega)).trans ((k _ _ _ (by simp <;> omega)).trans ((k _ _ _ (by simp)).trans e1)), (k _ _ _ (by simp <;> omega)).trans ((k _ _ _ (by simp)).trans e2), (k _ _ _ (by simp)).trans e3, _, e4⟩, .slice none 0 0, e4, OR.nil _ _, by omega, by rw [W5_size]; exact Nat.le_refl _⟩
theorem W5_below (w : World) (v m : Nat) (ua ub : Value) : Below w.heap.size w (W5 w v m ua ub) := Below.next (Below.next (Below.next (balloc _ _) (balloc _ _)) (balloc _ _)) (balloc _ _)
def p1i (m x : Nat) (C : List (List Nat)) : List (List Nat) := C.map fun c => s3 [x * m + c.getD 0 0, x * m + c.getD 1 0, x * m + c.getD 2 0]
def p1 (m : Nat) (C : List (List Nat)) (x : Nat) : List (List Nat) := (List.range x).flatMap fun x => p1i m x C
def p2y (m : Nat) (a : List Nat) (y : Nat) : List (List Nat) := (List.range y).map fun y => s3 [a.getD 0 0 * m + y, a.getD 1 0 * m + y, a.getD 2 0 * m + y]
def p2c (m : Nat) (a : List Nat) (C : List (List Nat)) : List (List Nat) := C.flatMap fun c => sxI m (fun j => a.getD j 0) (fun j => c.getD j 0) 3
def p2 (m : Nat) (C A : List (List Nat)) : List (List Nat) := A.flatMap fun a => p2y m a m ++ p2c m a C
def prP (v m : Nat) (A C : List (List Nat)) : List (List Nat) := p1 m C v ++ p2 m C A
theorem p1i_succ {m x i : Nat} {C : List (List Nat)} {c : List Nat} (h : C[i]? = some c) : p1i m x (C.take (i + 1)) = p1i m x (C.take i) ++ [s3 [x * m + c.getD 0 0, x * m + c.getD 1 0, x * m + c.getD 2 0]] := by unfold p1i; rw [List.take_add_one, h, List.map_append]; rfl
theorem p1_succ (m : Nat) (C : List (List Nat)) (x : Nat) : p1 m C (x + 1) = p1 m C x ++ p1i m x C := by unfold p1; rw [List.range_succ, List.flatMap_append]; simp
theorem p2y_succ (m : Nat) (a : List Nat) (y : Nat) : p2y m a (y + 1) = p2y m a y ++ [s3 [a.getD 0 0 * m + y, a.getD 1 0 * m + y, a.getD 2 0 * m + y]] := by unfold p2y; rw [List.range_succ, List.map_append]; rfl
theorem p2c_succ {m i : Nat} {a : List Nat} {C : List (List Nat)} {c : List Nat} (h : C[i]? = some c) : p2c m a (C.take (i + 1)) = p2c m a (C.take i) ++ sxI m (fun j => a.getD j 0) (fun j => c.getD j 0) 3 := by unfold p2c; rw [List.take_add_one, h, List.flatMap_append]; simp
theorem p2_succ {m i : Nat} {A C : List (List Nat)} {a : List Nat} (h : A[i]? = some a) : p2 m C (A.take (i + 1)) = (p2 m C (A.take i) ++ p2y m a m) ++ p2c m a C := by unfold p2; rw [List.take_add_one, h, List.flatMap_append]; simp
theorem p1i_len (m x : Nat) (C : List (List Nat)) : (p1i m x C).length = C.length := by simp [p1i]
theorem p1_len (m : Nat) (C : List (List Nat)) : ∀ x, (p1 m C x).length = x * C.length
  | 0 => by simp [p1]
  | x + 1 => by rw [p1_succ, List.length_append, p1_len m C x, p1i_len, Nat.add_mul, Nat.one_mul]
theorem p2y_len (m : Nat) (a : List Nat) (y : Nat) : (p2y m a y).length = y := by simp [p2y]
theorem p2c_len (m : Nat) (a : List Nat) : ∀ C : List (List Nat), (p2c m a C).length = 6 * C.length
  | [] => rfl
  | c :: C => by
    have := p2c_len m a C
    unfold p2c at this ⊢
    rw [List.flatMap_cons, List.length_append, this, sxI_len, List.length_cons]; omega
theorem p2_len (m : Nat) (C : List (List Nat)) : ∀ A : List (List Nat), (p2 m C A).length = A.length * (m + 6 * C.length)
  | [] => by simp [p2]
  | a :: A => by
    have := p2_len m C A
    unfold p2 at this ⊢
    rw [List.flatMap_cons, List.length_append, this, List.length_append, p2y_len, p2c_len, List.length_cons, Nat.add_mul, Nat.one_mul]; omega
theorem prP_three (v m : Nat) (A C : List (List Nat)) : ∀ b ∈ prP v m A C, b.length = 3 := fun b hb => by
  rcases List.mem_append.1 hb with h | h
  · unfold p1 at h
    obtain ⟨_, _, h⟩ := List.mem_flatMap.1 h
    unfold p1i at h
    obtain ⟨_, _, rfl⟩ := List.mem_map.1 h
    rw [s3_len]; rfl
  · unfold p2 at h
    obtain ⟨_, _, h⟩ := List.mem_flatMap.1 h
    rcases List.mem_append.1 h with h | h
    · unfold p2y at h
      obtain ⟨_, _, rfl⟩ := List.mem_map.1 h
      rw [s3_len]; rfl
    · unfold p2c at h
      obtain ⟨_, _, h⟩ := List.mem_flatMap.1 h
      unfold sxI at h
      obtain ⟨_, _, h⟩ := List.mem_flatMap.1 h
      simp only [List.mem_cons, List.not_mem_nil, or_false] at h
      rcases h with rfl | rfl
      · rw [s3_len]; rfl
      · rw [s3_len]; rfl
theorem R3.read {base gb s b o : Nat} {w wr : World} {R : Nat → Nat} (hB : Below s w wr) (hs : s ≤ gb) (h : ∀ W, Below s w W → ∀ j, j < 3 → W.cell? ⟨b, o + j, none⟩ = some (.int .i64 (R j : Int))) : R3 base gb wr b o (R 0) (R 1) (R 2) := fun W k _ => by
  have := h W (hB.trans (k.lo.mono hs))
  exact ⟨this 0 (by omega), this 1 (by omega), this 2 (by omega)⟩
/-- The rows of a system, each of three. -/
theorem rows3 {w : World} {a : Option Addr} {B : List (List Nat)} (h3 : ∀ b ∈ B, b.length = 3 ∧ ∀ x ∈ b, x ≤ 40) (hD : DRow w a B) (i : Nat) (hi : i < B.length) : ∃ b bb off bq oq uc, B[i]? = some b ∧ (∀ j, b.getD j 0 ≤ 99) ∧ a = some ⟨bb, off, none⟩ ∧ ∀ W, Below w.heap.size w W → W.cell? ⟨bb, off + i, none⟩ = some (.slice (some ⟨bq, oq, none⟩) 3 uc) ∧ ∀ j, j < 3 → W.cell? ⟨bq, oq + j, none⟩ = some (.int .i64 ((b.getD j 0 : Nat) : Int)) := by
  have hb := List.getElem?_eq_getElem hi
  obtain ⟨g3, g4⟩ := h3 _ (List.getElem_mem hi)
  obtain ⟨bb, off, ua, uc, rfl, hrow⟩ := hD i _ hb
  obtain ⟨r0, rs⟩ := hrow _ (Below.refl _ _)
  obtain ⟨bq, oq, rfl, _⟩ := row3 g3 rs
  refine ⟨_, bb, off, bq, oq, uc, hb, fun j => ?_, rfl, fun W h => ?_⟩
  · by_cases hj : j < B[i].length
    · have := g4 _ (getD_mem' hj); omega
    · have e0 : B[i].getD j 0 = 0 := by rw [List.getD_eq_getElem?_getD, List.getElem?_eq_none (by omega)]; rfl
      rw [e0]; omega
  · obtain ⟨r0, rs⟩ := hrow W h
    obtain ⟨_, _, e, hc⟩ := row3 g3 rs
    cases e
    rw [g3] at r0
    exact ⟨r0, hc⟩
set_option maxRecDepth 100000 in
set_option maxHeartbeats 16000000 in
theorem product_any (v m : Nat) (A C : List (List Nat)) (ua ub : Value) (w : World) (hv : v ≤ 33) (hm : m ≤ 33) (hvm : v * m ≤ 33) (hA2 : A.length ≤ 200) (hC2 : C.length ≤ 200) (hT1 : v * C.length ≤ 400) (hT2 : A.length * (m + 6 * C.length) ≤ 400) (hA3 : ∀ b ∈ A, b.length = 3 ∧ ∀ x ∈ b, x ≤ 40) (hC3 : ∀ b ∈ C, b.length = 3 ∧ ∀ x ∈ b, x ≤ 40) (hua : Rw w ua (toZ A)) (hub : Rw w ub (toZ C)) :
    Calls Try.prog 35 #[.agg #[.int .i64 (v : Int), ua], .agg #[.int .i64 (m : Int), ub]] w fun e w' => ∃ x Z, e = .returned (.agg #[.int .i64 ((v * m : Nat) : Int), x]) ∧ Srtd (prP v m A C) Z ∧ OR w' (w.heap.size + 4) x Z ∧ Below w.heap.size w w' := by
  obtain ⟨HBX, HRW⟩ := W5_bx w v m ua ub
  have HBE : Hid (Below w.heap.size w (W5 w v m ua ub)) := W5_below w v m ua ub
  obtain ⟨aa, ac, rfl, hDA⟩ := drow_of hua
  obtain ⟨ba, bc, rfl, hDC⟩ := drow_of hub
  have HAT : Hid (∀ i, i < A.length → _) := fun i hi => rows3 hA3 hDA i hi
  have HCT : Hid (∀ i, i < C.length → _) := fun i hi => rows3 hC3 hDC i hi
  obtain ⟨M, HM⟩ : ∃ M, Hid (prP v m A C = M) := ⟨_, rfl⟩
  have HM3 : Hid (∀ b ∈ M, b.length = 3) := by rw [← HM.out]; exact prP_three v m A C
  have HML : Hid (M.length ≤ 6000) := by show _ ≤ _; rw [← HM.out]; unfold prP; rw [List.length_append, p1_len, p2_len]; omega
  have HME : Hid (p1 m C v ++ p2 m C (A.take A.length) = M) := by show _ = _; rw [List.take_length]; exact HM.out
  rw [HM.out]
  have HP1S : Hid (∀ x, p1 m C (x + 1) = p1 m C x ++ p1i m x (C.take C.length)) := fun x => by rw [List.take_length]; exact p1_succ m C x
  have HP1L : Hid (∀ x, x ≤ v → (p1 m C x).length ≤ 400) := fun x hx => by rw [p1_len]; exact Nat.le_trans (Nat.mul_le_mul_right _ hx) hT1
  have HPIS : Hid (∀ (x i : Nat) (c : List Nat), C[i]? = some c → p1i m x (C.take (i + 1)) = p1i m x (C.take i) ++ [s3 [x * m + c.getD 0 0, x * m + c.getD 1 0, x * m + c.getD 2 0]]) := fun x i c h => p1i_succ h
  have HPIL : Hid (∀ x i, (p1i m x (C.take i)).length ≤ 200) := fun x i => by rw [p1i_len, List.length_take]; omega
  have HYS : Hid (∀ (a : List Nat) (y : Nat), p2y m a (y + 1) = p2y m a y ++ [s3 [a.getD 0 0 * m + y, a.getD 1 0 * m + y, a.getD 2 0 * m + y]]) := p2y_succ m
  have HYL : Hid (∀ (a : List Nat) (y : Nat), (p2y m a y).length = y) := p2y_len m
  have HCS : Hid (∀ (a : List Nat) (i : Nat) (c : List Nat), C[i]? = some c → p2c m a (C.take (i + 1)) = p2c m a (C.take i) ++ sxI m (fun j => a.getD j 0) (fun j => c.getD j 0) 3) := fun a i c h => p2c_succ h
  have HCL : Hid (∀ (a : List Nat) (i : Nat), (p2c m a (C.take i)).length ≤ 1200) := fun a i => by rw [p2c_len, List.length_take]; omega
  have H2S : Hid (∀ (i : Nat) (a : List Nat), A[i]? = some a → p2 m C (A.take (i + 1)) = (p2 m C (A.take i) ++ p2y m a m) ++ p2c m a (C.take C.length)) := fun i a h => by rw [List.take_length]; exact p2_succ h
  have H2L : Hid (∀ i, (p2 m C (A.take i)).length ≤ 400) := fun i => by rw [p2_len, List.length_take]; exact Nat.le_trans (Nat.mul_le_mul_right _ (Nat.min_le_right _ _)) hT2
  obtain ⟨w5, Hw5⟩ : ∃ w5, Hid (w5 = W5 w v m (.slice aa A.length ac) (.slice ba C.length bc)) := ⟨_, rfl⟩
  rw [← Hw5.out] at HBX HRW HBE
  have HX : Hid (Bx5 w.heap.size v m (.slice aa A.length ac) (.slice ba C.length bc) w5) := HBX
  have HR : Hid (RowB w5 (w.heap.size + 4) (w.heap.size + 3) m (p1 m C 0)) := HRW
  have HPA : Hid (∀ (W : World) (L : List (List Nat)) (r0 r1 r2 p0 p1 p2 rb ro rc pb po pc : Nat), RowB W (w.heap.size + 4) (w.heap.size + 3) m L → L.length ≤ 6000 → (r0 ≤ 99 ∧ r1 ≤ 99 ∧ r2 ≤ 99) → (p0 ≤ 99 ∧ p1 ≤ 99 ∧ p2 ≤ 99) → R3 (w.heap.size + 4) (w.heap.size + 3) W rb ro r0 r1 r2 → R3 (w.heap.size + 4) (w.heap.size + 3) W pb po p0 p1 p2 → Calls Try.prog 57 #[.pointer (some ⟨w.heap.size + 1 + 1 + 1, 0, none⟩), .slice (some ⟨rb, ro, none⟩) 3 rc, .slice (some ⟨pb, po, none⟩) 3 pc] W fun e w' => e = .returned (.tuple #[]) ∧ RowB w' (w.heap.size + 4) (w.heap.size + 3) m (L ++ [s3 [r0 * m + p0, r1 * m + p1, r2 * m + p2]]) ∧ Kp (w.heap.size + 4) (w.heap.size + 3) W w' ∧ KpI W w') := fun W L r0 r1 r2 p0 p1 p2 rb ro rc pb po pc h1 h2 h3 h4 h5 h6 => pair_any r0 r1 r2 p0 p1 p2 (w.heap.size + 4) (w.heap.size + 3) m rb ro rc pb po pc L W h1 h2 (by omega) h3 h4 h5 h6
  have HPP : Hid (∀ (W : World) (L : List (List Nat)) (R P : Nat → Nat) (rb ro rc pb po pc : Nat), RowB W (w.heap.size + 4) (w.heap.size + 3) m L → L.length ≤ 5000 → (∀ j, R j ≤ 99) → (∀ j, P j ≤ 99) → R3 (w.heap.size + 4) (w.heap.size + 3) W rb ro (R 0) (R 1) (R 2) → R3 (w.heap.size + 4) (w.heap.size + 3) W pb po (P 0) (P 1) (P 2) → Calls Try.prog 58 #[.pointer (some ⟨w.heap.size + 1 + 1 + 1, 0, none⟩), .slice (some ⟨rb, ro, none⟩) 3 rc, .slice (some ⟨pb, po, none⟩) 3 pc] W fun e w' => e = .returned (.tuple #[]) ∧ RowB w' (w.heap.size + 4) (w.heap.size + 3) m (L ++ sxI m R P 3) ∧ Kp (w.heap.size + 4) (w.heap.size + 3) W w' ∧ KpI W w') := fun W L R P rb ro rc pb po pc h1 h2 h3 h4 h5 h6 => pairAll_any R P (w.heap.size + 4) (w.heap.size + 3) m rb ro rc pb po pc L W h1 h2 (by omega) h3 h4 h5 h6
  have hvm0 : (v : Int) * (m : Int) = ((v * m : Nat) : Int) := by simp
  have HTE : Hid (∀ W : World, RowB W (w.heap.size + 4) (w.heap.size + 3) m M → Calls Try.prog 43 #[.pointer (some ⟨w.heap.size + 1 + 1 + 1, 0, none⟩), .int .i64 ((v * m : Nat) : Int)] W fun e w' => ∃ x Z, e = .returned (.agg #[.int .i64 ((v * m : Nat) : Int), x]) ∧ Srtd M Z ∧ OR w' (w.heap.size + 4) x Z ∧ Below (w.heap.size + 4) W w') := fun W hW => tell_any (v * m) _ _ _ _ M W hW HM3.out HML.out
  generalize hvq : v * m = vm at *
  generalize hAn : A.length = na at *
  generalize hCn : C.length = nc at *
  obtain ⟨⟨x0, x1⟩, x2, x3⟩ := HBX.cells
  rw [Hw5.out] at x0 x1 x2 x3
  clear HBX HRW HM3 HML HM hua hub hDA hDC hA3 hC3 hvq hT1 hT2
  go_enter Try.func35, Try.ntmps35
  go_wp2
  change Code.wp _ _ _ _ (W5 w v m (.slice aa na ac) (.slice ba nc bc))
  rw [← Hw5.out]
  clear Hw5 x0 x1 x2 x3
  go_loopw [20] (fun xv wr => ∃ (x : Nat), xv = .int .i64 (x : Int) ∧ x ≤ v ∧ RowB wr (w.heap.size + 4) (w.heap.size + 3) m (p1 m C x) ∧ Bx5 w.heap.size v m (.slice aa na ac) (.slice ba nc bc) wr ∧ Below w.heap.size w wr) (fun xv _ => (v - intOf xv).toNat)
  case atStart => exact ⟨0, rfl, by omega, HR.out, HX.out, HBE.out⟩
  case round =>
    clear HR HX HBE
    obtain ⟨x, rfl, hx, hR, hX, hB⟩ := hrel
    obtain ⟨⟨y0, y1⟩, y2, y3⟩ := hX.cells
    by_cases hlt : x < v
    · have hdi : decide ((x : Int) < (v : Int)) = true := by simp; omega
      have hii : (x : Int) < (v : Int) := by omega
      have hps := HP1S.out x
      have hpl := HP1L.out x hx
      obtain ⟨Lx, HLx⟩ : ∃ Lx, Hid (p1 m C x = Lx) := ⟨_, rfl⟩
      rw [HLx.out] at hR hps hpl
      have HNX : Hid (p1 m C (x + 1) = Lx ++ p1i m x (C.take nc)) := hps
      have HLXL : Hid (Lx.length ≤ 400) := hpl
      have HR0 : Hid (RowB wr (w.heap.size + 4) (w.heap.size + 3) m (Lx ++ p1i m x (C.take 0))) := by show Lst _ _ _ _ _ _; simpa [p1i] using hR
      have HX0 : Hid (Bx5 w.heap.size v m (.slice aa na ac) (.slice ba nc bc) wr) := hX
      have HB0 : Hid (Below w.heap.size w wr) := hB
      clear hR hX hB hps hpl
      go_wp2
      go_loopw [26] (fun iv wr => ∃ (i : Nat), iv = .int .i64 (i : Int) ∧ i ≤ nc ∧ RowB wr (w.heap.size + 4) (w.heap.size + 3) m (Lx ++ p1i m x (C.take i)) ∧ Bx5 w.heap.size v m (.slice aa na ac) (.slice ba nc bc) wr ∧ Below w.heap.size w wr) (fun iv _ => (nc - intOf iv).toNat)
      case atStart => exact ⟨0, rfl, by omega, HR0.out, HX0.out, HB0.out⟩
      case round =>
        clear HR0 HX0 HB0 y0 y1 y2 y3
        obtain ⟨i, rfl, hi, hR, hX, hB⟩ := hrel
        by_cases hli : i < nc
        · have hdj : decide ((i : Int) < (nc : Int)) = true := by simp; omega
          have hji : (i : Int) < (nc : Int) := by omega
          obtain ⟨c, bb, off, bq, oq, uc, hci, hc99, rfl, hrow⟩ := HCT.out i hli
          have r0 := (hrow wr hB).1
          have HRO : Hid (∀ W, Below w.heap.size w W → ∀ j, j < 3 → W.cell? ⟨bq, oq + j, none⟩ = some (.int .i64 ((c.getD j 0 : Nat) : Int))) := fun W h => (hrow W h).2
          have his := HPIS.out x i c hci
          have hil := HPIL.out x i
          have hxl := HLXL.out
          have HX1 : Hid (Bx5 w.heap.size v m (.slice aa na ac) (.slice (some ⟨bb, off, none⟩) nc bc) wr) := hX
          have HNI : Hid (Lx ++ p1i m x (C.take (i + 1)) = (Lx ++ p1i m x (C.take i)) ++ [s3 [x * m + c.getD 0 0, x * m + c.getD 1 0, x * m + c.getD 2 0]]) := by show _ = _; rw [his, List.append_assoc]
          have HC : Hid (Calls Try.prog 57 #[.pointer (some ⟨w.heap.size + 1 + 1 + 1, 0, none⟩), .slice (some ⟨wr.heap.size, 0, none⟩) 3 3, .slice (some ⟨bq, oq, none⟩) 3 uc] (wr.alloc (.cells #[.int .i64 (x : Int), .int .i64 (x : Int), .int .i64 (x : Int)] 3)) fun e w' => e = .returned (.tuple #[]) ∧ RowB w' (w.heap.size + 4) (w.heap.size + 3) m ((Lx ++ p1i m x (C.take i)) ++ [s3 [x * m + c.getD 0 0, x * m + c.getD 1 0, x * m + c.getD 2 0]]) ∧ Kp (w.heap.size + 4) (w.heap.size + 3) (wr.alloc (.cells #[.int .i64 (x : Int), .int .i64 (x : Int), .int .i64 (x : Int)] 3)) w' ∧ KpI (wr.alloc (.cells #[.int .i64 (x : Int), .int .i64 (x : Int), .int .i64 (x : Int)] 3)) w') :=
            HPA.out _ _ x x x _ _ _ _ _ _ _ _ _ (hR.alloc _) (by rw [List.length_append]; omega) ⟨by omega, by omega, by omega⟩ ⟨hc99 0, hc99 1, hc99 2⟩ (R3.new _ _ _ _ _ _) (R3.read (R := fun j => c.getD j 0) (hB.trans ((balloc wr _).mono hB.size)) (by omega) HRO.out)
          rw [← HNI.out] at HC
          have HKA : Hid (Kp (w.heap.size + 4) (w.heap.size + 3) wr (wr.alloc (.cells #[.int .i64 (x : Int), .int .i64 (x : Int), .int .i64 (x : Int)] 3))) := Kp.alloc _ hR.le hR.le2
          clear his hil hxl hrow hR hX HNI hc99 hci
          go_wp2_with (go_at_call 57; refine HC.out.mono ?_; rintro e v1 ⟨rfl, hL1, hK1, hI1⟩; clear HC)
          have hk := HKA.out.trans hK1
          have hX1 := HX1.out.kp hk hL1
          have hB1 : Below w.heap.size w v1 := hB.trans (hk.lo.mono (by omega))
          clear hK1 hI1 hk hB HKA
          go_wp2
          go_roundw
          case rel => exact ⟨i + 1, by go_num, by omega, hL1, hX1, hB1⟩
          case measure => simp [intOf]; omega
        · have hdj : decide ((i : Int) < (nc : Int)) = false := by simp; omega
          have hin : nc = i := by omega
          subst hin
          rw [← HNX.out] at hR
          go_wp2
          go_roundw
          case rel => exact ⟨x + 1, by go_num, by omega, hR, hX, hB⟩
          case measure => simp [intOf]; omega
    · have hdi : decide ((x : Int) < (v : Int)) = false := by simp; omega
      have hxv : v = x := by omega
      subst hxv
      have hpl := HP1L.out v (Nat.le_refl _)
      obtain ⟨PP, HPPL⟩ : ∃ PP, Hid (p1 m C v = PP) := ⟨_, rfl⟩
      rw [HPPL.out] at hR HME hpl
      have HPL : Hid (PP.length ≤ 400) := hpl
      have HR0 : Hid (RowB wr (w.heap.size + 4) (w.heap.size + 3) m (PP ++ p2 m C (A.take 0))) := by show Lst _ _ _ _ _ _; simpa [p2] using hR
      have HX0 : Hid (Bx5 w.heap.size v m (.slice aa na ac) (.slice ba nc bc) wr) := hX
      have HB0 : Hid (Below w.heap.size w wr) := hB
      clear hR hX hB hpl HP1S HP1L HPIS HPIL
      go_wp2
      go_loopw [42] (fun iv wr => ∃ (i : Nat), iv = .int .i64 (i : Int) ∧ i ≤ na ∧ RowB wr (w.heap.size + 4) (w.heap.size + 3) m (PP ++ p2 m C (A.take i)) ∧ Bx5 w.heap.size v m (.slice aa na ac) (.slice ba nc bc) wr ∧ Below w.heap.size w wr) (fun iv _ => (na - intOf iv).toNat)
      case atStart => exact ⟨0, rfl, by omega, HR0.out, HX0.out, HB0.out⟩
      case round =>
        clear HR0 HX0 HB0 y0 y1 y2 y3
        obtain ⟨i, rfl, hi, hR, hX, hB⟩ := hrel
        obtain ⟨⟨y0, y1⟩, y2, y3⟩ := hX.cells
        by_cases hli : i < na
        · have hdj : decide ((i : Int) < (na : Int)) = true := by simp; omega
          have hji : (i : Int) < (na : Int) := by omega
          obtain ⟨a, bb, off, aq, ao, au, hai, ha99, rfl, hrow⟩ := HAT.out i hli
          have r0 := (hrow wr hB).1
          have HRA : Hid (∀ W, Below w.heap.size w W → ∀ j, j < 3 → W.cell? ⟨aq, ao + j, none⟩ = some (.int .i64 ((a.getD j 0 : Nat) : Int))) := fun W h => (hrow W h).2
          have HA99 : Hid (∀ j, a.getD j 0 ≤ 99) := ha99
          have h2s := H2S.out i a hai
          have h2l := H2L.out i
          obtain ⟨Li, HLi⟩ : ∃ Li, Hid (PP ++ p2 m C (A.take i) = Li) := ⟨_, rfl⟩
          have HNX : Hid (PP ++ p2 m C (A.take (i + 1)) = (Li ++ p2y m a m) ++ p2c m a (C.take nc)) := by show _ = _; rw [h2s, ← HLi.out]; simp only [List.append_assoc]
          have HLIL : Hid (Li.length ≤ 800) := by show _ ≤ _; rw [← HLi.out, List.length_append]; have := HPL.out; omega
          rw [HLi.out] at hR
          have HR0 : Hid (RowB wr (w.heap.size + 4) (w.heap.size + 3) m (Li ++ p2y m a 0)) := by show Lst _ _ _ _ _ _; simpa [p2y] using hR
          have HX0 : Hid (Bx5 w.heap.size v m (.slice (some ⟨bb, off, none⟩) na ac) (.slice ba nc bc) wr) := hX
          have HB0 : Hid (Below w.heap.size w wr) := hB
          clear hR hX hB h2s h2l hrow ha99 hai HLi
          go_wp2
          go_loopw [48] (fun yv wr => ∃ (y : Nat), yv = .int .i64 (y : Int) ∧ y ≤ m ∧ RowB wr (w.heap.size + 4) (w.heap.size + 3) m (Li ++ p2y m a y) ∧ Bx5 w.heap.size v m (.slice (some ⟨bb, off, none⟩) na ac) (.slice ba nc bc) wr ∧ Below w.heap.size w wr) (fun yv _ => (m - intOf yv).toNat)
          case atStart => exact ⟨0, rfl, by omega, HR0.out, HX0.out, HB0.out⟩
          case round =>
            clear HR0 HX0 HB0 y0 y1 y2 y3 r0
            obtain ⟨y, rfl, hy, hR, hX, hB⟩ := hrel
            obtain ⟨⟨y0, y1⟩, y2, y3⟩ := hX.cells
            by_cases hly : y < m
            · have hdy : decide ((y : Int) < (m : Int)) = true := by simp; omega
              have hyi : (y : Int) < (m : Int) := by omega
              have his := HYS.out a y
              have hil := HYL.out a y
              have hxl := HLIL.out
              have hA := HA99.out
              have HX1 : Hid (Bx5 w.heap.size v m (.slice (some ⟨bb, off, none⟩) na ac) (.slice ba nc bc) wr) := hX
              have HNI : Hid (Li ++ p2y m a (y + 1) = (Li ++ p2y m a y) ++ [s3 [a.getD 0 0 * m + y, a.getD 1 0 * m + y, a.getD 2 0 * m + y]]) := by show _ = _; rw [his, List.append_assoc]
              have HC : Hid (Calls Try.prog 57 #[.pointer (some ⟨w.heap.size + 1 + 1 + 1, 0, none⟩), .slice (some ⟨aq, ao, none⟩) 3 au, .slice (some ⟨wr.heap.size, 0, none⟩) 3 3] (wr.alloc (.cells #[.int .i64 (y : Int), .int .i64 (y : Int), .int .i64 (y : Int)] 3)) fun e w' => e = .returned (.tuple #[]) ∧ RowB w' (w.heap.size + 4) (w.heap.size + 3) m ((Li ++ p2y m a y) ++ [s3 [a.getD 0 0 * m + y, a.getD 1 0 * m + y, a.getD 2 0 * m + y]]) ∧ Kp (w.heap.size + 4) (w.heap.size + 3) (wr.alloc (.cells #[.int .i64 (y : Int), .int .i64 (y : Int), .int .i64 (y : Int)] 3)) w' ∧ KpI (wr.alloc (.cells #[.int .i64 (y : Int), .int .i64 (y : Int), .int .i64 (y : Int)] 3)) w') :=
                HPA.out _ _ _ _ _ y y y _ _ _ _ _ _ (hR.alloc _) (by rw [List.length_append]; omega) ⟨hA 0, hA 1, hA 2⟩ ⟨by omega, by omega, by omega⟩ (R3.read (R := fun j => a.getD j 0) (hB.trans ((balloc wr _).mono hB.size)) (by omega) HRA.out) (R3.new _ _ _ _ _ _)
              rw [← HNI.out] at HC
              have HKA : Hid (Kp (w.heap.size + 4) (w.heap.size + 3) wr (wr.alloc (.cells #[.int .i64 (y : Int), .int .i64 (y : Int), .int .i64 (y : Int)] 3))) := Kp.alloc _ hR.le hR.le2
              clear his hil hxl hR hX HNI hA
              go_wp2_with (go_at_call 57; refine HC.out.mono ?_; rintro e v1 ⟨rfl, hL1, hK1, hI1⟩; clear HC)
              have hk := HKA.out.trans hK1
              have hX1 := HX1.out.kp hk hL1
              have hB1 : Below w.heap.size w v1 := hB.trans (hk.lo.mono (by omega))
              clear hK1 hI1 hk hB HKA
              go_wp2
              go_roundw
              case rel => exact ⟨y + 1, by go_num, by omega, hL1, hX1, hB1⟩
              case measure => simp [intOf]; omega
            · have hdy : decide ((y : Int) < (m : Int)) = false := by simp; omega
              have hym : m = y := by omega
              subst hym
              obtain ⟨Ly, HLy⟩ : ∃ Ly, Hid (Li ++ p2y m a m = Ly) := ⟨_, rfl⟩
              have HLYL : Hid (Ly.length ≤ 900) := by show _ ≤ _; rw [← HLy.out, List.length_append, HYL.out]; have := HLIL.out; omega
              rw [HLy.out] at hR HNX
              have HR0 : Hid (RowB wr (w.heap.size + 4) (w.heap.size + 3) m (Ly ++ p2c m a (C.take 0))) := by show Lst _ _ _ _ _ _; simpa [p2c] using hR
              have HX0 : Hid (Bx5 w.heap.size v m (.slice (some ⟨bb, off, none⟩) na ac) (.slice ba nc bc) wr) := hX
              have HB0 : Hid (Below w.heap.size w wr) := hB
              clear hR hX hB HLy
              go_wp2
              go_loopw [62] (fun kv wr => ∃ (k : Nat), kv = .int .i64 (k : Int) ∧ k ≤ nc ∧ RowB wr (w.heap.size + 4) (w.heap.size + 3) m (Ly ++ p2c m a (C.take k)) ∧ Bx5 w.heap.size v m (.slice (some ⟨bb, off, none⟩) na ac) (.slice ba nc bc) wr ∧ Below w.heap.size w wr) (fun kv _ => (nc - intOf kv).toNat)
              case atStart => exact ⟨0, rfl, by omega, HR0.out, HX0.out, HB0.out⟩
              case round =>
                clear HR0 HX0 HB0 y0 y1 y2 y3
                obtain ⟨k, rfl, hk, hR, hX, hB⟩ := hrel
                by_cases hlk : k < nc
                · have hdk : decide ((k : Int) < (nc : Int)) = true := by simp; omega
                  have hki : (k : Int) < (nc : Int) := by omega
                  obtain ⟨c, cb, coff, bq, oq, uc, hci, hc99, rfl, hrow⟩ := HCT.out k hlk
                  have r0 := (hrow wr hB).1
                  have HRO : Hid (∀ W, Below w.heap.size w W → ∀ j, j < 3 → W.cell? ⟨bq, oq + j, none⟩ = some (.int .i64 ((c.getD j 0 : Nat) : Int))) := fun W h => (hrow W h).2
                  have his := HCS.out a k c hci
                  have hil := HCL.out a k
                  have hxl := HLYL.out
                  have HX1 : Hid (Bx5 w.heap.size v m (.slice (some ⟨bb, off, none⟩) na ac) (.slice (some ⟨cb, coff, none⟩) nc bc) wr) := hX
                  have HNI : Hid (Ly ++ p2c m a (C.take (k + 1)) = (Ly ++ p2c m a (C.take k)) ++ sxI m (fun j => a.getD j 0) (fun j => c.getD j 0) 3) := by show _ = _; rw [his, List.append_assoc]
                  have HC : Hid (Calls Try.prog 58 #[.pointer (some ⟨w.heap.size + 1 + 1 + 1, 0, none⟩), .slice (some ⟨aq, ao, none⟩) 3 au, .slice (some ⟨bq, oq, none⟩) 3 uc] wr fun e w' => e = .returned (.tuple #[]) ∧ RowB w' (w.heap.size + 4) (w.heap.size + 3) m ((Ly ++ p2c m a (C.take k)) ++ sxI m (fun j => a.getD j 0) (fun j => c.getD j 0) 3) ∧ Kp (w.heap.size + 4) (w.heap.size + 3) wr w' ∧ KpI wr w') :=
                    HPP.out wr _ (fun j => a.getD j 0) (fun j => c.getD j 0) _ _ _ _ _ _ hR (by rw [List.length_append]; omega) HA99.out hc99 (R3.read (R := fun j => a.getD j 0) hB (by omega) HRA.out) (R3.read (R := fun j => c.getD j 0) hB (by omega) HRO.out)
                  rw [← HNI.out] at HC
                  clear his hil hxl hrow hR hX HNI hc99 hci
                  go_wp2_with (go_at_call 58; refine HC.out.mono ?_; rintro e v1 ⟨rfl, hL1, hK1, hI1⟩; clear HC)
                  have hX1 := HX1.out.kp hK1 hL1
                  have hB1 : Below w.heap.size w v1 := hB.trans (hK1.lo.mono (by omega))
                  clear hK1 hI1 hB
                  go_wp2
                  go_roundw
                  case rel => exact ⟨k + 1, by go_num, by omega, hL1, hX1, hB1⟩
                  case measure => simp [intOf]; omega
                · have hdk : decide ((k : Int) < (nc : Int)) = false := by simp; omega
                  have hkn : nc = k := by omega
                  subst hkn
                  rw [← HNX.out] at hR
                  go_wp2
                  go_roundw
                  case rel => exact ⟨i + 1, by go_num, by omega, hR, hX, hB⟩
                  case measure => simp [intOf]; omega
        · have hdj : decide ((i : Int) < (na : Int)) = false := by simp; omega
          have hin : na = i := by omega
          subst hin
          rw [HME.out] at hR
          have HX1 : Hid (Bx5 w.heap.size v m (.slice aa na ac) (.slice ba nc bc) wr) := hX
          have HR5 : Hid (RowB wr (w.heap.size + 4) (w.heap.size + 3) m M) := hR
          have HS : Hid (∀ W' : World, (∀ k, k = w.heap.size ∨ k = w.heap.size + 1 → W'.heap[k]? = wr.heap[k]?) → (W'.cell? ⟨w.heap.size, 0, none⟩ = some (.int .i64 (v : Int)) ∧ W'.cell? ⟨w.heap.size + 1, 0, none⟩ = some (.int .i64 (m : Int)))) := fun W' k => ⟨(cell_same (k _ (.inl rfl))).trans y0, (cell_same (k _ (.inr rfl))).trans y2⟩
          have hwv : IntKind.i64.wrap (vm : Int) = (vm : Int) := by simp [IntKind.wrap, IntKind.bits, IntKind.signed]; omega
          clear hR hX y0 y1 y2 y3 HPA HPP HYS HYL HCS HCL H2S H2L
          go_wp2
          refine wp_region_noPanic ?_
          refine wp_region_held_drew (S := fun w' => w'.cell? ⟨w.heap.size, 0, none⟩ = some (.int .i64 (v : Int)) ∧ w'.cell? ⟨w.heap.size + 1, 0, none⟩ = some (.int .i64 (m : Int))) (by kernel_rfl) (HS.out _ (fun _ _ => rfl)) (fun hSx => ?_)
          refine wpAnyH_take (i := 0) (v := .pointer (some ⟨w.heap.size + 1 + 1 + 1, 0, none⟩)) rfl (by kernel_rfl) (by kernel_rfl) (by kernel_rfl) (fun _ _ _ h => h) (Or.inl ⟨by rfl, fun w' hSw => by (try dsimp only at hSw); obtain ⟨hs0, hs1⟩ := hSw; go_simp⟩) hSx ?_
          try simp only [Act.put, List.setIfInBounds_toArray]
          refine wpAnyH_take (i := 1) (v := .pointer (some ⟨w.heap.size + 1 + 1 + 1, 0, none⟩)) rfl (by kernel_rfl) (by kernel_rfl) (by kernel_rfl) (fun _ _ _ h => h) (Or.inl ⟨by rfl, fun w' hSw => by (try dsimp only at hSw); obtain ⟨hs0, hs1⟩ := hSw; go_simp⟩) hSx ?_
          try simp only [Act.put]
          refine wpAnyH_take (i := 2) (v := .pointer (some ⟨w.heap.size + 1 + 1 + 1, 0, none⟩)) rfl (by kernel_rfl) (by kernel_rfl) (by kernel_rfl) (fun _ _ _ h => h) (Or.inl ⟨by rfl, fun w' hSw => by (try dsimp only at hSw); obtain ⟨hs0, hs1⟩ := hSw; go_simp⟩) hSx ?_
          try simp only [Act.put]
          refine wpAnyH_take (i := 3) (v := .pointer (some ⟨w.heap.size, 0, none⟩)) rfl (by kernel_rfl) (by kernel_rfl) (by kernel_rfl) (fun _ _ _ h => h) (Or.inl ⟨by rfl, fun w' hSw => by (try dsimp only at hSw); obtain ⟨hs0, hs1⟩ := hSw; go_simp⟩) hSx ?_
          try simp only [Act.put]
          refine wpAnyH_take (i := 4) (v := .int .i64 (v : Int)) rfl (by kernel_rfl) (by kernel_rfl) (by kernel_rfl) (fun _ _ _ h => h) (Or.inl ⟨by rfl, fun w' hSw => by (try dsimp only at hSw); obtain ⟨hs0, hs1⟩ := hSw; go_simp⟩) hSx ?_
          try simp only [Act.put]
          refine wpAnyH_take (i := 5) (v := .pointer (some ⟨w.heap.size + 1, 0, none⟩)) rfl (by kernel_rfl) (by kernel_rfl) (by kernel_rfl) (fun _ _ _ h => h) (Or.inl ⟨by rfl, fun w' hSw => by (try dsimp only at hSw); obtain ⟨hs0, hs1⟩ := hSw; go_simp⟩) hSx ?_
          try simp only [Act.put]
          refine wpAnyH_take (i := 6) (v := .int .i64 (m : Int)) rfl (by kernel_rfl) (by kernel_rfl) (by kernel_rfl) (fun _ _ _ h => h) (Or.inl ⟨by rfl, fun w' hSw => by (try dsimp only at hSw); obtain ⟨hs0, hs1⟩ := hSw; go_simp⟩) hSx ?_
          try simp only [Act.put]
          refine wpAnyH_take (i := 7) (v := .int .i64 (vm : Int)) rfl (by kernel_rfl) (by kernel_rfl) (by kernel_rfl) (fun _ _ _ h => h) (Or.inl ⟨by rfl, fun w' hSw => by (try dsimp only at hSw); obtain ⟨hs0, hs1⟩ := hSw; go_simp⟩) hSx ?_
          try simp only [Act.put]
          refine wpAnyH_ready (rs := [8]) (by kernel_rfl) (by simp) ?_
          refine AllReadyH.cons rfl (fun J hJ => ?_) AllReadyH.nil
          go_simp
          refine (HTE.out wr.drew HR5.out.drew).mono ?_
          rintro e w6 ⟨x6, Z, rfl, hZ, hO, hb6⟩
          have hk6 : Kp (w.heap.size + 4) (w.heap.size + 3) wr w6 := (Kp.drew _ _ wr).trans (Kp.of hb6 (Nat.le_refl _) (by omega))
          have hr : w6.heap[w.heap.size + 2]? = _ := (hk6.at' _ (by omega) (by omega)).trans HX1.out.r
          obtain ⟨xa, xc, rfl⟩ := hO.cap
          have hZl := hZ.len
          have HO : Hid (OR w6 (w.heap.size + 4) (.slice xa Z.length xc) Z) := hO
          clear hO
          rw [hZl] at HO ⊢
          clear hZl
          have t0 : w6.cell? ⟨w.heap.size + 1 + 1, 0, none⟩ = some (.int .i64 0) := by rw [cell_of_row _ _ _ _ _ _ hr]; rfl
          have t1 : w6.cell? ⟨w.heap.size + 1 + 1, 1, none⟩ = some (.slice none 0 0) := by rw [cell_of_row _ _ _ _ _ _ hr]; rfl
          have f0 : w6.frozen? ⟨w.heap.size + 1 + 1, 0, none⟩ = false := frozen_of_row w6 _ 0 _ _ hr
          have f1 : w6.frozen? ⟨w.heap.size + 1 + 1, 1, none⟩ = false := frozen_of_row w6 _ 1 _ _ hr
          go_wp2_with fail
          refine hJ.out _ _ (HS.out _ (fun k hk => hk6.at' k (by omega) (by omega))) (fun hSx => ?_)
          clear hJ J
          try simp only [Act.put, List.setIfInBounds_toArray, List.set_cons_zero, List.set_cons_succ]
          refine wpAnyH_ready (rs := [9]) (by kernel_rfl) (by simp) ?_
          refine AllReadyH.cons rfl (fun J hJ => ?_) AllReadyH.nil
          go_simp
          refine hJ.out _ _ (HS.out _ (fun k hk => (heap_setCell_other _ ⟨w.heap.size + 2, 1, none⟩ k _ (by show k ≠ w.heap.size + 2; omega)).trans ((heap_setCell_other w6 ⟨w.heap.size + 2, 0, none⟩ k _ (by show k ≠ w.heap.size + 2; omega)).trans (hk6.at' k (by omega) (by omega))))) (fun hSx => ?_)
          clear hJ J
          try simp only [Act.put, List.setIfInBounds_toArray, List.set_cons_zero, List.set_cons_succ]
          refine wpAnyH_done (by kernel_rfl) ?_ _
          refine NoPanic.normal ?_
          go_wp2
          have hn1 := heap_setCell_same w6 (w.heap.size + 2) 0 _ _ (.int .i64 (vm : Int)) hr
          have hn2 := heap_setCell_same _ (w.heap.size + 2) 1 _ _ (.slice xa M.length xc) hn1
          exact post_d 4 Try.results35 rfl hn2 rfl ⟨_, Z, rfl, hZ, HO.out.keep (fun b hb _ => (heap_setCell_other _ ⟨w.heap.size + 2, 1, none⟩ b _ (by show b ≠ w.heap.size + 2; omega)).trans (heap_setCell_other w6 ⟨w.heap.size + 2, 0, none⟩ b _ (by show b ≠ w.heap.size + 2; omega))), ((hB.trans (hk6.lo.mono (by omega))).setCell (p := ⟨w.heap.size + 2, 0, none⟩) (by show _ ≤ w.heap.size + 2; omega) _).setCell (p := ⟨w.heap.size + 2, 1, none⟩) (by show _ ≤ w.heap.size + 2; omega) _⟩

end Go.Proofs.Ytdeofjmgjhfkcaa
