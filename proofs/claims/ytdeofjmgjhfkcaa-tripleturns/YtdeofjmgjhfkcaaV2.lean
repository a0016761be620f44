/- The walk of the document's PassesOf. -/
import Derived.Test.YtdeofjmgjhfkcaaU1
import Derived.Test.YtdeofjmgjhfkcaaB1
import Derived.Test.YtdeofjmgjhfkcaaP2
import Derived.Test.YtdeofjmgjhfkcaaU3
import Derived.Test.YtdeofjmgjhfkcaaTPa3
import Derived.Test.YtdeofjmgjhfkcaaDTo
/- The walk of the document's pasch. -/
namespace Go.Proofs.Ytdeofjmgjhfkcaa
open Go.RowKit

def qF (i j k l : Nat) : Nat → Nat
  | 0 => i
  | 1 => j
  | 2 => k
  | _ => l
def catQ (B : List (List Nat)) (q : Nat → Nat) (t : Nat) : List Nat := (List.range t).flatMap fun t => B.getD (q t) []
theorem catQ_succ (B : List (List Nat)) (q : Nat → Nat) (t : Nat) : catQ B q (t + 1) = catQ B q t ++ B.getD (q t) [] := by unfold catQ; rw [List.range_succ, List.flatMap_append]; simp
theorem catQ_four (B : List (List Nat)) (i j k l : Nat) : catQ B (qF i j k l) 4 = B.getD i [] ++ B.getD j [] ++ B.getD k [] ++ B.getD l [] := by
  rw [catQ_succ, catQ_succ, catQ_succ, catQ_succ]; rfl
theorem count_snoc (l : List Nat) (x z : Nat) : (l ++ [x]).count z = l.count z + if z = x then 1 else 0 := by
  rw [List.count_append, List.count_singleton]
  by_cases e : z = x
  · subst e; simp
  · have : ¬ x = z := fun h => e h.symm
    simp [e, this]
theorem getD_row {B : List (List Nat)} {i : Nat} {b : List Nat} (h : B[i]? = some b) : B.getD i [] = b := by rw [List.getD_eq_getElem?_getD, h]; rfl
theorem take_snoc {b : List Nat} {j : Nat} (h : j < b.length) : b.take (j + 1) = b.take j ++ [b.getD j 0] := by
  rw [List.take_add_one, List.getElem?_eq_getElem h, List.getD_eq_getElem?_getD, List.getElem?_eq_getElem h]; rfl
set_option maxRecDepth 100000 in
set_option maxHeartbeats 8000000 in
theorem pasch_any (v : Nat) (B : List (List Nat)) (i j k l fb : Nat) (u : Value) (w : World) (hv : v ≤ 40) (hi : i < B.length) (hj : j < B.length) (hk : k < B.length) (hl : l < B.length) (hb3 : ∀ b ∈ B, b.length = 3 ∧ ∀ x ∈ b, x < v) (hu : Rw w u (toZ B))
    (hf : w.cell? ⟨fb, 0, none⟩ = some (.int .i64 (i : Int)) ∧ w.cell? ⟨fb, 1, none⟩ = some (.int .i64 (j : Int)) ∧ w.cell? ⟨fb, 2, none⟩ = some (.int .i64 (k : Int)) ∧ w.cell? ⟨fb, 3, none⟩ = some (.int .i64 (l : Int))) :
    Calls Try.prog 39 #[.agg #[.int .i64 (v : Int), u], .slice (some ⟨fb, 0, none⟩) 4 4] w fun e w' => e = .returned (.bool (paB v B i j k l)) ∧ Below w.heap.size w w' := by
  obtain ⟨a, c, rfl, hD⟩ := drow_of hu
  have HRO : Hid (∀ i, i < B.length → _) := fun i hi => rows3 (fun b hb => ⟨(hb3 b hb).1, fun x hx => by have := (hb3 b hb).2 x hx; omega⟩) hD i hi
  have HB3 : Hid (∀ (i : Nat) (b : List Nat), B[i]? = some b → b.length = 3 ∧ ∀ j, j < 3 → b.getD j 0 < v) := fun i b h => by
    obtain ⟨h3, hl⟩ := hb3 b (List.mem_of_getElem? h)
    exact ⟨h3, fun j hj => hl _ (getD_mem' (by omega))⟩
  have HF : Hid (∀ t, t < 4 → qF i j k l t < B.length ∧ ∀ W, Below w.heap.size w W → W.cell? ⟨fb, t, none⟩ = some (.int .i64 (qF i j k l t : Int))) := fun t ht => by
    obtain ⟨f0, f1, f2, f3⟩ := hf
    match t, ht with
    | 0, _ => exact ⟨hi, fun W b => (b.cell (World.block_lt_of_cell? _ _ f0)).trans f0⟩
    | 1, _ => exact ⟨hj, fun W b => (b.cell (World.block_lt_of_cell? _ _ f1)).trans f1⟩
    | 2, _ => exact ⟨hk, fun W b => (b.cell (World.block_lt_of_cell? _ _ f2)).trans f2⟩
    | 3, _ => exact ⟨hl, fun W b => (b.cell (World.block_lt_of_cell? _ _ f3)).trans f3⟩
  have HRES : Hid (∀ q : Bool, q = ((List.range v).all fun z => (catQ B (qF i j k l) 4).count z == 0 || (catQ B (qF i j k l) 4).count z == 2) → paB v B i j k l = q) := fun q e => by rw [e, catQ_four]; rfl
  have HC : Hid (∀ W, Below (w.heap.size + 1) (w.alloc (.cells #[.int .i64 (v : Int), .slice a B.length c] 24)) W → W.cell? ⟨w.heap.size, 0, none⟩ = some (.int .i64 (v : Int)) ∧ W.cell? ⟨w.heap.size, 1, none⟩ = some (.slice a B.length c)) := fun W b => des_box v _ w W (by rw [World.size_alloc]; exact b)
  have HBW : Hid (∀ W, Below (w.heap.size + 1) (w.alloc (.cells #[.int .i64 (v : Int), .slice a B.length c] 24)) W → Below w.heap.size w W) := fun W b => (balloc w _).trans (b.mono (by omega))
  have hmk := run_mkI v (by omega)
  have hO0 := own_mk (w.alloc (.cells #[.int .i64 (v : Int), .slice a B.length c] 24)) v
  rw [World.size_alloc] at hO0
  have HO0 : Hid (Own ((w.alloc (.cells #[.int .i64 (v : Int), .slice a B.length c] 24)).alloc (.cells (madeCells #[.int .i64 0] v) 3)) (w.heap.size + 1) v (fun z => (((catQ B (qF i j k l) 0).count z : Nat) : Int))) := hO0.congr fun z _ => rfl
  have HB0 : Hid (Below (w.heap.size + 1) (w.alloc (.cells #[.int .i64 (v : Int), .slice a B.length c] 24)) ((w.alloc (.cells #[.int .i64 (v : Int), .slice a B.length c] 24)).alloc (.cells (madeCells #[.int .i64 0] v) 3))) := (balloc _ _).mono (by simp)
  have HQS : Hid (∀ t, catQ B (qF i j k l) (t + 1) = catQ B (qF i j k l) t ++ B.getD (qF i j k l t) []) := catQ_succ B _
  have HCL : Hid (∀ t z, (catQ B (qF i j k l) t).count z ≤ (catQ B (qF i j k l) t).length) := fun t z => List.count_le_length
  generalize hQ : qF i j k l = Q at *
  obtain ⟨PB, HPB⟩ : ∃ PB, Hid (paB v B i j k l = PB) := ⟨_, rfl⟩
  rw [HPB.out] at HRES ⊢
  generalize hBn : B.length = n at *
  obtain ⟨x0, x1⟩ := HC.out _ (Below.refl _ _)
  clear hu hD hb3 hf hi hj hk hl hO0 HPB hQ
  go_enter Try.func39, Try.ntmps39
  go_wp2
  go_loopw [6] (fun tv wr => ∃ (t : Nat), tv = .int .i64 (t : Int) ∧ t ≤ 4 ∧ Hid ((catQ B Q t).length = 3 * t) ∧ Own wr (w.heap.size + 1) v (fun z => (((catQ B Q t).count z : Nat) : Int)) ∧ Below (w.heap.size + 1) (w.alloc (.cells #[.int .i64 (v : Int), .slice a n c] 24)) wr) (fun tv _ => (4 - intOf tv).toNat)
  case atStart => exact ⟨0, rfl, by omega, rfl, HO0.out, HB0.out⟩
  case round =>
    clear HO0 HB0 x0 x1 hmk
    obtain ⟨t, rfl, ht, HTL, hO, hB⟩ := hrel
    by_cases hlt : t < 4
    · have hdi : decide ((t : Int) < 4) = true := by simp; omega
      have hii : (t : Int) < 4 := by omega
      obtain ⟨hqn, hqc⟩ := HF.out t hlt
      obtain ⟨b, bb, off, bq, oq, uc, hbi, hb99, rfl, hrow⟩ := HRO.out (Q t) hqn
      obtain ⟨hb3, hlv⟩ := HB3.out (Q t) b hbi
      have HLV : Hid (∀ j, j < 3 → b.getD j 0 < v) := hlv
      have HRW : Hid (∀ W, Below w.heap.size w W → W.cell? ⟨bb, off + Q t, none⟩ = some (.slice (some ⟨bq, oq, none⟩) 3 uc) ∧ ∀ j, j < 3 → W.cell? ⟨bq, oq + j, none⟩ = some (.int .i64 ((b.getD j 0 : Nat) : Int))) := hrow
      have HQC : Hid (∀ W, Below w.heap.size w W → W.cell? ⟨fb, t, none⟩ = some (.int .i64 (Q t : Int))) := hqc
      have hqs := HQS.out t
      rw [getD_row hbi] at hqs
      have HNX : Hid (catQ B Q (t + 1) = catQ B Q t ++ b.take 3) := by show _ = _; rw [hqs, ← hb3, List.take_length]
      have HTK : Hid (∀ j, j < 3 → b.take (j + 1) = b.take j ++ [b.getD j 0]) := fun j hj => take_snoc (by omega)
      have HTN : Hid ((catQ B Q (t + 1)).length = 3 * (t + 1)) := by show _ = _; rw [hqs, List.length_append, HTL.out, hb3]; omega
      have HO1 : Hid (Own wr (w.heap.size + 1) v (fun z => (((catQ B Q t ++ b.take 0).count z : Nat) : Int))) := by show Own _ _ _ _; simpa using hO
      have HB1 : Hid (Below (w.heap.size + 1) (w.alloc (.cells #[.int .i64 (v : Int), .slice (some ⟨bb, off, none⟩) n c] 24)) wr) := hB
      generalize hqt : Q t = qt at *
      obtain ⟨cq, Hcq⟩ : ∃ cq, Hid (catQ B Q t = cq) := ⟨_, rfl⟩
      rw [Hcq.out] at HNX HO1 HTL
      have nq : ¬ (n : Int) ≤ (qt : Int) := by omega
      clear hO hB hqs hrow hbi hb99 hlv hqc hqt
      go_wp2
      go_loopw [7] (fun jv wr => ∃ (j : Nat), jv = .int .i64 (j : Int) ∧ j ≤ 3 ∧ Own wr (w.heap.size + 1) v (fun z => (((cq ++ b.take j).count z : Nat) : Int)) ∧ Below (w.heap.size + 1) (w.alloc (.cells #[.int .i64 (v : Int), .slice (some ⟨bb, off, none⟩) n c] 24)) wr) (fun jv _ => (3 - intOf jv).toNat)
      case atStart => exact ⟨0, rfl, by omega, HO1.out, HB1.out⟩
      case round =>
        clear HO1 HB1
        obtain ⟨j, rfl, hj, hO, hB⟩ := hrel
        obtain ⟨y0, y1⟩ := HC.out _ hB
        by_cases hlj : j < 3
        · have hdk : decide ((j : Int) < 3) = true := by simp; omega
          have hki : (j : Int) < 3 := by omega
          have hbw := HBW.out wr hB
          have q0 := HQC.out wr hbw
          obtain ⟨q1, q2⟩ := HRW.out wr hbw
          replace q2 := q2 j hlj
          have lx := HLV.out j hlj
          have htk := HTK.out j hlj
          have hcl : (cq ++ b.take j).count (b.getD j 0) ≤ 99 := Nat.le_trans List.count_le_length (by rw [List.length_append, HTL.out, List.length_take]; omega)
          have HSE : Hid (∀ W : World, W.heap = wr.heap → Own (W.setCell ⟨w.heap.size + 1, b.getD j 0, none⟩ (.int .i64 (((cq ++ b.take j).count (b.getD j 0) : Nat) + 1 : Int))) (w.heap.size + 1) v (fun z => (((cq ++ b.take (j + 1)).count z : Nat) : Int))) := fun W hW => by
            have hOW : Own W (w.heap.size + 1) v (fun z => (((cq ++ b.take j).count z : Nat) : Int)) := by
              obtain ⟨cc, k1, k2⟩ := hO
              exact ⟨cc, (congrArg (·[w.heap.size + 1]?) hW).trans k1, k2⟩
            refine (hOW.set (b.getD j 0) _).congr fun z hz => ?_
            rw [htk, ← List.append_assoc, count_snoc]
            unfold upd
            by_cases e : z = b.getD j 0
            · rw [if_pos e, if_pos e, e]; rfl
            · rw [if_neg e, if_neg e]; rfl
          have c0 := hO.cell (b.getD j 0) lx
          have f0 := hO.frozen (b.getD j 0)
          generalize (cq ++ b.take j).count (b.getD j 0) = cc at *
          generalize b.getD j 0 = x at *
          clear htk hO hbw
          go_wp2
          go_region
          all_goals
            go_wp2
            go_roundw
            case rel => exact ⟨j + 1, by go_num, by omega, HSE.out _ rfl, (hB.trans (c := wr.drewN _) ⟨rfl, rfl, rfl, Nat.le_refl _, fun _ _ => rfl⟩).setCell (p := ⟨w.heap.size + 1, x, none⟩) (Nat.le_refl _) _⟩
            case measure => simp [intOf]; omega
        · have hdk : decide ((j : Int) < 3) = false := by simp; omega
          obtain rfl : j = 3 := by omega
          rw [← HNX.out] at hO
          go_wp2
          go_roundw
          case rel => exact ⟨t + 1, by go_num, by omega, HTN, hO, hB⟩
          case measure => simp [intOf]; omega
    · have hdi : decide ((t : Int) < 4) = false := by simp; omega
      obtain rfl : t = 4 := by omega
      obtain ⟨cq, Hcq⟩ : ∃ cq, Hid (catQ B Q 4 = cq) := ⟨_, rfl⟩
      rw [Hcq.out] at hO HTL HRES
      have HO1 : Hid (Own wr (w.heap.size + 1) v (fun z => ((cq.count z : Nat) : Int))) := hO
      have HB1 : Hid (Below (w.heap.size + 1) (w.alloc (.cells #[.int .i64 (v : Int), .slice a n c] 24)) wr) := hB
      clear hO hB
      go_wp2
      go_loopw [8] (fun zv wr => ∃ (z : Nat), zv = .int .i64 (z : Int) ∧ z ≤ v ∧ Hid (∀ y, y < z → (cq.count y == 0 || cq.count y == 2) = true) ∧ Own wr (w.heap.size + 1) v (fun z => ((cq.count z : Nat) : Int)) ∧ Below (w.heap.size + 1) (w.alloc (.cells #[.int .i64 (v : Int), .slice a n c] 24)) wr) (fun zv _ => (v - intOf zv).toNat)
      case atStart => exact ⟨0, rfl, by omega, fun y hy => by omega, HO1.out, HB1.out⟩
      case round =>
        clear HO1 HB1
        obtain ⟨z, rfl, hz, HA, hO, hB⟩ := hrel
        obtain ⟨y0, y1⟩ := HC.out _ hB
        by_cases hlz : z < v
        · have hdz : decide ((z : Int) < (v : Int)) = true := by simp; omega
          have hzi : (z : Int) < (v : Int) := by omega
          have c0 := hO.cell z hlz
          have hno : ¬ (cq.count z = 0 ∨ cq.count z = 2) → PB = false := fun h => HRES.out false (by
            symm
            rw [List.all_eq_false]
            exact ⟨z, List.mem_range.2 hlz, by simpa using h⟩)
          have hyes : (cq.count z = 0 ∨ cq.count z = 2) → Hid (∀ y, y < z + 1 → (cq.count y == 0 || cq.count y == 2) = true) := fun h y hy => by
            by_cases e : y = z
            · subst e; simpa using h
            · exact HA.out y (by omega)
          generalize cq.count z = cc at *
          by_cases e0 : cc = 0
          · have HY := hyes (.inl e0)
            have d0 : ((cc : Int) != 0) = false := by simp; omega
            clear hyes hno e0
            go_wp2
            go_roundw
            case rel => exact ⟨z + 1, by go_num, by omega, HY, hO, hB⟩
            case measure => simp [intOf]; omega
          · have d0 : ((cc : Int) != 0) = true := by simp; omega
            have n0 : ¬ (cc : Int) = 0 := by omega
            by_cases e2 : cc = 2
            · have HY := hyes (.inr e2)
              have d2 : ((cc : Int) != 2) = false := by simp; omega
              clear hyes hno e2
              go_wp2
              go_roundw
              case rel => exact ⟨z + 1, by go_num, by omega, HY, hO, hB⟩
              case measure => simp [intOf]; omega
            · have d2 : ((cc : Int) != 2) = true := by simp; omega
              have n2 : ¬ (cc : Int) = 2 := by omega
              have hP := hno (by omega)
              clear hyes hno
              go_wp2
              go_ret
              exact ⟨by rw [hP]; rfl, HBW.out wr hB⟩
        · have hdz : decide ((z : Int) < (v : Int)) = false := by simp; omega
          have hP : PB = true := HRES.out true (by
            symm
            rw [List.all_eq_true]
            exact fun y hy => HA.out y (by have := List.mem_range.1 hy; omega))
          go_wp2
          go_ret
          exact ⟨by rw [hP]; rfl, HBW.out wr hB⟩

end Go.Proofs.Ytdeofjmgjhfkcaa

namespace Go.Proofs.Ytdeofjmgjhfkcaa
open Go.RowKit

theorem pD3_succ (v : Nat) (B : List (List Nat)) (i j k m : Nat) : pD3 v B i j k (m + 1) = pD3 v B i j k m + if k < m ∧ paB v B i j k m = true then 1 else 0 := sm_succ m _
theorem pD2_succ (v : Nat) (B : List (List Nat)) (i j m : Nat) : pD2 v B i j (m + 1) = pD2 v B i j m + if j < m ∧ mt (B.getD i []) (B.getD m []) = 1 ∧ mt (B.getD j []) (B.getD m []) = 1 then pD3 v B i j m B.length else 0 := sm_succ m _
theorem pD1_succ (v : Nat) (B : List (List Nat)) (i m : Nat) : pD1 v B i (m + 1) = pD1 v B i m + if i < m ∧ mt (B.getD i []) (B.getD m []) = 1 then pD2 v B i m B.length else 0 := sm_succ m _
theorem pD0_succ (v : Nat) (B : List (List Nat)) (m : Nat) : pD0 v B (m + 1) = pD0 v B m + pD1 v B m B.length := sm_succ m _
theorem pD3_le (v : Nat) (B : List (List Nat)) (i j k m : Nat) (h : m ≤ 200) : pD3 v B i j k m ≤ 200 := Nat.le_trans (sm_le (c := 1) fun i _ => by split <;> omega) (by omega)
theorem pD2_le (v : Nat) (B : List (List Nat)) (i j m : Nat) (hB : B.length ≤ 200) (h : m ≤ 200) : pD2 v B i j m ≤ 40000 := Nat.le_trans (sm_le (c := 200) fun i _ => by split; exact pD3_le _ _ _ _ _ _ hB; omega) (by omega)
theorem pD1_le (v : Nat) (B : List (List Nat)) (i m : Nat) (hB : B.length ≤ 200) (h : m ≤ 200) : pD1 v B i m ≤ 8000000 := Nat.le_trans (sm_le (c := 40000) fun i _ => by split; exact pD2_le _ _ _ _ _ hB hB; omega) (by omega)
theorem pD0_le (v : Nat) (B : List (List Nat)) (m : Nat) (hB : B.length ≤ 200) (h : m ≤ 200) : pD0 v B m ≤ 1600000000 := Nat.le_trans (sm_le (c := 8000000) fun i _ => pD1_le _ _ _ _ hB hB) (by omega)
theorem pD3_zero (v : Nat) (B : List (List Nat)) (i j k : Nat) : pD3 v B i j k (k + 1) = 0 := sm_zero fun l hl => if_neg (by omega)
theorem pD2_zero (v : Nat) (B : List (List Nat)) (i j : Nat) : pD2 v B i j (j + 1) = 0 := sm_zero fun l hl => if_neg (by omega)
theorem pD1_zero (v : Nat) (B : List (List Nat)) (i : Nat) : pD1 v B i (i + 1) = 0 := sm_zero fun l hl => if_neg (by omega)
theorem getD_bl {B : List (List Nat)} {t : Nat} (h : t < B.length) : B.getD t [] ∈ B := by rw [List.getD_eq_getElem?_getD, List.getElem?_eq_getElem h]; exact List.getElem_mem h
theorem four_box (a b c d : Value) (w : World) : (w.alloc (.cells #[a, b, c, d] 3)).cell? ⟨w.heap.size, 0, none⟩ = some a ∧ (w.alloc (.cells #[a, b, c, d] 3)).cell? ⟨w.heap.size, 1, none⟩ = some b ∧ (w.alloc (.cells #[a, b, c, d] 3)).cell? ⟨w.heap.size, 2, none⟩ = some c ∧ (w.alloc (.cells #[a, b, c, d] 3)).cell? ⟨w.heap.size, 3, none⟩ = some d := by
  have k1 := heap_alloc_new w (.cells #[a, b, c, d] 3)
  exact ⟨by rw [cell_of_row _ _ _ _ _ _ k1]; rfl, by rw [cell_of_row _ _ _ _ _ _ k1]; rfl, by rw [cell_of_row _ _ _ _ _ _ k1]; rfl, by rw [cell_of_row _ _ _ _ _ _ k1]; rfl⟩
theorem row_at {w : World} {ab ao : Nat} {B : List (List Nat)} (h3 : ∀ b ∈ B, b.length = 3) (h : DRow w (some ⟨ab, ao, none⟩) B) (t : Nat) (ht : t < B.length) :
    ∃ ra rc, ∀ W, Below w.heap.size w W → W.cell? ⟨ab, ao + t, none⟩ = some (.slice ra 3 rc) ∧ Sl W (.slice ra 3 rc) ((B.getD t []).map Int.ofNat) := by
  obtain ⟨bb, off, ua, uc, e, hW⟩ := h t (B.getD t []) (by rw [List.getD_eq_getElem?_getD, List.getElem?_eq_getElem ht]; rfl)
  cases e
  rw [h3 _ (getD_bl ht)] at hW
  exact ⟨ua, uc, hW⟩
set_option maxRecDepth 100000 in
set_option maxHeartbeats 16000000 in
theorem PassesOf_any (v : Nat) (B : List (List Nat)) (u : Value) (w : World) (hv : v ≤ 40) (h200 : B.length ≤ 200) (hb3 : ∀ b ∈ B, b.length = 3 ∧ ∀ x ∈ b, x < v) (hu : Rw w u (toZ B)) :
    Calls Try.prog 19 #[.agg #[.int .i64 (v : Int), u]] w fun e w' => e = .returned (.int .i64 ((pD0 v B B.length : Nat) : Int)) ∧ Below w.heap.size w w' := by
  have HPC : Hid (∀ (i j k l fb : Nat) (W : World), Below w.heap.size w W → i < B.length → j < B.length → k < B.length → l < B.length → (W.cell? ⟨fb, 0, none⟩ = some (.int .i64 (i : Int)) ∧ W.cell? ⟨fb, 1, none⟩ = some (.int .i64 (j : Int)) ∧ W.cell? ⟨fb, 2, none⟩ = some (.int .i64 (k : Int)) ∧ W.cell? ⟨fb, 3, none⟩ = some (.int .i64 (l : Int))) →
      Calls Try.prog 39 #[.agg #[.int .i64 (v : Int), u], .slice (some ⟨fb, 0, none⟩) 4 4] W fun e w' => e = .returned (.bool (paB v B i j k l)) ∧ Below W.heap.size W w') := fun i j k l fb W hW hi hj hk hl hf => pasch_any v B i j k l fb u W hv hi hj hk hl hb3 (hu.below hW) hf
  have HC : Hid (∀ W, Below (w.alloc (.cells #[.int .i64 (v : Int), u] 24)).heap.size (w.alloc (.cells #[.int .i64 (v : Int), u] 24)) W → W.cell? ⟨w.heap.size, 0, none⟩ = some (.int .i64 (v : Int)) ∧ W.cell? ⟨w.heap.size, 1, none⟩ = some u) := fun W b => des_box v _ w W b
  have HB0 : Hid (Below w.heap.size w (w.alloc (.cells #[.int .i64 (v : Int), u] 24))) := balloc w _
  obtain ⟨a, c, rfl, hD⟩ := drow_of hu
  have HD : Hid (DRow w a B) := hD
  have HRA : Hid (∀ (w : World) (ab ao : Nat), DRow w (some ⟨ab, ao, none⟩) B → ∀ t, t < B.length → ∃ ra rc, ∀ W, Below w.heap.size w W → W.cell? ⟨ab, ao + t, none⟩ = some (.slice ra 3 rc) ∧ Sl W (.slice ra 3 rc) ((B.getD t []).map Int.ofNat)) := fun w ab ao h t ht => row_at (fun b hb => (hb3 b hb).1) h t ht
  have HL3 : Hid (∀ t, t < B.length → (B.getD t []).length = 3) := fun t ht => (hb3 _ (getD_bl ht)).1
  have HAT : Hid (∀ i, i < B.length → ∃ b, B[i]? = some b) := fun i hi => ⟨_, List.getElem?_eq_getElem hi⟩
  have S0 : Hid (∀ m, pD0 v B (m + 1) = pD0 v B m + pD1 v B m B.length) := pD0_succ v B
  have S1 : Hid (∀ i m, pD1 v B i (m + 1) = pD1 v B i m + if i < m ∧ mt (B.getD i []) (B.getD m []) = 1 then pD2 v B i m B.length else 0) := pD1_succ v B
  have S2 : Hid (∀ i j m, pD2 v B i j (m + 1) = pD2 v B i j m + if j < m ∧ mt (B.getD i []) (B.getD m []) = 1 ∧ mt (B.getD j []) (B.getD m []) = 1 then pD3 v B i j m B.length else 0) := pD2_succ v B
  have S3 : Hid (∀ i j k m, pD3 v B i j k (m + 1) = pD3 v B i j k m + if k < m ∧ paB v B i j k m = true then 1 else 0) := pD3_succ v B
  have Z1 : Hid (∀ i, pD1 v B i (i + 1) = 0) := pD1_zero v B
  have Z2 : Hid (∀ i j, pD2 v B i j (j + 1) = 0) := pD2_zero v B
  have Z3 : Hid (∀ i j k, pD3 v B i j k (k + 1) = 0) := pD3_zero v B
  have M0 : Hid (∀ m, m ≤ 200 → pD0 v B m ≤ 1600000000) := fun m hm => pD0_le v B m h200 hm
  have M1 : Hid (∀ i m, m ≤ 200 → pD1 v B i m ≤ 8000000) := fun i m hm => pD1_le v B i m h200 hm
  have M2 : Hid (∀ i j m, m ≤ 200 → pD2 v B i j m ≤ 40000) := fun i j m hm => pD2_le v B i j m h200 hm
  have M3 : Hid (∀ i j k m, m ≤ 200 → pD3 v B i j k m ≤ 200) := fun i j k m hm => pD3_le v B i j k m hm
  have Z0 : Hid (pD0 v B 0 = 0) := rfl
  have HTG : Hid (∀ (b c : List Nat) (x y : Value) (W : World), Sl W x (b.map Int.ofNat) → Sl W y (c.map Int.ofNat) → b.length = 3 → c.length = 3 → Calls Try.prog 25 #[x, y] W fun e w' => e = .returned (.int .i64 ((mt b c : Nat) : Int)) ∧ w' = W) := fun b c x y W h1 h2 h3 h4 => Together_any b c x y W h1 h2 (by omega) (by omega)
  have HMT : Hid (∀ b c : List Nat, b.length = 3 → mt b c ≤ 3) := fun b c h => by
    have := List.countP_le_length (p := fun x => c.contains x) (l := b)
    unfold mt; omega
  obtain ⟨R, HR⟩ : ∃ R, Hid (pD0 v B B.length = R) := ⟨_, rfl⟩
  rw [HR.out]
  generalize hBn : B.length = n at *
  obtain ⟨w0, Hw0⟩ : ∃ w0, Hid (w0 = w.alloc (.cells #[.int .i64 (v : Int), .slice a n c] 24)) := ⟨_, rfl⟩
  rw [← Hw0.out] at HC HB0
  have HW0 : Hid (Below w0.heap.size w0 w0) := Below.refl _ _
  obtain ⟨x0, x1⟩ := HC.out _ (Below.refl _ _)
  have HX : Hid ((w.alloc (.cells #[.int .i64 (v : Int), .slice a n c] 24)).cell? ⟨w.heap.size, 1, none⟩ = some (.slice a n c)) := by show _ = _; rw [← Hw0.out]; exact x1
  have x2 := HX.out
  clear hu hD hb3 hBn
  go_enter Try.func19, Try.ntmps19
  go_wp2
  rw [← Hw0.out]
  clear x2 HX x0 x1
  go_loopw [3, 5] (fun mv iv wr => ∃ (i m : Nat), iv = .int .i64 (i : Int) ∧ mv = .int .i64 (m : Int) ∧ i ≤ n ∧ Hid (pD0 v B i = m) ∧ Below w0.heap.size w0 wr) (fun _ iv _ => (n - intOf iv).toNat)
  case atStart => exact ⟨0, 0, rfl, rfl, by omega, Z0, HW0.out⟩
  case round =>
    clear HW0
    obtain ⟨i, m, rfl, rfl, hi, HM, hB⟩ := hrel
    by_cases hlt : i < n
    · have hdi : decide ((i : Int) < (n : Int)) = true := by simp; omega
      have hii : (i : Int) < (n : Int) := by omega
      obtain ⟨b, hbi⟩ := HAT.out i hlt
      obtain ⟨ab, ao, _, _, rfl, _⟩ := HD.out i b hbi
      have HRW : Hid (∀ t, t < n → ∃ ra rc, ∀ W, Below w0.heap.size w0 W → W.cell? ⟨ab, ao + t, none⟩ = some (.slice ra 3 rc) ∧ Sl W (.slice ra 3 rc) ((B.getD t []).map Int.ofNat)) := fun t ht => by
        obtain ⟨ra, rc, h⟩ := HRA.out w ab ao HD.out t ht
        exact ⟨ra, rc, fun W hW => h W (Below.next HB0.out hW)⟩
      have hm1 : m ≤ 1600000000 := by rw [← HM.out]; exact M0.out i (by omega)
      have hs0 := S0.out i
      rw [HM.out] at hs0
      have HN0 : Hid (pD0 v B (i + 1) = m + pD1 v B i n) := hs0
      have HBI : Hid (Below w0.heap.size w0 wr) := hB
      clear hs0 HM hB hbi HD HRA HAT
      go_wp2
      go_loopw [3, 6] (fun mv jv wr => ∃ (j q : Nat), jv = .int .i64 (j : Int) ∧ mv = .int .i64 ((m + q : Nat) : Int) ∧ i + 1 ≤ j ∧ j ≤ n ∧ Hid (pD1 v B i j = q) ∧ Below w0.heap.size w0 wr) (fun _ jv _ => (n - intOf jv).toNat)
      case atStart => exact ⟨i + 1, 0, by go_num, rfl, by omega, by omega, Z1.out i, HBI.out⟩
      case round =>
        clear HBI
        obtain ⟨j, q, rfl, rfl, hij, hj, HQ, hB⟩ := hrel
        by_cases hlj : j < n
        · have hdj : decide ((j : Int) < (n : Int)) = true := by simp; omega
          have hji : (j : Int) < (n : Int) := by omega
          have hni : ¬ (n : Int) ≤ (i : Int) := by omega
          have hnj : ¬ (n : Int) ≤ (j : Int) := by omega
          have hq1 : q ≤ 8000000 := by rw [← HQ.out]; exact M1.out i j (by omega)
          have hs1 := S1.out i j
          rw [HQ.out] at hs1
          obtain ⟨ra, rc, hra⟩ := HRW.out i hlt
          obtain ⟨rb, rd, hrb⟩ := HRW.out j hlj
          have HRI : Hid (∀ W, Below w0.heap.size w0 W → W.cell? ⟨ab, ao + i, none⟩ = some (.slice ra 3 rc) ∧ Sl W (.slice ra 3 rc) ((B.getD i []).map Int.ofNat)) := hra
          have HRJ : Hid (∀ W, Below w0.heap.size w0 W → W.cell? ⟨ab, ao + j, none⟩ = some (.slice rb 3 rd) ∧ Sl W (.slice rb 3 rd) ((B.getD j []).map Int.ofNat)) := hrb
          have HL : Hid (∀ W, Below w0.heap.size w0 W → Below w0.heap.size w0 W.drew) := fun W h => h.drew
          have HTC : Hid (∀ W, Below w0.heap.size w0 W → Calls Try.prog 25 #[.slice ra 3 rc, .slice rb 3 rd] W fun e w' => e = .returned (.int .i64 ((mt (B.getD i []) (B.getD j []) : Nat) : Int)) ∧ w' = W) := fun W hW => HTG.out _ _ _ _ W (HRI.out W hW).2 (HRJ.out W hW).2 (HL3.out i hlt) (HL3.out j hlj)
          have HS : Hid (∀ W', Below w0.heap.size w0 W' → W'.cell? ⟨w.heap.size, 1, none⟩ = some (.slice (some ⟨ab, ao, none⟩) n c) ∧ W'.cell? ⟨ab, ao + i, none⟩ = some (.slice ra 3 rc) ∧ W'.cell? ⟨ab, ao + j, none⟩ = some (.slice rb 3 rd)) := fun W' h => ⟨(HC.out W' h).2, (HRI.out W' h).1, (HRJ.out W' h).1⟩
          have HBD : Hid (Below w0.heap.size w0 wr.drew) := hB.drew
          have hmt := HMT.out (B.getD i []) (B.getD j []) (HL3.out i hlt)
          have HM1 : Hid (mt (B.getD i []) (B.getD j []) = mt (B.getD i []) (B.getD j [])) := rfl
          generalize hmm : mt (B.getD i []) (B.getD j []) = mm at *
          clear HQ hra hrb hB HM1 hmm
          by_cases h1 : mm = 1
          · subst h1
            rw [if_pos ⟨hij, rfl⟩] at hs1
            have HN1 : Hid (pD1 v B i (j + 1) = q + pD2 v B i j n) := hs1
            clear hs1 hmt
            go_wp2
            refine wp_region_noPanic ?_
            refine wp_region_held_drew (S := fun w' => w'.cell? ⟨w.heap.size, 1, none⟩ = some (.slice (some ⟨ab, ao, none⟩) n c) ∧ w'.cell? ⟨ab, ao + i, none⟩ = some (.slice ra 3 rc) ∧ w'.cell? ⟨ab, ao + j, none⟩ = some (.slice rb 3 rd)) (by kernel_rfl) (HS.out _ HBD.out) (fun hSx => ?_)
            refine wpAnyH_take (i := 0) (v := .pointer (some ⟨w.heap.size, 1, none⟩)) rfl (by kernel_rfl) (by kernel_rfl) (by kernel_rfl) (fun _ _ _ h => h) (Or.inl ⟨by rfl, fun w' hSw => by (try dsimp only at hSw); obtain ⟨hs0, hs1, hs2⟩ := hSw; go_simp⟩) hSx ?_
            try simp only [Act.put, List.setIfInBounds_toArray]
            refine wpAnyH_take (i := 1) (v := .slice (some ⟨ab, ao, none⟩) n c) rfl (by kernel_rfl) (by kernel_rfl) (by kernel_rfl) (fun _ _ _ h => h) (Or.inl ⟨by rfl, fun w' hSw => by (try dsimp only at hSw); obtain ⟨hs0, hs1, hs2⟩ := hSw; go_simp⟩) hSx ?_
            try simp only [Act.put]
            refine wpAnyH_take (i := 2) (v := .int .i64 (i : Int)) rfl (by kernel_rfl) (by kernel_rfl) (by kernel_rfl) (fun _ _ _ h => h) (Or.inl ⟨by rfl, fun w' hSw => by (try dsimp only at hSw); obtain ⟨hs0, hs1, hs2⟩ := hSw; go_simp⟩) hSx ?_
            try simp only [Act.put]
            refine wpAnyH_take (i := 3) (v := .pointer (some ⟨ab, ao + i, none⟩)) rfl (by kernel_rfl) (by kernel_rfl) (by kernel_rfl) (fun _ _ _ h => h) (Or.inl ⟨by rfl, fun w' hSw => by (try dsimp only at hSw); obtain ⟨hs0, hs1, hs2⟩ := hSw; go_simp⟩) hSx ?_
            try simp only [Act.put]
            refine wpAnyH_take (i := 4) (v := .slice ra 3 rc) rfl (by kernel_rfl) (by kernel_rfl) (by kernel_rfl) (fun _ _ _ h => h) (Or.inl ⟨by rfl, fun w' hSw => by (try dsimp only at hSw); obtain ⟨hs0, hs1, hs2⟩ := hSw; go_simp⟩) hSx ?_
            try simp only [Act.put]
            refine wpAnyH_take (i := 5) (v := .pointer (some ⟨w.heap.size, 1, none⟩)) rfl (by kernel_rfl) (by kernel_rfl) (by kernel_rfl) (fun _ _ _ h => h) (Or.inl ⟨by rfl, fun w' hSw => by (try dsimp only at hSw); obtain ⟨hs0, hs1, hs2⟩ := hSw; go_simp⟩) hSx ?_
            try simp only [Act.put]
            refine wpAnyH_take (i := 6) (v := .slice (some ⟨ab, ao, none⟩) n c) rfl (by kernel_rfl) (by kernel_rfl) (by kernel_rfl) (fun _ _ _ h => h) (Or.inl ⟨by rfl, fun w' hSw => by (try dsimp only at hSw); obtain ⟨hs0, hs1, hs2⟩ := hSw; go_simp⟩) hSx ?_
            try simp only [Act.put]
            refine wpAnyH_take (i := 7) (v := .int .i64 (j : Int)) rfl (by kernel_rfl) (by kernel_rfl) (by kernel_rfl) (fun _ _ _ h => h) (Or.inl ⟨by rfl, fun w' hSw => by (try dsimp only at hSw); obtain ⟨hs0, hs1, hs2⟩ := hSw; go_simp⟩) hSx ?_
            try simp only [Act.put]
            refine wpAnyH_take (i := 8) (v := .pointer (some ⟨ab, ao + j, none⟩)) rfl (by kernel_rfl) (by kernel_rfl) (by kernel_rfl) (fun _ _ _ h => h) (Or.inl ⟨by rfl, fun w' hSw => by (try dsimp only at hSw); obtain ⟨hs0, hs1, hs2⟩ := hSw; go_simp⟩) hSx ?_
            try simp only [Act.put]
            refine wpAnyH_take (i := 9) (v := .slice rb 3 rd) rfl (by kernel_rfl) (by kernel_rfl) (by kernel_rfl) (fun _ _ _ h => h) (Or.inl ⟨by rfl, fun w' hSw => by (try dsimp only at hSw); obtain ⟨hs0, hs1, hs2⟩ := hSw; go_simp⟩) hSx ?_
            try simp only [Act.put]
            refine wpAnyH_ready (rs := [10]) (by kernel_rfl) (by simp) ?_
            refine AllReadyH.cons rfl (fun J hJ => ?_) AllReadyH.nil
            go_simp
            refine (HTC.out _ HBD.out).mono ?_
            rintro e v1 ⟨rfl, hw⟩
            replace hw := hw.symm
            subst hw
            go_wp2_with fail
            refine hJ.out _ _ (HS.out _ HBD.out) (fun hSx => ?_)
            clear hJ J
            try simp only [Act.put, List.setIfInBounds_toArray, List.set_cons_zero, List.set_cons_succ]
            refine wpAnyH_take (i := 11) (v := .int .i64 1) rfl (by kernel_rfl) (by kernel_rfl) (by kernel_rfl) (fun _ _ _ h => h) (Or.inl ⟨by rfl, fun w' hSw => by (try dsimp only at hSw); obtain ⟨hs0, hs1, hs2⟩ := hSw; go_simp⟩) hSx ?_
            try simp only [Act.put, List.setIfInBounds_toArray]
            refine wpAnyH_done (by kernel_rfl) ?_ _
            refine NoPanic.normal ?_
            clear hSx
            clear HTC HS
            go_wp2
            go_loopw [3, 8] (fun mv kv wr => ∃ (k t : Nat), kv = .int .i64 (k : Int) ∧ mv = .int .i64 ((m + q + t : Nat) : Int) ∧ j + 1 ≤ k ∧ k ≤ n ∧ Hid (pD2 v B i j k = t) ∧ Below w0.heap.size w0 wr) (fun _ kv _ => (n - intOf kv).toNat)
            case atStart => exact ⟨j + 1, 0, by go_num, rfl, by omega, by omega, Z2.out i j, HBD.out⟩
            case round =>
              clear HBD
              obtain ⟨k, t, rfl, rfl, hjk, hk, HT, hB⟩ := hrel
              by_cases hlk : k < n
              · have hdk : decide ((k : Int) < (n : Int)) = true := by simp; omega
                have hki : (k : Int) < (n : Int) := by omega
                have hnk : ¬ (n : Int) ≤ (k : Int) := by omega
                have ht1 : t ≤ 40000 := by rw [← HT.out]; exact M2.out i j k (by omega)
                have hs2 := S2.out i j k
                rw [HT.out] at hs2
                obtain ⟨re, rf, hre⟩ := HRW.out k hlk
                have HRK : Hid (∀ W, Below w0.heap.size w0 W → W.cell? ⟨ab, ao + k, none⟩ = some (.slice re 3 rf) ∧ Sl W (.slice re 3 rf) ((B.getD k []).map Int.ofNat)) := hre
                have HT1 : Hid (∀ W, Below w0.heap.size w0 W → Calls Try.prog 25 #[.slice ra 3 rc, .slice re 3 rf] W fun e w' => e = .returned (.int .i64 ((mt (B.getD i []) (B.getD k []) : Nat) : Int)) ∧ w' = W) := fun W hW => HTG.out _ _ _ _ W (HRI.out W hW).2 (HRK.out W hW).2 (HL3.out i hlt) (HL3.out k hlk)
                have HT2 : Hid (∀ W, Below w0.heap.size w0 W → Calls Try.prog 25 #[.slice rb 3 rd, .slice re 3 rf] W fun e w' => e = .returned (.int .i64 ((mt (B.getD j []) (B.getD k []) : Nat) : Int)) ∧ w' = W) := fun W hW => HTG.out _ _ _ _ W (HRJ.out W hW).2 (HRK.out W hW).2 (HL3.out j hlj) (HL3.out k hlk)
                have HS1 : Hid (∀ W', Below w0.heap.size w0 W' → W'.cell? ⟨w.heap.size, 1, none⟩ = some (.slice (some ⟨ab, ao, none⟩) n c) ∧ W'.cell? ⟨ab, ao + i, none⟩ = some (.slice ra 3 rc) ∧ W'.cell? ⟨ab, ao + k, none⟩ = some (.slice re 3 rf)) := fun W' h => ⟨(HC.out W' h).2, (HRI.out W' h).1, (HRK.out W' h).1⟩
                have HS2 : Hid (∀ W', Below w0.heap.size w0 W' → W'.cell? ⟨w.heap.size, 1, none⟩ = some (.slice (some ⟨ab, ao, none⟩) n c) ∧ W'.cell? ⟨ab, ao + j, none⟩ = some (.slice rb 3 rd) ∧ W'.cell? ⟨ab, ao + k, none⟩ = some (.slice re 3 rf)) := fun W' h => ⟨(HC.out W' h).2, (HRJ.out W' h).1, (HRK.out W' h).1⟩
                have HBD : Hid (Below w0.heap.size w0 wr.drew) := hB.drew
                have HBE : Hid (Below w0.heap.size w0 wr.drew.drew) := hB.drew.drew
                have hm3 := HMT.out (B.getD i []) (B.getD k []) (HL3.out i hlt)
                have hm4 := HMT.out (B.getD j []) (B.getD k []) (HL3.out j hlj)
                generalize mt (B.getD i []) (B.getD k []) = m1 at *
                generalize mt (B.getD j []) (B.getD k []) = m2 at *
                clear HT hre hB
                by_cases h12 : m1 = 1 ∧ m2 = 1
                · obtain ⟨rfl, rfl⟩ := h12
                  rw [if_pos ⟨hjk, rfl, rfl⟩] at hs2
                  have HN2 : Hid (pD2 v B i j (k + 1) = t + pD3 v B i j k n) := hs2
                  clear hs2 hm3 hm4
                  go_wp2
                  refine wp_region_noPanic ?_
                  refine wp_region_held_drew (S := fun w' => w'.cell? ⟨w.heap.size, 1, none⟩ = some (.slice (some ⟨ab, ao, none⟩) n c) ∧ w'.cell? ⟨ab, ao + i, none⟩ = some (.slice ra 3 rc) ∧ w'.cell? ⟨ab, ao + k, none⟩ = some (.slice re 3 rf)) (by kernel_rfl) (HS1.out _ HBD.out) (fun hSx => ?_)
                  refine wpAnyH_take (i := 0) (v := .pointer (some ⟨w.heap.size, 1, none⟩)) rfl (by kernel_rfl) (by kernel_rfl) (by kernel_rfl) (fun _ _ _ h => h) (Or.inl ⟨by rfl, fun w' hSw => by (try dsimp only at hSw); obtain ⟨hs0, hs1, hs2⟩ := hSw; go_simp⟩) hSx ?_
                  try simp only [Act.put, List.setIfInBounds_toArray]
                  refine wpAnyH_take (i := 1) (v := .slice (some ⟨ab, ao, none⟩) n c) rfl (by kernel_rfl) (by kernel_rfl) (by kernel_rfl) (fun _ _ _ h => h) (Or.inl ⟨by rfl, fun w' hSw => by (try dsimp only at hSw); obtain ⟨hs0, hs1, hs2⟩ := hSw; go_simp⟩) hSx ?_
                  try simp only [Act.put]
                  refine wpAnyH_take (i := 2) (v := .int .i64 (i : Int)) rfl (by kernel_rfl) (by kernel_rfl) (by kernel_rfl) (fun _ _ _ h => h) (Or.inl ⟨by rfl, fun w' hSw => by (try dsimp only at hSw); obtain ⟨hs0, hs1, hs2⟩ := hSw; go_simp⟩) hSx ?_
                  try simp only [Act.put]
                  refine wpAnyH_take (i := 3) (v := .pointer (some ⟨ab, ao + i, none⟩)) rfl (by kernel_rfl) (by kernel_rfl) (by kernel_rfl) (fun _ _ _ h => h) (Or.inl ⟨by rfl, fun w' hSw => by (try dsimp only at hSw); obtain ⟨hs0, hs1, hs2⟩ := hSw; go_simp⟩) hSx ?_
                  try simp only [Act.put]
                  refine wpAnyH_take (i := 4) (v := .slice ra 3 rc) rfl (by kernel_rfl) (by kernel_rfl) (by kernel_rfl) (fun _ _ _ h => h) (Or.inl ⟨by rfl, fun w' hSw => by (try dsimp only at hSw); obtain ⟨hs0, hs1, hs2⟩ := hSw; go_simp⟩) hSx ?_
                  try simp only [Act.put]
                  refine wpAnyH_take (i := 5) (v := .pointer (some ⟨w.heap.size, 1, none⟩)) rfl (by kernel_rfl) (by kernel_rfl) (by kernel_rfl) (fun _ _ _ h => h) (Or.inl ⟨by rfl, fun w' hSw => by (try dsimp only at hSw); obtain ⟨hs0, hs1, hs2⟩ := hSw; go_simp⟩) hSx ?_
                  try simp only [Act.put]
                  refine wpAnyH_take (i := 6) (v := .slice (some ⟨ab, ao, none⟩) n c) rfl (by kernel_rfl) (by kernel_rfl) (by kernel_rfl) (fun _ _ _ h => h) (Or.inl ⟨by rfl, fun w' hSw => by (try dsimp only at hSw); obtain ⟨hs0, hs1, hs2⟩ := hSw; go_simp⟩) hSx ?_
                  try simp only [Act.put]
                  refine wpAnyH_take (i := 7) (v := .int .i64 (k : Int)) rfl (by kernel_rfl) (by kernel_rfl) (by kernel_rfl) (fun _ _ _ h => h) (Or.inl ⟨by rfl, fun w' hSw => by (try dsimp only at hSw); obtain ⟨hs0, hs1, hs2⟩ := hSw; go_simp⟩) hSx ?_
                  try simp only [Act.put]
                  refine wpAnyH_take (i := 8) (v := .pointer (some ⟨ab, ao + k, none⟩)) rfl (by kernel_rfl) (by kernel_rfl) (by kernel_rfl) (fun _ _ _ h => h) (Or.inl ⟨by rfl, fun w' hSw => by (try dsimp only at hSw); obtain ⟨hs0, hs1, hs2⟩ := hSw; go_simp⟩) hSx ?_
                  try simp only [Act.put]
                  refine wpAnyH_take (i := 9) (v := .slice re 3 rf) rfl (by kernel_rfl) (by kernel_rfl) (by kernel_rfl) (fun _ _ _ h => h) (Or.inl ⟨by rfl, fun w' hSw => by (try dsimp only at hSw); obtain ⟨hs0, hs1, hs2⟩ := hSw; go_simp⟩) hSx ?_
                  try simp only [Act.put]
                  refine wpAnyH_ready (rs := [10]) (by kernel_rfl) (by simp) ?_
                  refine AllReadyH.cons rfl (fun J hJ => ?_) AllReadyH.nil
                  go_simp
                  refine (HT1.out _ HBD.out).mono ?_
                  rintro e v1 ⟨rfl, hw⟩
                  replace hw := hw.symm
                  subst hw
                  go_wp2_with fail
                  refine hJ.out _ _ (HS1.out _ HBD.out) (fun hSx => ?_)
                  clear hJ J
                  try simp only [Act.put, List.setIfInBounds_toArray, List.set_cons_zero, List.set_cons_succ]
                  refine wpAnyH_take (i := 11) (v := .int .i64 1) rfl (by kernel_rfl) (by kernel_rfl) (by kernel_rfl) (fun _ _ _ h => h) (Or.inl ⟨by rfl, fun w' hSw => by (try dsimp only at hSw); obtain ⟨hs0, hs1, hs2⟩ := hSw; go_simp⟩) hSx ?_
                  try simp only [Act.put, List.setIfInBounds_toArray]
                  refine wpAnyH_done (by kernel_rfl) ?_ _
                  refine NoPanic.normal ?_
                  clear hSx
                  simp only [List.getElem_toArray, List.getElem_cons_succ, List.getElem_cons_zero, List.set_cons_zero, List.set_cons_succ]
                  clear HT1 HS1
                  go_wp2
                  refine wp_region_noPanic ?_
                  refine wp_region_held_drew (S := fun w' => w'.cell? ⟨w.heap.size, 1, none⟩ = some (.slice (some ⟨ab, ao, none⟩) n c) ∧ w'.cell? ⟨ab, ao + j, none⟩ = some (.slice rb 3 rd) ∧ w'.cell? ⟨ab, ao + k, none⟩ = some (.slice re 3 rf)) (by kernel_rfl) (HS2.out _ HBE.out) (fun hSx => ?_)
                  refine wpAnyH_take (i := 0) (v := .pointer (some ⟨w.heap.size, 1, none⟩)) rfl (by kernel_rfl) (by kernel_rfl) (by kernel_rfl) (fun _ _ _ h => h) (Or.inl ⟨by rfl, fun w' hSw => by (try dsimp only at hSw); obtain ⟨hs0, hs1, hs2⟩ := hSw; go_simp⟩) hSx ?_
                  try simp only [Act.put, List.setIfInBounds_toArray]
                  refine wpAnyH_take (i := 1) (v := .slice (some ⟨ab, ao, none⟩) n c) rfl (by kernel_rfl) (by kernel_rfl) (by kernel_rfl) (fun _ _ _ h => h) (Or.inl ⟨by rfl, fun w' hSw => by (try dsimp only at hSw); obtain ⟨hs0, hs1, hs2⟩ := hSw; go_simp⟩) hSx ?_
                  try simp only [Act.put]
                  refine wpAnyH_take (i := 2) (v := .int .i64 (j : Int)) rfl (by kernel_rfl) (by kernel_rfl) (by kernel_rfl) (fun _ _ _ h => h) (Or.inl ⟨by rfl, fun w' hSw => by (try dsimp only at hSw); obtain ⟨hs0, hs1, hs2⟩ := hSw; go_simp⟩) hSx ?_
                  try simp only [Act.put]
                  refine wpAnyH_take (i := 3) (v := .pointer (some ⟨ab, ao + j, none⟩)) rfl (by kernel_rfl) (by kernel_rfl) (by kernel_rfl) (fun _ _ _ h => h) (Or.inl ⟨by rfl, fun w' hSw => by (try dsimp only at hSw); obtain ⟨hs0, hs1, hs2⟩ := hSw; go_simp⟩) hSx ?_
                  try simp only [Act.put]
                  refine wpAnyH_take (i := 4) (v := .slice rb 3 rd) rfl (by kernel_rfl) (by kernel_rfl) (by kernel_rfl) (fun _ _ _ h => h) (Or.inl ⟨by rfl, fun w' hSw => by (try dsimp only at hSw); obtain ⟨hs0, hs1, hs2⟩ := hSw; go_simp⟩) hSx ?_
                  try simp only [Act.put]
                  refine wpAnyH_take (i := 5) (v := .pointer (some ⟨w.heap.size, 1, none⟩)) rfl (by kernel_rfl) (by kernel_rfl) (by kernel_rfl) (fun _ _ _ h => h) (Or.inl ⟨by rfl, fun w' hSw => by (try dsimp only at hSw); obtain ⟨hs0, hs1, hs2⟩ := hSw; go_simp⟩) hSx ?_
                  try simp only [Act.put]
                  refine wpAnyH_take (i := 6) (v := .slice (some ⟨ab, ao, none⟩) n c) rfl (by kernel_rfl) (by kernel_rfl) (by kernel_rfl) (fun _ _ _ h => h) (Or.inl ⟨by rfl, fun w' hSw => by (try dsimp only at hSw); obtain ⟨hs0, hs1, hs2⟩ := hSw; go_simp⟩) hSx ?_
                  try simp only [Act.put]
                  refine wpAnyH_take (i := 7) (v := .int .i64 (k : Int)) rfl (by kernel_rfl) (by kernel_rfl) (by kernel_rfl) (fun _ _ _ h => h) (Or.inl ⟨by rfl, fun w' hSw => by (try dsimp only at hSw); obtain ⟨hs0, hs1, hs2⟩ := hSw; go_simp⟩) hSx ?_
                  try simp only [Act.put]
                  refine wpAnyH_take (i := 8) (v := .pointer (some ⟨ab, ao + k, none⟩)) rfl (by kernel_rfl) (by kernel_rfl) (by kernel_rfl) (fun _ _ _ h => h) (Or.inl ⟨by rfl, fun w' hSw => by (try dsimp only at hSw); obtain ⟨hs0, hs1, hs2⟩ := hSw; go_simp⟩) hSx ?_
                  try simp only [Act.put]
                  refine wpAnyH_take (i := 9) (v := .slice re 3 rf) rfl (by kernel_rfl) (by kernel_rfl) (by kernel_rfl) (fun _ _ _ h => h) (Or.inl ⟨by rfl, fun w' hSw => by (try dsimp only at hSw); obtain ⟨hs0, hs1, hs2⟩ := hSw; go_simp⟩) hSx ?_
                  try simp only [Act.put]
                  refine wpAnyH_ready (rs := [10]) (by kernel_rfl) (by simp) ?_
                  refine AllReadyH.cons rfl (fun J hJ => ?_) AllReadyH.nil
                  go_simp
                  refine (HT2.out _ HBE.out).mono ?_
                  rintro e v1 ⟨rfl, hw⟩
                  replace hw := hw.symm
                  subst hw
                  go_wp2_with fail
                  refine hJ.out _ _ (HS2.out _ HBE.out) (fun hSx => ?_)
                  clear hJ J
                  try simp only [Act.put, List.setIfInBounds_toArray, List.set_cons_zero, List.set_cons_succ]
                  refine wpAnyH_take (i := 11) (v := .int .i64 1) rfl (by kernel_rfl) (by kernel_rfl) (by kernel_rfl) (fun _ _ _ h => h) (Or.inl ⟨by rfl, fun w' hSw => by (try dsimp only at hSw); obtain ⟨hs0, hs1, hs2⟩ := hSw; go_simp⟩) hSx ?_
                  try simp only [Act.put, List.setIfInBounds_toArray]
                  refine wpAnyH_done (by kernel_rfl) ?_ _
                  refine NoPanic.normal ?_
                  clear hSx
                  clear HT2 HS2
                  go_wp2
                  go_loopw [3, 11] (fun mv lv wr => ∃ (l s : Nat), lv = .int .i64 (l : Int) ∧ mv = .int .i64 ((m + q + t + s : Nat) : Int) ∧ k + 1 ≤ l ∧ l ≤ n ∧ Hid (pD3 v B i j k l = s) ∧ Below w0.heap.size w0 wr) (fun _ lv _ => (n - intOf lv).toNat)
                  case atStart => exact ⟨k + 1, 0, by go_num, rfl, by omega, by omega, Z3.out i j k, HBE.out⟩
                  case round =>
                    clear HBD HBE
                    obtain ⟨l, s, rfl, rfl, hkl, hl, HSm, hB⟩ := hrel
                    by_cases hll : l < n
                    · have hdl : decide ((l : Int) < (n : Int)) = true := by simp; omega
                      have hli : (l : Int) < (n : Int) := by omega
                      have hs1 : s ≤ 200 := by rw [← HSm.out]; exact M3.out i j k l (by omega)
                      have hs3 := S3.out i j k l
                      rw [HSm.out] at hs3
                      obtain ⟨y0, y1⟩ := HC.out _ hB
                      have HBF : Hid (Below w0.heap.size w0 (wr.alloc (.cells #[.int .i64 (i : Int), .int .i64 (j : Int), .int .i64 (k : Int), .int .i64 (l : Int)] 3))) := Below.next hB (balloc _ _)
                      have HCL : Hid (Calls Try.prog 39 #[.agg #[.int .i64 (v : Int), .slice (some ⟨ab, ao, none⟩) n c], .slice (some ⟨wr.heap.size, 0, none⟩) 4 4] (wr.alloc (.cells #[.int .i64 (i : Int), .int .i64 (j : Int), .int .i64 (k : Int), .int .i64 (l : Int)] 3)) fun e w' => e = .returned (.bool (paB v B i j k l)) ∧ Below w0.heap.size w0 w') :=
                        (HPC.out i j k l wr.heap.size _ (Below.next HB0.out HBF.out) hlt hlj hlk hll (four_box _ _ _ _ wr)).mono fun e w' h => ⟨h.1, Below.next HBF.out h.2⟩
                      generalize paB v B i j k l = pp at *
                      have hk1 : k < l := hkl
                      clear HSm hB HBF
                      cases pp
                      · have HN3 : Hid (pD3 v B i j k (l + 1) = s) := by show _ = _; rw [hs3]; simp
                        clear hs3
                        go_wp2_with (go_at_call 39; refine HCL.out.mono ?_; rintro e w5 ⟨rfl, hb5⟩; clear HCL)
                        go_roundw
                        case rel => exact ⟨l + 1, s, by go_num, rfl, by omega, by omega, HN3, hb5⟩
                        case measure => simp [intOf]; omega
                      · have HN3 : Hid (pD3 v B i j k (l + 1) = s + 1) := by show _ = _; rw [hs3, if_pos ⟨hk1, rfl⟩]
                        clear hs3
                        go_wp2_with (go_at_call 39; refine HCL.out.mono ?_; rintro e w5 ⟨rfl, hb5⟩; clear HCL)
                        go_roundw
                        case rel => exact ⟨l + 1, s + 1, by go_num, by go_num, by omega, by omega, HN3, hb5⟩
                        case measure => simp [intOf]; omega
                    · have hdl : decide ((l : Int) < (n : Int)) = false := by simp; omega
                      have hln : n = l := by omega
                      have hres := HN2.out
                      rw [hln, HSm.out] at hres
                      go_wp2
                      go_roundw
                      case rel => exact ⟨k + 1, t + s, by go_num, by go_num, by omega, by omega, hres, hB⟩
                      case measure => simp [intOf]; omega
                · rw [if_neg (fun h => h12 h.2)] at hs2
                  have HN2 : Hid (pD2 v B i j (k + 1) = t) := hs2
                  clear hs2
                  go_wp2
                  refine wp_region_noPanic ?_
                  refine wp_region_held_drew (S := fun w' => w'.cell? ⟨w.heap.size, 1, none⟩ = some (.slice (some ⟨ab, ao, none⟩) n c) ∧ w'.cell? ⟨ab, ao + i, none⟩ = some (.slice ra 3 rc) ∧ w'.cell? ⟨ab, ao + k, none⟩ = some (.slice re 3 rf)) (by kernel_rfl) (HS1.out _ HBD.out) (fun hSx => ?_)
                  refine wpAnyH_take (i := 0) (v := .pointer (some ⟨w.heap.size, 1, none⟩)) rfl (by kernel_rfl) (by kernel_rfl) (by kernel_rfl) (fun _ _ _ h => h) (Or.inl ⟨by rfl, fun w' hSw => by (try dsimp only at hSw); obtain ⟨hs0, hs1, hs2⟩ := hSw; go_simp⟩) hSx ?_
                  try simp only [Act.put, List.setIfInBounds_toArray]
                  refine wpAnyH_take (i := 1) (v := .slice (some ⟨ab, ao, none⟩) n c) rfl (by kernel_rfl) (by kernel_rfl) (by kernel_rfl) (fun _ _ _ h => h) (Or.inl ⟨by rfl, fun w' hSw => by (try dsimp only at hSw); obtain ⟨hs0, hs1, hs2⟩ := hSw; go_simp⟩) hSx ?_
                  try simp only [Act.put]
                  refine wpAnyH_take (i := 2) (v := .int .i64 (i : Int)) rfl (by kernel_rfl) (by kernel_rfl) (by kernel_rfl) (fun _ _ _ h => h) (Or.inl ⟨by rfl, fun w' hSw => by (try dsimp only at hSw); obtain ⟨hs0, hs1, hs2⟩ := hSw; go_simp⟩) hSx ?_
                  try simp only [Act.put]
                  refine wpAnyH_take (i := 3) (v := .pointer (some ⟨ab, ao + i, none⟩)) rfl (by kernel_rfl) (by kernel_rfl) (by kernel_rfl) (fun _ _ _ h => h) (Or.inl ⟨by rfl, fun w' hSw => by (try dsimp only at hSw); obtain ⟨hs0, hs1, hs2⟩ := hSw; go_simp⟩) hSx ?_
                  try simp only [Act.put]
                  refine wpAnyH_take (i := 4) (v := .slice ra 3 rc) rfl (by kernel_rfl) (by kernel_rfl) (by kernel_rfl) (fun _ _ _ h => h) (Or.inl ⟨by rfl, fun w' hSw => by (try dsimp only at hSw); obtain ⟨hs0, hs1, hs2⟩ := hSw; go_simp⟩) hSx ?_
                  try simp only [Act.put]
                  refine wpAnyH_take (i := 5) (v := .pointer (some ⟨w.heap.size, 1, none⟩)) rfl (by kernel_rfl) (by kernel_rfl) (by kernel_rfl) (fun _ _ _ h => h) (Or.inl ⟨by rfl, fun w' hSw => by (try dsimp only at hSw); obtain ⟨hs0, hs1, hs2⟩ := hSw; go_simp⟩) hSx ?_
                  try simp only [Act.put]
                  refine wpAnyH_take (i := 6) (v := .slice (some ⟨ab, ao, none⟩) n c) rfl (by kernel_rfl) (by kernel_rfl) (by kernel_rfl) (fun _ _ _ h => h) (Or.inl ⟨by rfl, fun w' hSw => by (try dsimp only at hSw); obtain ⟨hs0, hs1, hs2⟩ := hSw; go_simp⟩) hSx ?_
                  try simp only [Act.put]
                  refine wpAnyH_take (i := 7) (v := .int .i64 (k : Int)) rfl (by kernel_rfl) (by kernel_rfl) (by kernel_rfl) (fun _ _ _ h => h) (Or.inl ⟨by rfl, fun w' hSw => by (try dsimp only at hSw); obtain ⟨hs0, hs1, hs2⟩ := hSw; go_simp⟩) hSx ?_
                  try simp only [Act.put]
                  refine wpAnyH_take (i := 8) (v := .pointer (some ⟨ab, ao + k, none⟩)) rfl (by kernel_rfl) (by kernel_rfl) (by kernel_rfl) (fun _ _ _ h => h) (Or.inl ⟨by rfl, fun w' hSw => by (try dsimp only at hSw); obtain ⟨hs0, hs1, hs2⟩ := hSw; go_simp⟩) hSx ?_
                  try simp only [Act.put]
                  refine wpAnyH_take (i := 9) (v := .slice re 3 rf) rfl (by kernel_rfl) (by kernel_rfl) (by kernel_rfl) (fun _ _ _ h => h) (Or.inl ⟨by rfl, fun w' hSw => by (try dsimp only at hSw); obtain ⟨hs0, hs1, hs2⟩ := hSw; go_simp⟩) hSx ?_
                  try simp only [Act.put]
                  refine wpAnyH_ready (rs := [10]) (by kernel_rfl) (by simp) ?_
                  refine AllReadyH.cons rfl (fun J hJ => ?_) AllReadyH.nil
                  go_simp
                  refine (HT1.out _ HBD.out).mono ?_
                  rintro e v1 ⟨rfl, hw⟩
                  replace hw := hw.symm
                  subst hw
                  go_wp2_with fail
                  refine hJ.out _ _ (HS1.out _ HBD.out) (fun hSx => ?_)
                  clear hJ J
                  try simp only [Act.put, List.setIfInBounds_toArray, List.set_cons_zero, List.set_cons_succ]
                  refine wpAnyH_take (i := 11) (v := .int .i64 (m1 : Int)) rfl (by kernel_rfl) (by kernel_rfl) (by kernel_rfl) (fun _ _ _ h => h) (Or.inl ⟨by rfl, fun w' hSw => by (try dsimp only at hSw); obtain ⟨hs0, hs1, hs2⟩ := hSw; go_simp⟩) hSx ?_
                  try simp only [Act.put, List.setIfInBounds_toArray]
                  refine wpAnyH_done (by kernel_rfl) ?_ _
                  refine NoPanic.normal ?_
                  clear hSx
                  simp only [List.getElem_toArray, List.getElem_cons_succ, List.getElem_cons_zero, List.set_cons_zero, List.set_cons_succ]
                  clear HT1 HS1
                  go_wp2
                  refine wp_region_noPanic ?_
                  refine wp_region_held_drew (S := fun w' => w'.cell? ⟨w.heap.size, 1, none⟩ = some (.slice (some ⟨ab, ao, none⟩) n c) ∧ w'.cell? ⟨ab, ao + j, none⟩ = some (.slice rb 3 rd) ∧ w'.cell? ⟨ab, ao + k, none⟩ = some (.slice re 3 rf)) (by kernel_rfl) (HS2.out _ HBE.out) (fun hSx => ?_)
                  refine wpAnyH_take (i := 0) (v := .pointer (some ⟨w.heap.size, 1, none⟩)) rfl (by kernel_rfl) (by kernel_rfl) (by kernel_rfl) (fun _ _ _ h => h) (Or.inl ⟨by rfl, fun w' hSw => by (try dsimp only at hSw); obtain ⟨hs0, hs1, hs2⟩ := hSw; go_simp⟩) hSx ?_
                  try simp only [Act.put, List.setIfInBounds_toArray]
                  refine wpAnyH_take (i := 1) (v := .slice (some ⟨ab, ao, none⟩) n c) rfl (by kernel_rfl) (by kernel_rfl) (by kernel_rfl) (fun _ _ _ h => h) (Or.inl ⟨by rfl, fun w' hSw => by (try dsimp only at hSw); obtain ⟨hs0, hs1, hs2⟩ := hSw; go_simp⟩) hSx ?_
                  try simp only [Act.put]
                  refine wpAnyH_take (i := 2) (v := .int .i64 (j : Int)) rfl (by kernel_rfl) (by kernel_rfl) (by kernel_rfl) (fun _ _ _ h => h) (Or.inl ⟨by rfl, fun w' hSw => by (try dsimp only at hSw); obtain ⟨hs0, hs1, hs2⟩ := hSw; go_simp⟩) hSx ?_
                  try simp only [Act.put]
                  refine wpAnyH_take (i := 3) (v := .pointer (some ⟨ab, ao + j, none⟩)) rfl (by kernel_rfl) (by kernel_rfl) (by kernel_rfl) (fun _ _ _ h => h) (Or.inl ⟨by rfl, fun w' hSw => by (try dsimp only at hSw); obtain ⟨hs0, hs1, hs2⟩ := hSw; go_simp⟩) hSx ?_
                  try simp only [Act.put]
                  refine wpAnyH_take (i := 4) (v := .slice rb 3 rd) rfl (by kernel_rfl) (by kernel_rfl) (by kernel_rfl) (fun _ _ _ h => h) (Or.inl ⟨by rfl, fun w' hSw => by (try dsimp only at hSw); obtain ⟨hs0, hs1, hs2⟩ := hSw; go_simp⟩) hSx ?_
                  try simp only [Act.put]
                  refine wpAnyH_take (i := 5) (v := .pointer (some ⟨w.heap.size, 1, none⟩)) rfl (by kernel_rfl) (by kernel_rfl) (by kernel_rfl) (fun _ _ _ h => h) (Or.inl ⟨by rfl, fun w' hSw => by (try dsimp only at hSw); obtain ⟨hs0, hs1, hs2⟩ := hSw; go_simp⟩) hSx ?_
                  try simp only [Act.put]
                  refine wpAnyH_take (i := 6) (v := .slice (some ⟨ab, ao, none⟩) n c) rfl (by kernel_rfl) (by kernel_rfl) (by kernel_rfl) (fun _ _ _ h => h) (Or.inl ⟨by rfl, fun w' hSw => by (try dsimp only at hSw); obtain ⟨hs0, hs1, hs2⟩ := hSw; go_simp⟩) hSx ?_
                  try simp only [Act.put]
                  refine wpAnyH_take (i := 7) (v := .int .i64 (k : Int)) rfl (by kernel_rfl) (by kernel_rfl) (by kernel_rfl) (fun _ _ _ h => h) (Or.inl ⟨by rfl, fun w' hSw => by (try dsimp only at hSw); obtain ⟨hs0, hs1, hs2⟩ := hSw; go_simp⟩) hSx ?_
                  try simp only [Act.put]
                  refine wpAnyH_take (i := 8) (v := .pointer (some ⟨ab, ao + k, none⟩)) rfl (by kernel_rfl) (by kernel_rfl) (by kernel_rfl) (fun _ _ _ h => h) (Or.inl ⟨by rfl, fun w' hSw => by (try dsimp only at hSw); obtain ⟨hs0, hs1, hs2⟩ := hSw; go_simp⟩) hSx ?_
                  try simp only [Act.put]
                  refine wpAnyH_take (i := 9) (v := .slice re 3 rf) rfl (by kernel_rfl) (by kernel_rfl) (by kernel_rfl) (fun _ _ _ h => h) (Or.inl ⟨by rfl, fun w' hSw => by (try dsimp only at hSw); obtain ⟨hs0, hs1, hs2⟩ := hSw; go_simp⟩) hSx ?_
                  try simp only [Act.put]
                  refine wpAnyH_ready (rs := [10]) (by kernel_rfl) (by simp) ?_
                  refine AllReadyH.cons rfl (fun J hJ => ?_) AllReadyH.nil
                  go_simp
                  refine (HT2.out _ HBE.out).mono ?_
                  rintro e v1 ⟨rfl, hw⟩
                  replace hw := hw.symm
                  subst hw
                  go_wp2_with fail
                  refine hJ.out _ _ (HS2.out _ HBE.out) (fun hSx => ?_)
                  clear hJ J
                  try simp only [Act.put, List.setIfInBounds_toArray, List.set_cons_zero, List.set_cons_succ]
                  refine wpAnyH_take (i := 11) (v := .int .i64 (m2 : Int)) rfl (by kernel_rfl) (by kernel_rfl) (by kernel_rfl) (fun _ _ _ h => h) (Or.inl ⟨by rfl, fun w' hSw => by (try dsimp only at hSw); obtain ⟨hs0, hs1, hs2⟩ := hSw; go_simp⟩) hSx ?_
                  try simp only [Act.put, List.setIfInBounds_toArray]
                  refine wpAnyH_done (by kernel_rfl) ?_ _
                  refine NoPanic.normal ?_
                  clear hSx
                  clear HT2 HS2
                  by_cases h1 : m1 = 1
                  · subst h1
                    have h2 : ¬ m2 = 1 := fun h => h12 ⟨rfl, h⟩
                    have hd : ((m2 : Int) != 1) = true := by simp; omega
                    have hdn : ¬ (m2 : Int) = 1 := by omega
                    go_wp2
                    go_roundw
                    case rel => exact ⟨k + 1, t, by go_num, rfl, by omega, by omega, HN2, HBE.out⟩
                    case measure => simp [intOf]; omega
                  · have hd : ((m1 : Int) != 1) = true := by simp; omega
                    have hdn : ¬ (m1 : Int) = 1 := by omega
                    go_wp2
                    go_roundw
                    case rel => exact ⟨k + 1, t, by go_num, rfl, by omega, by omega, HN2, HBE.out⟩
                    case measure => simp [intOf]; omega
              · have hdk : decide ((k : Int) < (n : Int)) = false := by simp; omega
                have hkn : n = k := by omega
                have hres := HN1.out
                rw [hkn, HT.out] at hres
                go_wp2
                go_roundw
                case rel => exact ⟨j + 1, q + t, by go_num, by go_num, by omega, by omega, hres, hB⟩
                case measure => simp [intOf]; omega
          · rw [if_neg (fun h => h1 h.2)] at hs1
            have HN1 : Hid (pD1 v B i (j + 1) = q) := hs1
            have hd : ((mm : Int) != 1) = true := by simp; omega
            have hdn : ¬ (mm : Int) = 1 := by omega
            clear hs1 h1
            go_wp2
            refine wp_region_noPanic ?_
            refine wp_region_held_drew (S := fun w' => w'.cell? ⟨w.heap.size, 1, none⟩ = some (.slice (some ⟨ab, ao, none⟩) n c) ∧ w'.cell? ⟨ab, ao + i, none⟩ = some (.slice ra 3 rc) ∧ w'.cell? ⟨ab, ao + j, none⟩ = some (.slice rb 3 rd)) (by kernel_rfl) (HS.out _ HBD.out) (fun hSx => ?_)
            refine wpAnyH_take (i := 0) (v := .pointer (some ⟨w.heap.size, 1, none⟩)) rfl (by kernel_rfl) (by kernel_rfl) (by kernel_rfl) (fun _ _ _ h => h) (Or.inl ⟨by rfl, fun w' hSw => by (try dsimp only at hSw); obtain ⟨hs0, hs1, hs2⟩ := hSw; go_simp⟩) hSx ?_
            try simp only [Act.put, List.setIfInBounds_toArray]
            refine wpAnyH_take (i := 1) (v := .slice (some ⟨ab, ao, none⟩) n c) rfl (by kernel_rfl) (by kernel_rfl) (by kernel_rfl) (fun _ _ _ h => h) (Or.inl ⟨by rfl, fun w' hSw => by (try dsimp only at hSw); obtain ⟨hs0, hs1, hs2⟩ := hSw; go_simp⟩) hSx ?_
            try simp only [Act.put]
            refine wpAnyH_take (i := 2) (v := .int .i64 (i : Int)) rfl (by kernel_rfl) (by kernel_rfl) (by kernel_rfl) (fun _ _ _ h => h) (Or.inl ⟨by rfl, fun w' hSw => by (try dsimp only at hSw); obtain ⟨hs0, hs1, hs2⟩ := hSw; go_simp⟩) hSx ?_
            try simp only [Act.put]
            refine wpAnyH_take (i := 3) (v := .pointer (some ⟨ab, ao + i, none⟩)) rfl (by kernel_rfl) (by kernel_rfl) (by kernel_rfl) (fun _ _ _ h => h) (Or.inl ⟨by rfl, fun w' hSw => by (try dsimp only at hSw); obtain ⟨hs0, hs1, hs2⟩ := hSw; go_simp⟩) hSx ?_
            try simp only [Act.put]
            refine wpAnyH_take (i := 4) (v := .slice ra 3 rc) rfl (by kernel_rfl) (by kernel_rfl) (by kernel_rfl) (fun _ _ _ h => h) (Or.inl ⟨by rfl, fun w' hSw => by (try dsimp only at hSw); obtain ⟨hs0, hs1, hs2⟩ := hSw; go_simp⟩) hSx ?_
            try simp only [Act.put]
            refine wpAnyH_take (i := 5) (v := .pointer (some ⟨w.heap.size, 1, none⟩)) rfl (by kernel_rfl) (by kernel_rfl) (by kernel_rfl) (fun _ _ _ h => h) (Or.inl ⟨by rfl, fun w' hSw => by (try dsimp only at hSw); obtain ⟨hs0, hs1, hs2⟩ := hSw; go_simp⟩) hSx ?_
            try simp only [Act.put]
            refine wpAnyH_take (i := 6) (v := .slice (some ⟨ab, ao, none⟩) n c) rfl (by kernel_rfl) (by kernel_rfl) (by kernel_rfl) (fun _ _ _ h => h) (Or.inl ⟨by rfl, fun w' hSw => by (try dsimp only at hSw); obtain ⟨hs0, hs1, hs2⟩ := hSw; go_simp⟩) hSx ?_
            try simp only [Act.put]
            refine wpAnyH_take (i := 7) (v := .int .i64 (j : Int)) rfl (by kernel_rfl) (by kernel_rfl) (by kernel_rfl) (fun _ _ _ h => h) (Or.inl ⟨by rfl, fun w' hSw => by (try dsimp only at hSw); obtain ⟨hs0, hs1, hs2⟩ := hSw; go_simp⟩) hSx ?_
            try simp only [Act.put]
            refine wpAnyH_take (i := 8) (v := .pointer (some ⟨ab, ao + j, none⟩)) rfl (by kernel_rfl) (by kernel_rfl) (by kernel_rfl) (fun _ _ _ h => h) (Or.inl ⟨by rfl, fun w' hSw => by (try dsimp only at hSw); obtain ⟨hs0, hs1, hs2⟩ := hSw; go_simp⟩) hSx ?_
            try simp only [Act.put]
            refine wpAnyH_take (i := 9) (v := .slice rb 3 rd) rfl (by kernel_rfl) (by kernel_rfl) (by kernel_rfl) (fun _ _ _ h => h) (Or.inl ⟨by rfl, fun w' hSw => by (try dsimp only at hSw); obtain ⟨hs0, hs1, hs2⟩ := hSw; go_simp⟩) hSx ?_
            try simp only [Act.put]
            refine wpAnyH_ready (rs := [10]) (by kernel_rfl) (by simp) ?_
            refine AllReadyH.cons rfl (fun J hJ => ?_) AllReadyH.nil
            go_simp
            refine (HTC.out _ HBD.out).mono ?_
            rintro e v1 ⟨rfl, hw⟩
            replace hw := hw.symm
            subst hw
            go_wp2_with fail
            refine hJ.out _ _ (HS.out _ HBD.out) (fun hSx => ?_)
            clear hJ J
            try simp only [Act.put, List.setIfInBounds_toArray, List.set_cons_zero, List.set_cons_succ]
            refine wpAnyH_take (i := 11) (v := .int .i64 (mm : Int)) rfl (by kernel_rfl) (by kernel_rfl) (by kernel_rfl) (fun _ _ _ h => h) (Or.inl ⟨by rfl, fun w' hSw => by (try dsimp only at hSw); obtain ⟨hs0, hs1, hs2⟩ := hSw; go_simp⟩) hSx ?_
            try simp only [Act.put, List.setIfInBounds_toArray]
            refine wpAnyH_done (by kernel_rfl) ?_ _
            refine NoPanic.normal ?_
            clear hSx
            go_wp2
            go_roundw
            case rel => exact ⟨j + 1, q, by go_num, rfl, by omega, by omega, HN1, HBD.out⟩
            case measure => simp [intOf]; omega
        · have hdj : decide ((j : Int) < (n : Int)) = false := by simp; omega
          have hjn : n = j := by omega
          have hres := HN0.out
          rw [hjn, HQ.out] at hres
          go_wp2
          go_roundw
          case rel => exact ⟨i + 1, m + q, by go_num, by go_num, by omega, hres, hB⟩
          case measure => simp [intOf]; omega
    · have hdi : decide ((i : Int) < (n : Int)) = false := by simp; omega
      have hin : n = i := by omega
      have hR : R = m := by rw [← HR.out, hin]; exact HM.out
      subst hR
      go_wp2
      go_ret
      exact ⟨rfl, Below.next HB0.out hB⟩

end Go.Proofs.Ytdeofjmgjhfkcaa
