/- The document's BruijnOf, walked. -/
import Derived.Test.YtcjkcgfohmhbcaaW6
import Derived.Test.YtcjkcgfohmhbcaaWdB
import Derived.Test.YtcjkcgfohmhbcaaW4
import Derived.Laws.MakeOwn
namespace Go.Proofs.Ytcjkcgfohmhbcaa
open Go.RowKit

def updV {T : Type} (f : Nat → T) (i : Nat) (v : T) : Nat → T := fun j => if j = i then v else f j
/-- Block g is a row of one's own whose first n values are f's. -/
def OwV {T : Type} (t : TypeId) (en : T → Value) (w : World) (g n : Nat) (f : Nat → T) : Prop := ∃ cur, w.heap[g]? = some (.cells cur t (0, 0)) ∧ ∀ j, j < n → cur[j]? = some (en (f j))
theorem OwV.lt {T : Type} {t : TypeId} {en : T → Value} {w : World} {g n : Nat} {f : Nat → T} (h : OwV t en w g n f) : g < w.heap.size := by
  obtain ⟨cur, h, _⟩ := h
  exact (Array.getElem?_eq_some_iff.1 h).1
theorem OwV.cell {T : Type} {t : TypeId} {en : T → Value} {w : World} {g n : Nat} {f : Nat → T} (h : OwV t en w g n f) (j : Nat) (hj : j < n) : w.cell? ⟨g, j, none⟩ = some (en (f j)) := by
  obtain ⟨cur, h, hc⟩ := h
  rw [cell_of_row w g j _ _ _ h, hc j hj]
theorem OwV.frozen {T : Type} {t : TypeId} {en : T → Value} {w : World} {g n : Nat} {f : Nat → T} (h : OwV t en w g n f) (j : Nat) : w.frozen? ⟨g, j, none⟩ = false := by
  obtain ⟨cur, h, _⟩ := h
  exact frozen_of_row w g j _ _ h
theorem OwV.set {T : Type} {t : TypeId} {en : T → Value} {w : World} {g n : Nat} {f : Nat → T} (h : OwV t en w g n f) (i : Nat) (v : T) : OwV t en (w.setCell ⟨g, i, none⟩ (en v)) g n (updV f i v) := by
  obtain ⟨cur, h, hc⟩ := h
  refine ⟨_, heap_setCell_same w g i _ _ _ h, fun j hj => ?_⟩
  have hcj := hc j hj
  have hlt : j < cur.size := (Array.getElem?_eq_some_iff.1 hcj).1
  rw [Array.getElem?_setIfInBounds]
  by_cases e : i = j
  · subst e; rw [if_pos rfl, if_pos hlt]; simp [updV]
  · rw [if_neg e, hcj]; simp [updV, Ne.symm e]
theorem OwV.below {T : Type} {t : TypeId} {en : T → Value} {w w' : World} {g n : Nat} {f : Nat → T} (h : OwV t en w g n f) (hb : Below w.heap.size w w') : OwV t en w' g n f := by
  have hl := h.lt
  obtain ⟨cur, h, hc⟩ := h
  exact ⟨cur, (hb.block g hl).trans h, hc⟩
theorem OwV.congr {T : Type} {t : TypeId} {en : T → Value} {w : World} {g n : Nat} {f f' : Nat → T} (h : OwV t en w g n f) (e : ∀ j, j < n → f j = f' j) : OwV t en w g n f' := by
  obtain ⟨cur, h, hc⟩ := h
  exact ⟨cur, h, fun j hj => by rw [hc j hj, e j hj]⟩
theorem OwV.other {T : Type} {t : TypeId} {en : T → Value} {w : World} {g n : Nat} {f : Nat → T} (h : OwV t en w g n f) (a : Addr) (v : Value) (hne : g ≠ a.block) : OwV t en (w.setCell a v) g n f := by
  obtain ⟨cur, h, hc⟩ := h
  exact ⟨cur, (heap_setCell_other w a g v hne).trans h, hc⟩
theorem OwV.made {T : Type} {t : TypeId} {en : T → Value} (n : Nat) (w : World) (f : Nat → T) (z : Value) (hz : ∀ {j}, z = en (f j)) : OwV t en (w.alloc (.cells (madeCells #[z] n) t)) w.heap.size n f :=
  ⟨_, heap_alloc_new w _, fun j hj => by simp only [madeCells, Array.getElem?_map, Array.getElem?_range, hj, if_true, Option.map_some]; rw [← hz]; simp [Nat.mod_one]⟩
theorem OwV.low {T : Type} {t : TypeId} {en : T → Value} {w w' : World} {B g n : Nat} {f : Nat → T} (h : OwV t en w g n f) (hb : Below B w w') (hg : g < B) : OwV t en w' g n f := by
  obtain ⟨cur, h, hc⟩ := h
  exact ⟨cur, (hb.block g hg).trans h, hc⟩
theorem newCellZ (w : World) (n : Nat) (x : Int) (h : n = w.heap.size) : (w.alloc (.cells #[.int .i64 x] 3)).cell? ⟨n, 0, none⟩ = some (.int .i64 x) := by subst h; simp
theorem own_up {w : World} {b b' : Nat} {e : TypeId} {size : Nat} {v : Value} {n : Nat} {xs : List Value} (h : w.ownsRow b e size v n xs) (hb : b' ≤ b) : w.ownsRow b' e size v n xs := by
  obtain ⟨h1, h2⟩ := h
  refine ⟨h1, ?_⟩
  rcases h2 with h2 | ⟨g, cap, cur, r1, r2, r3⟩
  · exact .inl h2
  · exact .inr ⟨g, cap, cur, r1, by omega, r3⟩
theorem und44 : Try.prog.underlying 44 = some (.slice 4) := by kernel_rfl
theorem info4 : ∃ i, Try.prog.info? 4 = some i ∧ i.zero = some (.bool false) ∧ i.size = 1 ∧ i.bytes = 1 := by
  refine ⟨_, rfl, ?_, ?_, ?_⟩ <;> kernel_rfl
theorem run_makeB (n : Nat) (hn : n ≤ 100000) (w : World) : (Instr.makeSlice 44 (.int .i64 (n : Int)) (.int .i64 (n : Int))).run Try.prog w = .ok (.slice (some ⟨w.heap.size, 0, none⟩) n n) (w.alloc (.cells (madeCells #[.bool false] n) 4)) := by
  obtain ⟨i4, hi, hz0, hz1, hz2⟩ := info4
  have h := run_make (P := Try.prog) w 44 4 i4 (.bool false) und44 hi hz0 .i64 .i64 n n (by omega) (by omega) (by rw [hz2]; omega) (by omega)
  simpa [hz1, Value.cells] using h
theorem bru_step {k A i c s : Nat} (h : frX k A c s k 0 < k) : bru k A (i + 1) c s = frX k A c s k 0 :: bru k A i ((c * k + frX k A c s k 0) % A) (s ||| 1 <<< ((c * k + frX k A c s k 0) % A)) := by
  conv => lhs; unfold bru
  rw [if_pos h]
theorem bit_set (s c : Nat) : updV s.testBit c true = (s ||| 1 <<< c).testBit := by
  funext j
  unfold updV
  rw [Nat.testBit_or, Nat.testBit_shiftLeft]
  by_cases e : j = c
  · subst e; simp
  · rw [if_neg e]
    have h1 : ∀ m, Nat.testBit 1 m = decide (m = 0) := fun m => by
      cases m with
      | zero => rfl
      | succ m => rw [Nat.testBit_succ, show (1 : Nat) / 2 = 0 from rfl, Nat.zero_testBit]; rfl
    rw [h1]
    by_cases h : j ≥ c
    · have : ¬ j - c = 0 := by omega
      simp [this]
    · simp [h]
set_option maxRecDepth 100000 in
set_option maxHeartbeats 8000000 in
theorem BruijnOf_any (k n : Nat) (w : World) (hk1 : 1 ≤ k) (hk10 : k ≤ 10) (hn1 : 1 ≤ n) (hn12 : n ≤ 12) (h4096 : k ^ n ≤ 4096) :
    Calls Try.prog 23 #[.int .i64 (k : Int), .int .i64 (n : Int)] w fun e w' => (∃ y, e = .returned y ∧ ORow w' w.heap.size y (bru k (k ^ n) (k ^ n) (k ^ n - 1) 0)) ∧ Below w.heap.size w w' := by
  obtain ⟨i3, ki3, kz0, kz1, kz2⟩ := info3
  have HPW : Hid (∀ i, i ≤ n → k ^ i ≤ 4096) := fun i hi => Nat.le_trans (Nat.pow_le_pow_right hk1 hi) h4096
  have hch := chB_at hk1 hk10 hn1 hn12 h4096
  have hA1 : 1 ≤ k ^ n := Nat.one_le_pow _ _ hk1
  obtain ⟨A, HA⟩ : ∃ A, Hid (k ^ n = A) := ⟨_, rfl⟩
  rw [HA.out] at hch h4096 hA1 ⊢
  have HCH : Hid (chB k A A (A - 1) 0 = true) := hch
  obtain ⟨Z, HZ⟩ : ∃ Z, Hid (bru k A A (A - 1) 0 = Z) := ⟨_, rfl⟩
  rw [HZ.out]
  have hmk : ∀ w : World, (Instr.makeSlice 44 (.int .i64 (A : Int)) (.int .i64 (A : Int))).run Try.prog w = .ok (.slice (some ⟨w.heap.size, 0, none⟩) A A) (w.alloc (.cells (madeCells #[.bool false] A) 4)) := fun w => run_makeB A (by omega) w
  have hO0 : OwV 4 Value.bool (w.alloc (.cells (madeCells #[.bool false] A) 4)) w.heap.size A (Nat.testBit 0) := OwV.made A w _ _ (by intro j; simp)
  have hB0 := balloc w (.cells (madeCells #[.bool false] A) 4)
  have hAw : IntKind.i64.wrap ((A : Int) - 1) = ((A - 1 : Nat) : Int) := by
    rw [show (A : Int) - 1 = ((A - 1 : Nat) : Int) by omega]
    exact IntWalk.i64_in _ (by omega)
  obtain ⟨g, Hg⟩ : ∃ g, Hid (w.heap.size = g) := ⟨_, rfl⟩
  clear hch
  go_enter Try.func23, Try.ntmps23
  go_wp2
  go_loopw [5, 6] (fun pv iv wr => ∃ (i p : Nat), iv = .int .i64 (i : Int) ∧ pv = .int .i64 (p : Int) ∧ i ≤ n ∧ Hid (k ^ i = p) ∧ wr = w) (fun _ iv _ => (n - intOf iv).toNat)
  case atStart => exact ⟨0, 1, rfl, rfl, by omega, rfl, rfl⟩
  case round =>
    obtain ⟨i, p, rfl, rfl, hi, HP, e1⟩ := hrel
    subst e1
    by_cases hlt : i < n
    · have hdi : decide ((i : Int) < (n : Int)) = true := by simp; omega
      have hii : (i : Int) < (n : Int) := by omega
      obtain ⟨q, Hq⟩ : ∃ q, Hid (p * k = q) := ⟨_, rfl⟩
      have HP2 : Hid (k ^ (i + 1) = q) := by show _ = _; rw [Nat.pow_succ, HP.out]; exact Hq.out
      have hq18 : q ≤ 4096 := by rw [← HP2.out]; exact HPW.out _ (by omega)
      have eq1 : (p : Int) * (k : Int) = (q : Int) := by rw [← Hq.out]; simp
      have hqw : IntKind.i64.wrap (q : Int) = (q : Int) := IntWalk.i64_in _ (by omega)
      clear hO0 hB0 hmk hAw
      go_wp2
      go_roundw
      case rel => exact ⟨i + 1, q, by go_num, rfl, by omega, HP2, trivial⟩
      case measure => simp [intOf]; omega
    · have hdi : decide ((i : Int) < (n : Int)) = false := by simp; omega
      obtain rfl : i = n := by omega
      obtain rfl : A = p := by rw [← HA.out, ← HP.out]
      rw [Hg.out] at hO0 hB0
      have hgb : g ≤ wr.heap.size := by have := Hg.out; omega
      have hown0 := World.ownsRow_nil (wr.alloc (.cells (madeCells #[.bool false] A) 4)) (g + 1) 3 1
      go_wp2
      rw [Hg.out]
      go_loopw [8, 9, 10] (fun cv ov iv vr => ∃ (i c s : Nat) (P : List Nat) (oa : Option Addr) (oc : Nat), iv = .int .i64 (i : Int) ∧ cv = .int .i64 (c : Int) ∧ ov = .slice oa i oc ∧ i ≤ A ∧ c < A ∧ Hid (chB k A (A - i) c s = true) ∧ Hid (Z = P ++ bru k A (A - i) c s) ∧ OwV 4 Value.bool vr g A s.testBit ∧ vr.ownsRow (g + 1) 3 1 (.slice oa i oc) i (nz P) ∧ Below g wr vr) (fun _ _ iv _ => (A - intOf iv).toNat)
      case atStart => exact ⟨0, A - 1, 0, [], none, 0, rfl, rfl, rfl, by omega, by omega, HCH.out, HZ.out.symm, hO0, hown0, hB0⟩
      case round =>
        clear hO0 hown0 hB0 hmk hAw
        obtain ⟨i, c, s, P, oa, oc, rfl, rfl, rfl, hi, hc, HCB, HBR, hO, hown, hB⟩ := hrel
        by_cases hlA : i < A
        · have hdA : decide ((i : Int) < (A : Int)) = true := by simp; omega
          have hiA : (i : Int) < (A : Int) := by omega
          obtain ⟨j, Hj⟩ : ∃ j, Hid (A - i = j + 1) := ⟨A - i - 1, by show _ = _; omega⟩
          have hj2 : A - (i + 1) = j := by have := Hj.out; omega
          have h1 := HCB.out
          have h2 := HBR.out
          rw [Hj.out] at h1 h2
          rw [chB_step, Bool.and_eq_true] at h1
          have hX := of_decide_eq_true h1.1
          rw [bru_step hX] at h2
          have hF := frX_is k A c s k 0
          obtain ⟨X, HX⟩ : ∃ X, Hid (frX k A c s k 0 = X) := ⟨_, rfl⟩
          rw [HX.out] at h1 h2 hX hF
          have HFT : Hid (∀ y, y < X → s.testBit ((c * k + y) % A) = true) := fun y hy => hF.2.2.1 y (Nat.zero_le _) hy
          have hFF := hF.2.2.2 (by omega)
          obtain ⟨d, Hd⟩ : ∃ d, Hid ((c * k + X) % A = d) := ⟨_, rfl⟩
          rw [Hd.out] at h1 h2 hFF
          have HCB2 : Hid (chB k A (A - (i + 1)) d (s ||| 1 <<< d) = true) := by show _ = _; rw [hj2]; exact h1.2
          have HBR2 : Hid (Z = (P ++ [X]) ++ bru k A (A - (i + 1)) d (s ||| 1 <<< d)) := by show _ = _; rw [hj2, List.append_assoc]; exact h2
          have hdl : d < A := by rw [← Hd.out]; exact Nat.mod_lt _ (by omega)
          obtain ⟨t, Ht⟩ : ∃ t, Hid (c * k = t) := ⟨_, rfl⟩
          have ht4 : t ≤ 40960 := by rw [← Ht.out]; exact Nat.mul_le_mul (show c ≤ 4096 by omega) hk10
          have et : (c : Int) * (k : Int) = (t : Int) := by rw [← Ht.out]; simp
          have htw : IntKind.i64.wrap (t : Int) = (t : Int) := IntWalk.i64_in _ (by omega)
          have hA0 : ¬ A = 0 := by omega
          clear h1 h2 hF
          go_wp2
          go_loopw [8, 9, 11] (fun cv ov xv ur => ∃ x : Nat, xv = .int .i64 (x : Int) ∧ cv = .int .i64 (c : Int) ∧ ov = .slice oa i oc ∧ x ≤ X ∧ ur = wr) (fun _ _ xv _ => (k - intOf xv).toNat)
          case atStart => exact ⟨0, rfl, rfl, rfl, by omega, rfl⟩
          case round =>
            obtain ⟨x, rfl, rfl, rfl, hx, e2⟩ := hrel
            subst e2
            have hdx : decide ((x : Int) < (k : Int)) = true := by simp; omega
            have hxk : (x : Int) < (k : Int) := by omega
            have hxw : IntKind.i64.wrap ((t : Int) + (x : Int)) = (t : Int) + (x : Int) := IntWalk.i64_in _ (by omega)
            obtain ⟨f, Hf⟩ : ∃ f, Hid ((c * k + x) % A = f) := ⟨_, rfl⟩
            have hfl : f < A := by rw [← Hf.out]; exact Nat.mod_lt _ (by omega)
            have ef : ((t : Int) + (x : Int)).tmod (A : Int) = (f : Int) := by rw [← Hf.out, Ht.out]; rfl
            have hfA : (f : Int) < (A : Int) := by omega
            have cf := hO.cell f hfl
            by_cases hxX : x < X
            · have hb := HFT.out x hxX
              rw [Hf.out] at hb
              rw [hb] at cf
              go_wp2
              go_roundw
              case rel => exact ⟨x + 1, by go_num, rfl, rfl, by omega, trivial⟩
              case measure => simp [intOf]; omega
            · obtain rfl : x = X := by omega
              obtain rfl : f = d := by rw [← Hf.out, ← Hd.out]
              rw [hFF] at cf
              have hfz := hO.frozen f
              have hO2 := hO.set f true
              rw [bit_set] at hO2
              have hown2 := ownsRow_setCell_below hown (a := ⟨g, f, none⟩) (by show g < g + 1; omega) (.bool true)
              have hB2 := hB.setCell (p := ⟨g, f, none⟩) (Nat.le_refl _) (.bool true)
              have hgl := hO.lt
              clear hO hown hB
              go_wp2_with (first
                | (at_builtin; refine wpList_append_own _ rfl _ _ 22 rfl (g + 1) 3 i3 (.int .i64 0) 1 8 und22 ki3 kz0 kz1 kz2 rfl (by decide) _ _ _ rfl (hown2.alloc _) ⟨_, 0, none⟩ 1 1 [.int .i64 (x : Int)] rfl rfl ?c1 ?c2 ?c3 ?c4 ?c5 ?_)
                | go_in)
              case c1 =>
                intro j u hj
                match j, hj with
                | 0, hj => simp at hj; subst hj; exact newCellZ _ _ _ (by simp)
              case c2 => intro u hu; simp at hu; subst hu; rfl
              case c3 => unfold maxLen; omega
              case c4 => omega
              case c5 => simp; omega
              · intro v' w6 hown' hgrow _
                have hb6 := ((Below.refl (g + 1) _).alloc (by simp; omega) (.cells #[.int .i64 (x : Int)] 3)).grown hgrow (by simp; omega) (fun k hk => (hown2.lt k hk).1)
                have hO6 := hO2.low hb6 (Nat.lt_succ_self g)
                have hB6 := hB2.trans (hb6.mono (Nat.le_succ g))
                rw [show nz P ++ [Value.int .i64 (x : Int)] = nz (P ++ [x]) from (nz_more P x).symm] at hown'
                obtain ⟨xa, xc, rfl⟩ := own_form hown'
                go_wp2
                go_roundw
                case rel => exact ⟨i + 1, f, s ||| 1 <<< f, P ++ [x], xa, xc, by go_num, rfl, rfl, by omega, hfl, HCB2, HBR2, hO6, hown', hB6⟩
                case measure => simp [intOf]; omega
        · have hdA : decide ((i : Int) < (A : Int)) = false := by simp; omega
          obtain rfl : i = A := by omega
          have HZP : Hid (Z = P) := by
            show _ = _
            have := HBR.out
            rw [Nat.sub_self] at this
            rw [this]; show P ++ [] = P; rw [List.append_nil]
          have hPl : i = P.length := by have := hown.1; simp [nz] at this; omega
          go_wp2
          go_ret
          exact ⟨⟨_, rfl, by rw [HZP.out]; unfold ORow; rw [← hPl, Hg.out]; exact own_up hown (Nat.le_succ g)⟩, by rw [Hg.out]; exact hB⟩
end Go.Proofs.Ytcjkcgfohmhbcaa
