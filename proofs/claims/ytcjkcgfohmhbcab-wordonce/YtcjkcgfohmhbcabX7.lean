/- The landed way to the word behind, walked. -/
import Derived.Test.YtcjkcgfohmhbcabX3
import Derived.Test.YtcjkcgfohmhbcabWxA
namespace Go.Proofs.Ytcjkcgfohmhbcab
open Go.RowKit

def cyF (M : List Nat) (i : Nat) : Nat → Nat := fun j => if j < i then M.getD (j % M.length) 0 else 0
theorem cyF_set (M : List Nat) (i : Nat) : updV (cyF M i) i (M.getD (i % M.length) 0) = cyF M (i + 1) := by
  funext j
  unfold updV cyF
  by_cases e : j = i
  · rw [if_pos e, if_pos (by omega), e]
  · rw [if_neg e]
    by_cases h : j < i
    · rw [if_pos h, if_pos (by omega)]
    · rw [if_neg h, if_neg (by omega)]
theorem take_rev {L : List Nat} {q : Nat} (h : q < L.length) : (L.take (q + 1)).reverse = L.getD q 0 :: (L.take q).reverse := by
  rw [List.take_add_one, List.reverse_append, List.getElem?_eq_getElem h, List.getD_eq_getElem?_getD, List.getElem?_eq_getElem h]
  rfl
theorem raR_yes {k x : Nat} (t : List Nat) (h : x + 1 = k) : raR k (x :: t) = raR k t := by
  show (match Nat.beq (Nat.succ x) k with
    | true => raR k t
    | false => Nat.succ x :: t) = _
  rw [show Nat.beq (Nat.succ x) k = true from Nat.beq_eq.symm ▸ h]
theorem raR_no {k x : Nat} (t : List Nat) (h : ¬ x + 1 = k) : raR k (x :: t) = (x + 1) :: t := by
  show (match Nat.beq (Nat.succ x) k with
    | true => raR k t
    | false => Nat.succ x :: t) = _
  cases e : Nat.beq (Nat.succ x) k with
  | true => exact absurd (Nat.eq_of_beq_eq_true e) h
  | false => rfl
theorem up_at {L : List Nat} {q x j : Nat} (hq : q < L.length) (hj : j < q + 1) : (L.take q ++ [x + 1]).getD j 0 = updV (fun j => L.getD j 0) q (x + 1) j := by
  have hl : (L.take q).length = q := by rw [List.length_take]; omega
  unfold updV
  by_cases e : j = q
  · rw [if_pos e, e, List.getD_eq_getElem?_getD, List.getElem?_append_right (by omega), hl, Nat.sub_self]; rfl
  · rw [if_neg e, List.getD_eq_getElem?_getD, List.getElem?_append_left (by omega), List.getElem?_take, if_pos (by omega)]
    exact (List.getD_eq_getElem?_getD ..).symm
set_option maxRecDepth 100000 in
set_option maxHeartbeats 8000000 in
theorem following_any (k n : Nat) (M : List Nat) (v : Value) (w : World) (hv : Wd w v M) (hk : 1 ≤ k) (hk10 : k ≤ 10) (hn : n ≤ 4096) (h0 : 0 < M.length) (hl : M.length ≤ 4096) (hM : ∀ x ∈ M, x ≤ 9) :
    Calls Try.prog 19 #[.int .i64 (k : Int), .int .i64 (n : Int), v] w fun e w' => (∃ y, e = .returned y ∧ Wd w' y (nxt k n M) ∧ ∃ m c, y = .slice (some ⟨w.heap.size, 0, none⟩) m c) ∧ Below w.heap.size w w' := by
  obtain ⟨b, o, c, rfl, hc⟩ := hv.some h0
  have HWR : Hid (∀ W, Below w.heap.size w W → ∀ i, i < M.length → W.cell? ⟨b, o + i, none⟩ = some (.int .i64 ((M.getD i 0 : Nat) : Int))) := fun W bW i hi => (hv.below bW).cellAt hi
  have hmk : ∀ w : World, (Instr.makeSlice 23 (.int .i64 (n : Int)) (.int .i64 (n : Int))).run Try.prog w = .ok (.slice (some ⟨w.heap.size, 0, none⟩) n n) (w.alloc (.cells (madeCells #[.int .i64 0] n) 3)) := fun w => run_makeN n (by omega) w
  have hO0 : OwV 3 nV (w.alloc (.cells (madeCells #[.int .i64 0] n) 3)) w.heap.size n (cyF M 0) := OwV.made n w _ _ (by intro j; unfold cyF; rw [if_neg (by omega)]; rfl)
  have hB0 := balloc w (.cells (madeCells #[.int .i64 0] n) 3)
  have HST : Hid (∀ i, updV (cyF M i) i (M.getD (i % M.length) 0) = cyF M (i + 1)) := cyF_set M
  obtain ⟨L, HL⟩ : ∃ L, Hid (cyc n M = L) := ⟨_, rfl⟩
  have HLL : Hid (L.length = n) := by show _ = _; rw [← HL.out, cyc_len]
  have HLA : Hid (∀ j, j < n → cyF M n j = L.getD j 0) := fun j hj => by
    rw [← HL.out, cyc_at M hj]; unfold cyF; rw [if_pos hj]
  have HL9 : Hid (∀ j, j < n → L.getD j 0 ≤ 9) := fun j hj => by
    rw [← HL.out, cyc_at M hj]
    have hi := Nat.mod_lt j h0
    rw [List.getD_eq_getElem?_getD, List.getElem?_eq_getElem hi]
    exact hM _ (List.getElem_mem hi)
  obtain ⟨Z, HZ⟩ : ∃ Z, Hid (raR k L.reverse = Z) := ⟨_, rfl⟩
  have HNX : Hid (nxt k n M = Z.reverse) := by show _ = _; unfold nxt; rw [HL.out, HZ.out]
  have HZ0 : Hid (raR k (L.take n).reverse = Z) := by show _ = _; rw [List.take_of_length_le (by rw [HLL.out]; exact Nat.le_refl _)]; exact HZ.out
  rw [HNX.out]
  obtain ⟨g, Hg⟩ : ∃ g, Hid (w.heap.size = g) := ⟨_, rfl⟩
  have hM9 : Hid (∀ i, i < M.length → M.getD i 0 ≤ 9) := fun i hi => by
    rw [List.getD_eq_getElem?_getD, List.getElem?_eq_getElem hi]
    exact hM _ (List.getElem_mem hi)
  have HG0 : Hid (∀ W (f : Nat → Nat), OwV 3 nV W g n f → (∀ j, j < n → f j = L.getD j 0) → OwV 3 nV W g n (fun j => L.getD j 0)) := fun W f h e => h.congr e
  obtain ⟨m, Hm⟩ : ∃ m, Hid (M.length = m) := ⟨_, rfl⟩
  rw [Hm.out] at HWR HST hM9 h0 hl hc ⊢
  have hbg : b < g := by
    have := World.block_lt_of_cell? _ _ (HWR.out w (Below.refl _ _) 0 h0)
    rw [Hg.out] at this; exact this
  clear hv hM HZ HNX HL
  have hm0 : ¬ m = 0 := by omega
  go_enter Try.func19, Try.ntmps19
  go_wp2
  rw [Hg.out] at hO0 hB0 ⊢
  go_loopw [8, 13] (fun _ iv wr => ∃ (i : Nat), iv = .int .i64 (i : Int) ∧ i ≤ n ∧ OwV 3 nV wr g n (cyF M i) ∧ Below g w wr) (fun _ iv _ => (n - intOf iv).toNat)
  case atStart => exact ⟨0, rfl, by omega, hO0, hB0⟩
  case round =>
    clear hO0 hB0 hmk
    obtain ⟨i, rfl, hi, hO, hB⟩ := hrel
    by_cases hlt : i < n
    · have hdi : decide ((i : Int) < (n : Int)) = true := by simp; omega
      have hii : (i : Int) < (n : Int) := by omega
      obtain ⟨r, Hr⟩ : ∃ r, Hid (i % m = r) := ⟨_, rfl⟩
      have er : (i : Int).tmod (m : Int) = (r : Int) := by rw [← Hr.out]; rfl
      have hrm : r < m := by rw [← Hr.out]; exact Nat.mod_lt i h0
      have hrmi : (r : Int) < (m : Int) := by omega
      have hcx := HWR.out wr (by rw [Hg.out]; exact hB) r hrm
      have hst := HST.out i
      obtain ⟨x, Hx⟩ : ∃ x, Hid (M.getD r 0 = x) := ⟨_, rfl⟩
      rw [Hr.out, Hx.out] at hst
      rw [Hx.out] at hcx
      have hf := hO.frozen i
      have hO2 := hO.set i x
      rw [hst] at hO2
      have hB2 : Below g w (wr.setCell ⟨g, i, none⟩ (nV x)) := hB.setCell (Nat.le_refl _) _
      have hcg := hO.cell i hlt
      clear hst
      go_wp2
      go_roundw
      case rel => exact ⟨i + 1, by go_num, by omega, hO2, hB2⟩
      case measure => simp [intOf]; omega
    · have hdi : decide ((i : Int) < (n : Int)) = false := by simp; omega
      obtain rfl : i = n := by omega
      have hOL := HG0.out wr _ hO HLA.out
      clear hO hlt hi HST HLA HG0
      go_wp2
      go_loopw [7] (fun sv ur => ∃ (r : Nat), sv = .slice (some ⟨g, 0, none⟩) r i ∧ r ≤ i ∧ Hid (raR k (L.take r).reverse = Z) ∧ ur = wr) (fun sv _ => slLen sv)
      case atStart => exact ⟨i, rfl, Nat.le_refl _, HZ0.out, rfl⟩
      case round =>
        obtain ⟨r, rfl, hr, HR, e1⟩ := hrel
        subst e1
        rcases Nat.lt_or_ge 0 r with hr0 | hr0
        · obtain ⟨q, rfl⟩ : ∃ q, r = q + 1 := ⟨r - 1, by omega⟩
          have hcx := hOL.cell q (by omega)
          have h9 := HL9.out q (by omega)
          have hR := HR.out
          rw [take_rev (by rw [HLL.out]; omega)] at hR
          obtain ⟨x, Hx⟩ : ∃ x, Hid (L.getD q 0 = x) := ⟨_, rfl⟩
          rw [Hx.out] at h9 hR
          have hcx2 : wr.cell? ⟨g, q, none⟩ = some (Value.int .i64 (x : Int)) := by rw [← Hx.out]; exact hcx
          clear hcx
          have ei : ((q + 1 : Nat) : Int) - 1 = (q : Int) := by omega
          have hqi : (q : Int) < ((q + 1 : Nat) : Int) := by omega
          have hqc : (q : Int) ≤ (i : Int) := by omega
          have hd0 : decide (0 < q + 1) = true := by simp
          by_cases hx : x + 1 = k
          · have he : ((x : Int) == (k : Int) - 1) = true := by simp; omega
            have HR2 : Hid (raR k (L.take q).reverse = Z) := by show _ = _; rw [← hR, raR_yes _ hx]
            clear hR hx
            go_wp2
            go_roundw
            case rel => exact ⟨q, rfl, by omega, HR2, trivial⟩
            case measure => simp [slLen]
          · have he : ((x : Int) == (k : Int) - 1) = false := by simp; omega
            rw [raR_no _ hx] at hR
            clear hx
            have hxw : IntKind.i64.wrap ((x : Int) + 1) = (x : Int) + 1 := IntWalk.i64_in _ (by omega)
            have hf := hOL.frozen q
            have hO2 := hOL.set q (x + 1)
            have hB2 : Below g w (wr.setCell ⟨g, q, none⟩ (nV (x + 1))) := hB.setCell (Nat.le_refl _) _
            have HWD : Hid (∀ W, OwV 3 nV W g i (updV (fun j => L.getD j 0) q (x + 1)) → Wd W (.slice (some ⟨g, 0, none⟩) (q + 1) i) Z.reverse) := fun W h => by
              rw [← hR, List.reverse_cons, List.reverse_reverse]
              exact h.wd (by rw [List.length_append, List.length_take, HLL.out, Nat.min_eq_left (by omega)]; rfl) (by omega) (by omega) fun j hj => up_at (by rw [HLL.out]; omega) hj
            clear hR
            go_wp2
            go_ret
            exact ⟨⟨_, rfl, HWD.out _ hO2, q + 1, i, by rw [Hg.out]; rfl⟩, by rw [Hg.out]; exact hB2⟩
        · obtain rfl : r = 0 := by omega
          have HZE : Hid ([] = Z) := HR.out
          go_wp2
          go_ret
          exact ⟨⟨_, rfl, by rw [← HZE.out]; exact ⟨_, i, rfl, Nat.zero_le _, fun _ hj => absurd hj (Nat.not_lt_zero _)⟩, 0, i, by rw [Hg.out]; rfl⟩, by rw [Hg.out]; exact hB⟩
end Go.Proofs.Ytcjkcgfohmhbcab
