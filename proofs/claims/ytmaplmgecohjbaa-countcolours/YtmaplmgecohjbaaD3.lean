/- The walks of the document's ColouringsOf, ContentOf. -/
import Derived.Test.YtmaplmgecohjbaaPList
import Derived.Test.YtmaplmgecohjbaaCNum
import Derived.Test.YtmaplmgecohjbaaP25
import Derived.Test.YtmaplmgecohjbaaGB
import Derived.Test.YtmaplmgecohjbaaCCls
import Derived.Deep.RegionHeld3
import Derived.OrdersHeld
import Derived.Test.YtmaplmgecohjbaaC1
import Derived.Test.YtmaplmgecohjbaaG11
import Derived.Test.YtmaplmgecohjbaaCCon
import Derived.Test.YtmaplmgecohjbaaP14
/- The walks of the document's Digits, moved. -/
/- The walk of the document's Number. -/
namespace Go.Proofs.Ytmaplmgecohjbaa
open Go.RowKit

theorem numL_inj {b : Nat} : ∀ {l m : List Nat}, (∀ x ∈ l, x < b) → (∀ x ∈ m, x < b) → l.length = m.length → numL b l = numL b m → l = m
  | [], [], _, _, _, _ => rfl
  | x :: l, y :: m, hl, hm, hlen, h => by
    have hx := hl x (by simp)
    have hy := hm y (by simp)
    rw [numL, numL] at h
    have e1 : x = y := by
      have := congrArg (· % b) h
      simp only [Nat.add_mul_mod_self_left, Nat.mod_eq_of_lt hx, Nat.mod_eq_of_lt hy] at this
      exact this
    subst e1
    have e2 : numL b l = numL b m := Nat.eq_of_mul_eq_mul_left (by omega : 0 < b) (by omega)
    rw [numL_inj (fun z hz => hl z (by simp [hz])) (fun z hz => hm z (by simp [hz])) (by simpa using hlen) e2]
theorem numL_drop (b : Nat) (l : List Nat) {i : Nat} (hi : i < l.length) : numL b (l.drop i) = numL b (l.drop (i + 1)) * b + l.getD i 0 := by
  rw [List.drop_eq_getElem_cons hi, numL, Nat.mul_comm]
  simp [List.getD_eq_getElem?_getD, hi]
  omega

set_option maxRecDepth 100000 in
set_option maxHeartbeats 1000000 in
theorem Number_any (b : Nat) (l : List Nat) (v : Value) (w : World) (hb : b ≤ 7) (hv : Sl w v (l.map Int.ofNat)) (hl : l.length ≤ 7) (hx : ∀ x ∈ l, x < b) :
    Calls Try.prog 84 #[v, .int .i64 (b : Int)] w fun e w' => e = .returned (.int .i64 (numL b l : Int)) ∧ w' = w := by
  obtain ⟨m, Hm⟩ : ∃ m, Hid (l.length = m) := ⟨_, rfl⟩
  obtain ⟨a, cap, rfl, hcv⟩ := hv
  rw [List.length_map] at hcv ⊢
  rw [Hm.out] at hcv hl ⊢
  have HV : Hid (∀ j, j < m → ∃ B off, a = some ⟨B, off, none⟩ ∧ w.cell? ⟨B, off + j, none⟩ = some (.int .i64 (l.getD j 0 : Int))) := fun j hj => by
    obtain ⟨B, off, e, h⟩ := hcv j hj
    refine ⟨B, off, e, ?_⟩
    rw [h]
    have : j < l.length := by rw [Hm.out]; exact hj
    simp [this]
  have HND : Hid (∀ i, i < m → numL b (l.drop i) = numL b (l.drop (i + 1)) * b + l.getD i 0) := fun i hi => numL_drop b l (by rw [Hm.out]; exact hi)
  have HBD : Hid (∀ i, numL b (l.drop i) ≤ 823543 ∧ ∀ i, i < m → l.getD i 0 < 7) := fun i => by
    refine ⟨?_, fun i hi => ?_⟩
    · by_cases h0 : 0 < b
      · have h1 := numL_lt h0 (l := l.drop i) (fun x h => hx x (List.mem_of_mem_drop h))
        have h2 : b ^ (l.drop i).length ≤ 7 ^ 7 := Nat.le_trans (Nat.pow_le_pow_left hb _) (Nat.pow_le_pow_right (by omega) (by rw [List.length_drop, Hm.out]; omega))
        have h3 : (7 : Nat) ^ 7 = 823543 := by decide
        omega
      · have : l = [] := by
          cases l with
          | nil => rfl
          | cons x t => have := hx x (by simp); omega
        rw [this]; simp [numL]
    · have h1 : i < l.length := by rw [Hm.out]; exact hi
      have := hx (l.getD i 0) (by simp [List.getD_eq_getElem?_getD, h1])
      omega
  clear hcv hx
  go_enter Try.func84, Try.ntmps84
  go_wp2
  go_loopw [5, 6] (fun o iv wr => ∃ i : Nat, o = .int .i64 (numL b (l.drop i) : Int) ∧ iv = .int .i64 ((i : Int) - 1) ∧ i ≤ m ∧ wr = w) (fun _ iv _ => (intOf iv + 1).toNat)
  case atStart => exact ⟨m, by rw [← Hm.out, List.drop_length]; rfl, rfl, by omega, rfl⟩
  case round =>
    obtain ⟨i, rfl, rfl, hi, rfl⟩ := hrel
    by_cases hp : 0 < i
    · obtain ⟨k, rfl⟩ : ∃ k, i = k + 1 := ⟨i - 1, by omega⟩
      have hki : ((k + 1 : Nat) : Int) - 1 = (k : Int) := by omega
      have hk0 : (0 : Int) ≤ (k : Int) := by omega
      have hkd : decide ((0 : Int) ≤ (k : Int)) = true := decide_eq_true hk0
      have hkm : (k : Int) < m := by omega
      obtain ⟨B, off, rfl, hc⟩ := HV.out k (by omega)
      have hnd := HND.out k (by omega)
      have hb1 := (HBD.out (k + 1)).1
      have hb2 := (HBD.out 0).2 k (by omega)
      obtain ⟨x, Hx⟩ : ∃ x, Hid (l.getD k 0 = x) := ⟨_, rfl⟩
      obtain ⟨y, Hy⟩ : ∃ y, Hid (numL b (l.drop (k + 1)) = y) := ⟨_, rfl⟩
      rw [Hx.out] at hc hnd hb2
      rw [Hy.out] at hnd hb1 ⊢
      have HN : Hid (numL b (l.drop k) = y * b + x) := hnd
      have hyb : y * b ≤ 823543 * 7 := Nat.mul_le_mul hb1 hb
      have hybi : (y : Int) * (b : Int) ≤ 5764801 := by have : ((y * b : Nat) : Int) ≤ 5764801 := by omega
                                                        simpa using this
      have hyb0 : (0 : Int) ≤ (y : Int) * (b : Int) := by have : (0 : Int) ≤ ((y * b : Nat) : Int) := by omega
                                                          simpa using this
      clear hnd
      rw [hki]
      go_wp2
      go_roundw
      case rel => exact ⟨k, by rw [HN.out]; go_num, by go_num, by omega, trivial⟩
      case measure => simp [intOf]
    · obtain rfl : i = 0 := by omega
      have hkd : decide ((0 : Int) ≤ ((0 : Nat) : Int) - 1) = false := by decide
      go_wp2
      go_ret
      exact ⟨rfl, rfl⟩

end Go.Proofs.Ytmaplmgecohjbaa

namespace Go.Proofs.Ytmaplmgecohjbaa
open Go.RowKit

theorem dig_snoc (b : Nat) : ∀ n c, dig b (n + 1) c = dig b n c ++ [c / b ^ n % b]
  | 0, c => by simp [dig]
  | n + 1, c => by
    rw [dig, dig_snoc b n (c / b)]
    rw [dig]
    simp only [List.cons_append]
    rw [Nat.div_div_eq_div_mul, Nat.pow_succ, Nat.mul_comm b]
theorem vl_app (l : List Nat) (x : Nat) : vl (l ++ [x]) = vl l ++ [.int .i64 (x : Int)] := by simp [vl]

set_option maxRecDepth 100000 in
set_option maxHeartbeats 1000000 in
theorem Digits_any (b n c : Nat) (w : World) (hb : 1 ≤ b) (hb7 : b ≤ 7) (hn : n ≤ 7) (hc : c ≤ 1000000) :
    Calls Try.prog 50 #[.int .i64 (c : Int), .int .i64 (b : Int), .int .i64 (n : Int)] w fun e w' => (∃ y, e = .returned y ∧ w'.ownsRow w.heap.size 3 1 y n (vl (dig b n c))) ∧ Below w.heap.size w w' := by
  obtain ⟨i3, ti, tz0, tz1, tz2⟩ := info3
  have hb0 : (b : Int) ≠ 0 := by omega
  have hbp : (0 : Int) < b := by omega
  go_enter Try.func50, Try.ntmps50
  go_wp2
  go_loopw [0, 7, 8] (fun q o i wr => ∃ (j d : Nat), i = .int .i64 (j : Int) ∧ j ≤ n ∧ q = .int .i64 (d : Int) ∧ d ≤ c ∧ Hid (d = c / b ^ j) ∧ wr.ownsRow w.heap.size 3 1 o j (vl (dig b j c)) ∧ Below w.heap.size w wr) (fun _ _ i _ => (n - intOf i).toNat)
  case atStart => exact ⟨0, c, rfl, by omega, rfl, Nat.le_refl _, (by simp : c = c / b ^ 0), World.ownsRow_nil _ _ _ _, Below.refl _ _⟩
  case round =>
    obtain ⟨j, d, rfl, hj, rfl, hd, HD, hO, hB⟩ := hrel
    have hsz := hB.size
    obtain ⟨o, rfl⟩ : ∃ o, o = u7 := ⟨_, rfl⟩
    by_cases hlt : j < n
    · have hji : (j : Int) < n := by omega
      have hdec : decide ((j : Int) < n) = true := by simp; omega
      have hmo : (d : Int) % (b : Int) = ((d % b : Nat) : Int) := by simp
      have hdi : (d : Int) / (b : Int) = ((d / b : Nat) : Int) := by simp
      have hmb := Nat.mod_lt d (show 0 < b by omega)
      have hdb : d / b ≤ d := Nat.div_le_self _ _
      obtain ⟨x, Hx⟩ : ∃ x, Hid (d % b = x) := ⟨_, rfl⟩
      obtain ⟨q, Hq⟩ : ∃ q, Hid (d / b = q) := ⟨_, rfl⟩
      rw [Hx.out] at hmo hmb
      rw [Hq.out] at hdi hdb
      go_wp2_with (first
        | (at_builtin; refine wpList_append_own _ rfl _ _ 40 rfl w.heap.size 3 i3 (.int .i64 0) 1 8 und22 ti tz0 tz1 tz2 rfl (by decide) _ _ _ rfl (hO.alloc _) ⟨wr.heap.size, 0, none⟩ 1 1 [.int .i64 (x : Int)] rfl rfl ?c1 ?c2 ?c3 ?c4 ?c5 ?_)
        | go_in)
      case c1 =>
        intro i u hq
        match i, hq with
        | 0, hq => simp at hq; subst hq; exact cell_new _ _ _ _ rfl
      case c2 => intro u hu; simp at hu; subst hu; rfl
      case c3 => unfold maxLen; omega
      case c4 => omega
      case c5 => simp; omega
      intro o' w2 hO2 hg2 _
      have hU2 : Below w.heap.size wr w2 := ((Below.refl _ _).alloc (by omega) _).grown hg2 (by simp; omega) (fun k hk => (hO.lt k hk).1)
      have hB2 := hB.trans hU2
      clear hU2 hg2 hO hB
      go_wp2
      go_roundw
      case rel =>
        refine ⟨j + 1, q, by go_num, by omega, rfl, by omega, ?_, ?_, hB2⟩
        · show q = _
          rw [← Hq.out, HD.out, Nat.div_div_eq_div_mul, Nat.pow_succ]
        · rw [dig_snoc, vl_app, ← HD.out, Hx.out]; exact hO2
      case measure => simp [intOf]; omega
    · have hdec : decide ((j : Int) < n) = false := by simp; omega
      obtain rfl : j = n := by omega
      go_wp2
      go_ret
      exact ⟨⟨_, rfl, hO⟩, hB⟩

theorem run_make3 (n : Nat) (hn : n ≤ 100000000) (w : World) : (Instr.makeSlice 40 (.int .i64 (n : Int)) (.int .i64 (n : Int))).run Try.prog w = .ok (.slice (some ⟨w.heap.size, 0, none⟩) n n) (w.alloc (.cells (madeCells #[.int .i64 0] n) 3)) := by
  obtain ⟨i3, hi, hz0, hz1, hz2⟩ := info3
  have h := run_make (P := Try.prog) w 40 3 i3 (.int .i64 0) und22 hi hz0 .i64 .i64 n n (by omega) (by omega) (by rw [hz2]; omega) (by omega)
  simpa [hz1, Value.cells] using h
theorem own_made (w : World) (n : Nat) : Own (w.alloc (.cells (madeCells #[.int .i64 0] n) 3)) w.heap.size n (fun _ => 0) := by
  refine ⟨_, heap_alloc_new w _, fun j hj => ?_⟩
  rw [Array.getElem?_eq_getElem (by rw [size_madeCells]; exact hj)]
  simp [madeCells, Nat.mod_one]

set_option maxRecDepth 100000 in
set_option maxHeartbeats 2000000 in
theorem moved_any (n k c : Nat) (a : List Nat) (v : Value) (w : World) (h1 : 1 ≤ n) (hn : n ≤ 7) (hk : 1 ≤ k) (hk3 : k ≤ 7) (hc : c ≤ 1000000) (hv : Sl w v (a.map Int.ofNat)) (ha : IsP n a) :
    Calls Try.prog 67 #[.int .i64 (c : Int), v, .int .i64 (k : Int)] w fun e w' => e = .returned (.int .i64 (actC n k a c : Int)) ∧ Below w.heap.size w w' := by
  obtain ⟨vb, vo, vc, rfl, hvb, hvc⟩ := hv.form (n := n) (by rw [List.length_map, ha.len]) (by omega)
  have HV : Hid (∀ j, j < n → w.cell? ⟨vb, vo + j, none⟩ = some (.int .i64 (a.getD j 0 : Int))) := fun j hj => by
    rw [hvc j hj]
    have : j < a.length := by rw [ha.len]; exact hj
    simp [this]
  have HA : Hid (IsP n a) := ha
  have C1 := fun W => Digits_any k n c W hk hk3 hn hc
  have HX : Hid (∀ x ∈ mvd n a (dig k n c), x < k) := mvd_lt ha (dig_len k n c) (dig_lt (by omega) n c)
  have hmk := run_make3 n (by omega)
  clear hv hvc ha
  go_enter Try.func67, Try.ntmps67
  go_wp2_with (go_at_call 50; refine (C1 _).mono ?_; rintro e w1 ⟨⟨y, rfl, hO⟩, b1⟩; obtain ⟨dg, dc, ey, hdb, hDO⟩ := Own.of (l := (dig k n c).map Int.ofNat) hO (by omega); subst ey)
  have hE0 := own_made w1 n
  have hD0 := hDO.below (balloc w1 (.cells (madeCells #[.int .i64 0] n) 3))
  have hdl := hDO.lt
  have hB0 := Below.next b1 (balloc w1 (.cells (madeCells #[.int .i64 0] n) 3))
  have hs1 := b1.size
  clear hO hDO b1 C1 hmk
  go_loopw [9] (fun i wr => ∃ (j : Nat) (e : Nat → Int), i = .int .i64 (j : Int) ∧ j ≤ n ∧ Own wr w1.heap.size n e ∧ Own wr dg n (fun j => ((dig k n c).map Int.ofNat).getD j 0) ∧ Hid (∀ q, q < j → e (a.getD q 0) = ((dig k n c).getD q 0 : Int)) ∧ w1.heap.size < wr.heap.size ∧ Below w.heap.size w wr) (fun i _ => (n - intOf i).toNat)
  case atStart => exact ⟨0, _, rfl, by omega, hE0, hD0, (fun q h => by omega : ∀ q, q < 0 → _), by simp, hB0⟩
  case round =>
    clear hE0 hD0 hB0
    obtain ⟨j, e, rfl, hj, hE, hD, HE, hsz, hB⟩ := hrel
    by_cases hlt : j < n
    · have hji : (j : Int) < n := by omega
      have hj0 : (0 : Int) ≤ (j : Int) := by omega
      have hdec : decide ((j : Int) < n) = true := by simp; omega
      have hca := (hB.cell (p := ⟨vb, vo + j, none⟩) hvb).trans (HV.out j hlt)
      have hcd := hD.cell j hlt
      have hdj : ((dig k n c).map Int.ofNat).getD j 0 = ((dig k n c).getD j 0 : Int) := by
        have : j < (dig k n c).length := by rw [dig_len]; exact hlt
        simp [this]
      rw [hdj] at hcd
      have hyn : a.getD j 0 < n := HA.out.at hlt
      obtain ⟨y, Hy⟩ : ∃ y, Hid (a.getD j 0 = y) := ⟨_, rfl⟩
      obtain ⟨x, Hx⟩ : ∃ x, Hid ((dig k n c).getD j 0 = x) := ⟨_, rfl⟩
      rw [Hy.out] at hca hyn
      rw [Hx.out] at hcd
      have hyi : (y : Int) < n := by omega
      have hy0 : (0 : Int) ≤ (y : Int) := by omega
      have hfe := hE.frozen y
      have hce := hE.cell y hyn
      have hne : dg ≠ w1.heap.size := by omega
      have hS : wr.cell? ⟨vb, vo + j, none⟩ = some (.int .i64 (y : Int)) ∧ wr.cell? ⟨dg, j, none⟩ = some (.int .i64 (x : Int)) := ⟨hca, hcd⟩
      have hS2 : (wr.setCell ⟨w1.heap.size, y, none⟩ (.int .i64 (x : Int))).cell? ⟨vb, vo + j, none⟩ = some (.int .i64 (y : Int)) ∧ (wr.setCell ⟨w1.heap.size, y, none⟩ (.int .i64 (x : Int))).cell? ⟨dg, j, none⟩ = some (.int .i64 (x : Int)) := by
        refine ⟨?_, (hD.other ⟨w1.heap.size, y, none⟩ (.int .i64 (x : Int)) hne).cell j hlt |>.trans (by rw [hdj, Hx.out])⟩
        rw [World.cell?_of_block (w := wr) (heap_setCell_other wr _ _ _ (by show vb ≠ w1.heap.size; omega))]
        exact hca
      go_wp2_with fail
      refine wp_region_noPanic ?_
      refine wp_region_held_drew (S := fun w' => w'.cell? ⟨vb, vo + j, none⟩ = some (.int .i64 (y : Int)) ∧ w'.cell? ⟨dg, j, none⟩ = some (.int .i64 (x : Int))) (by kernel_rfl) (hS) (fun hSx => ?_)
      refine wpAnyH_take (i := 0) (v := .slice (some ⟨w1.heap.size, 0, none⟩) n n) rfl (by kernel_rfl) (by kernel_rfl) (by kernel_rfl) (fun _ _ _ h => h) (Or.inl ⟨by rfl, fun w_ hSw => by (try dsimp only at hSw); go_simp⟩) hSx ?_
      try simp only [Act.put, List.setIfInBounds_toArray]
      refine wpAnyH_take (i := 1) (v := .slice (some ⟨vb, vo, none⟩) n vc) rfl (by kernel_rfl) (by kernel_rfl) (by kernel_rfl) (fun _ _ _ h => h) (Or.inl ⟨by rfl, fun w_ hSw => by (try dsimp only at hSw); go_simp⟩) hSx ?_
      try simp only [Act.put]
      refine wpAnyH_take (i := 2) (v := .int .i64 (j : Int)) rfl (by kernel_rfl) (by kernel_rfl) (by kernel_rfl) (fun _ _ _ h => h) (Or.inl ⟨by rfl, fun w_ hSw => by (try dsimp only at hSw); go_simp⟩) hSx ?_
      try simp only [Act.put]
      refine wpAnyH_take (i := 3) (v := .pointer (some ⟨vb, vo + j, none⟩)) rfl (by kernel_rfl) (by kernel_rfl) (by kernel_rfl) (fun _ _ _ h => h) (Or.inl ⟨by rfl, fun w_ hSw => by (try dsimp only at hSw); go_simp⟩) hSx ?_
      try simp only [Act.put]
      refine wpAnyH_take (i := 4) (v := .int .i64 (y : Int)) rfl (by kernel_rfl) (by kernel_rfl) (by kernel_rfl) (fun _ _ _ h => h) (Or.inl ⟨by rfl, fun w_ hSw => by (try dsimp only at hSw); go_simp⟩) hSx ?_
      try simp only [Act.put]
      refine wpAnyH_take (i := 5) (v := .slice (some ⟨dg, 0, none⟩) n dc) rfl (by kernel_rfl) (by kernel_rfl) (by kernel_rfl) (fun _ _ _ h => h) (Or.inl ⟨by rfl, fun w_ hSw => by (try dsimp only at hSw); go_simp⟩) hSx ?_
      try simp only [Act.put]
      refine wpAnyH_take (i := 6) (v := .int .i64 (j : Int)) rfl (by kernel_rfl) (by kernel_rfl) (by kernel_rfl) (fun _ _ _ h => h) (Or.inl ⟨by rfl, fun w_ hSw => by (try dsimp only at hSw); go_simp⟩) hSx ?_
      try simp only [Act.put]
      refine wpAnyH_take (i := 7) (v := .pointer (some ⟨dg, j, none⟩)) rfl (by kernel_rfl) (by kernel_rfl) (by kernel_rfl) (fun _ _ _ h => h) (Or.inl ⟨by rfl, fun w_ hSw => by (try dsimp only at hSw); go_simp⟩) hSx ?_
      try simp only [Act.put]
      refine wpAnyH_take (i := 8) (v := .int .i64 (x : Int)) rfl (by kernel_rfl) (by kernel_rfl) (by kernel_rfl) (fun _ _ _ h => h) (Or.inl ⟨by rfl, fun w_ hSw => by (try dsimp only at hSw); go_simp⟩) hSx ?_
      try simp only [Act.put]
      refine wpAnyH_take (i := 9) (v := .pointer (some ⟨w1.heap.size, y, none⟩)) rfl (by kernel_rfl) (by kernel_rfl) (by kernel_rfl) (fun _ _ _ h => h) (Or.inl ⟨by rfl, fun w_ hSw => by (try dsimp only at hSw); go_simp⟩) hSx ?_
      try simp only [Act.put]
      refine wpAnyH_ready (rs := [10]) (by kernel_rfl) (by simp) ?_
      refine AllReadyH.cons rfl (fun J hJ => ?_) AllReadyH.nil
      go_simp
      refine hJ.out _ _ hS2 (fun _ => ?_)
      clear hJ J
      refine wpAnyH_done (by kernel_rfl) ?_ _
      refine NoPanic.normal ?_
      go_wp2
      go_roundw
      case rel =>
        refine ⟨j + 1, upd e y x, by go_num, by omega, hE.set y x, hD.other ⟨w1.heap.size, y, none⟩ _ hne, (fun q hq => ?_ : ∀ q, q < j + 1 → _), by simpa using hsz, (hB.drew.setCell (p := ⟨w1.heap.size, y, none⟩) (by show w.heap.size ≤ w1.heap.size; omega) _)⟩
        unfold upd
        by_cases eq : q = j
        · subst eq
          rw [if_pos Hy.out, Hx.out]
        · have hqy : a.getD q 0 ≠ y := fun h => eq (HA.out.pm.inj q j (by omega) hlt (by rw [h, Hy.out]))
          rw [if_neg hqy]
          exact HE.out q (by omega)
      case measure => simp [intOf]; omega
    · have hdec : decide ((j : Int) < n) = false := by simp; omega
      obtain rfl : j = n := by omega
      have hSl : Sl wr (.slice (some ⟨w1.heap.size, 0, none⟩) j j) ((mvd j a (dig k j c)).map Int.ofNat) := by
        have h := (hE.congr (f' := fun y => ((mvd j a (dig k j c)).getD y 0 : Int)) fun y hy => by
          have h2 := HE.out _ ((invL_isP HA.out).at hy)
          rw [a_inv HA.out hy] at h2
          rw [h2, mvd_at hy]).sl j
        have e1 : ((List.range j).map fun y => ((mvd j a (dig k j c)).getD y 0 : Int)) = (mvd j a (dig k j c)).map Int.ofNat := by
          have := pl_map (l := mvd j a (dig k j c)) (mvd_len j a _)
          unfold pl at this
          exact this
        rw [e1] at h
        exact h
      have C2 := Number_any k (mvd j a (dig k j c)) _ wr hk3 hSl (by rw [mvd_len]; exact hn) HX.out
      clear hE hD HE hSl
      go_wp2_with (go_at_call 84; refine C2.mono ?_; rintro e2 w2 ⟨rfl, rfl⟩)
      go_ret
      exact ⟨rfl, hB⟩

end Go.Proofs.Ytmaplmgecohjbaa

/- The walk of the document's classes. -/
namespace Go.Proofs.Ytmaplmgecohjbaa
open Go.RowKit

theorem pow_small {n k : Nat} (hn : n ≤ 7) (hk : 1 ≤ k) (hk3 : k ≤ 3) : 1 ≤ k ^ n ∧ k ^ n ≤ 2187 := by
  refine ⟨Nat.pow_pos hk, Nat.le_trans (Nat.pow_le_pow_right hk hn) (Nat.le_trans (Nat.pow_le_pow_left hk3 7) (by decide))⟩
theorem own_block {w w' : World} {g n : Nat} {f : Nat → Int} (h : Own w g n f) (e : w'.heap[g]? = w.heap[g]?) : Own w' g n f := by
  obtain ⟨cur, h, hc⟩ := h
  exact ⟨cur, e.trans h, hc⟩

/-- What classes answers. -/
def ClsAns (w : World) (n k : Nat) (ms : List (List Nat)) (e : Ending) (w' : World) : Prop :=
  ∃ g, e = .returned (.slice (some ⟨g, 0, none⟩) (k ^ n) (k ^ n)) ∧ w.heap.size ≤ g ∧ Own w' g (k ^ n) (fun x => (rp n k ms x : Int)) ∧ Below w.heap.size w w'

set_option maxRecDepth 100000 in
set_option maxHeartbeats 8000000 in
theorem classes_any (n k : Nat) (ms : List (List Nat)) (v : Value) (w : World) (h : Mk n ms v w) (hk : 1 ≤ k) (hk3 : k ≤ 3) :
    Calls Try.prog 47 #[.int .i64 (n : Int), v, .int .i64 (k : Int)] w fun e w' => ClsAns w n k ms e w' := by
  obtain ⟨i3, ti, tz0, tz1, tz2⟩ := info3
  have hn1 := h.n1
  have hn7 := h.n7
  have hm4 := h.len
  have HMS : Hid (∀ m ∈ ms, IsP n m) := h.isP
  obtain ⟨r4, Hr4⟩ : ∃ r4, Hid (ms.length = r4) := ⟨_, rfl⟩
  have hsl := h.sl
  obtain ⟨va, vcap, rfl, _⟩ := id hsl
  have HV : Hid (SlSl w (.slice va ms.length vcap) ms) := hsl
  rw [Hr4.out] at HV hm4 ⊢
  obtain ⟨hA1, hA2⟩ := pow_small hn7 hk hk3
  have C0 := fun W => powerOf_any k n W (by omega) (by omega) (by omega)
  have HK : Hid (0 < k) := by show 0 < k; omega
  have HK1 : Hid (k = 1 → k ^ n = 1) := fun e => by rw [e, Nat.one_pow]
  obtain ⟨A, HA⟩ : ∃ A, Hid (k ^ n = A) := ⟨_, rfl⟩
  unfold ClsAns
  rw [HA.out] at C0 hA1 hA2 HK1 ⊢
  have hmk := run_make3 A (by omega)
  clear h hsl
  have hE0 := own_made w A
  have hB0 := balloc w (.cells (madeCells #[.int .i64 0] A) 3)
  by_cases hk1 : k = 1
  · have hkb : ((k : Int) == 1) = true := by simp; omega
    have hA : A = 1 := HK1.out hk1
    have hmk1 : ∀ w : World, (Instr.makeSlice 40 (.int .i64 1) (.int .i64 1)).run Try.prog w = .ok (.slice (some ⟨w.heap.size, 0, none⟩) A A) (w.alloc (.cells (madeCells #[.int .i64 0] A) 3)) := by
      intro w
      have h := hmk w
      rw [show ((A : Nat) : Int) = 1 by omega] at h
      exact h
    subst hA
    clear hk1 HK1 hmk
    go_enter Try.func47, Try.ntmps47
    go_wp2_with (go_at_call 32; refine (C0 _).mono ?_; rintro e w1 ⟨rfl, hw⟩; replace hw := hw.symm; subst hw)
    clear C0
    go_loopw [9] (fun i wr => ∃ (j : Nat) (e : Nat → Int), i = .int .i64 (j : Int) ∧ j ≤ 1 ∧ Own wr w.heap.size 1 e ∧ Hid (∀ q, q < j → e q = -1) ∧ w.heap.size < wr.heap.size ∧ Below w.heap.size w wr) (fun i _ => (1 - intOf i).toNat)
    case atStart => exact ⟨0, _, rfl, by omega, hE0, (fun q h => by omega : ∀ q, q < 0 → _), by simp, hB0⟩
    case round =>
      clear hE0 hB0 hmk1
      obtain ⟨j, e, rfl, hj, hE, HE, hsz, hB⟩ := hrel
      by_cases hlt : j < 1
      · have hji : (j : Int) < 1 := by omega
        have hj0 : (0 : Int) ≤ (j : Int) := by omega
        have hdec : decide ((j : Int) < 1) = true := by simp; omega
        have hfe := hE.frozen j
        have hce := hE.cell j hlt
        go_wp2
        go_roundw
        case rel =>
          refine ⟨j + 1, upd e j (-1), by go_num, by omega, hE.set j (-1), (fun q hq => ?_ : ∀ q, q < j + 1 → _), by simpa using hsz, hB.setCell (p := ⟨w.heap.size, j, none⟩) (Nat.le_refl _) _⟩
          unfold upd
          by_cases eq : q = j
          · rw [if_pos eq]
          · rw [if_neg eq]; exact HE.out q (by omega)
        case measure => simp [intOf]; omega
      · have hdec : decide ((j : Int) < 1) = false := by simp; omega
        obtain rfl : j = 1 := by omega
        have hM0 : Own wr w.heap.size 1 (mkF n k ms 0) := hE.congr fun q hq => by rw [HE.out q hq, mkF_none]
        clear hE HE hdec hlt hj
        go_wp2
        go_loopw [10] (fun i wr => ∃ (c : Nat), i = .int .i64 (c : Int) ∧ c ≤ 1 ∧ Own wr w.heap.size 1 (mkF n k ms c) ∧ w.heap.size < wr.heap.size ∧ Below w.heap.size w wr) (fun i _ => (1 - intOf i).toNat)
        case atStart => exact ⟨0, rfl, by omega, hM0, hsz, hB⟩
        case round =>
          clear hM0 hsz hB
          obtain ⟨c, rfl, hc, hM, hsz, hB⟩ := hrel
          by_cases hlt : c < 1
          · have hci : (c : Int) < 1 := by omega
            have hc0 : (0 : Int) ≤ (c : Int) := by omega
            have hdec : decide ((c : Int) < 1) = true := by simp; omega
            have hfe := hM.frozen c
            have hce := hM.cell c hlt
            have hcA : c < k ^ n := by rw [HA.out]; exact hlt
            have HcA : Hid (c < k ^ n) := hcA
            rcases mkF_own HK.out HMS.out hcA with ⟨hr, hneg⟩ | ⟨hr, hp1, hp2⟩
            · have HR : Hid (rp n k ms c = c) := hr
              rw [hneg] at hce
              have hL0 : Own ((wr.setCell ⟨w.heap.size, c, none⟩ (.int .i64 (c : Int))).alloc (.cells #[.int .i64 (c : Int)] 3)) w.heap.size 1 (mkL n k ms c [c]) := ((hM.set c c).below (balloc _ _)).congr fun q _ => by
                unfold upd mkL
                by_cases eq : q = c
                · rw [if_pos eq, if_pos (by simp [eq])]
                · rw [if_neg eq, if_neg (by simpa using eq)]
              have hB1 : Below w.heap.size w ((wr.setCell ⟨w.heap.size, c, none⟩ (.int .i64 (c : Int))).alloc (.cells #[.int .i64 (c : Int)] 3)) := (hB.setCell (p := ⟨w.heap.size, c, none⟩) (Nat.le_refl _) _).alloc (by simp; omega) _
              have hrow0 : ((wr.setCell ⟨w.heap.size, c, none⟩ (.int .i64 (c : Int))).alloc (.cells #[.int .i64 (c : Int)] 3)).ownsRow (w.heap.size + 1) 3 1 (.slice (some ⟨wr.heap.size, 0, none⟩) 1 1) 1 (vl [c]) := by
                refine ⟨rfl, .inr ⟨wr.heap.size, 1, #[.int .i64 (c : Int)], rfl, by omega, ?_, Nat.le_refl _, by unfold maxLen; omega, rfl, rfl⟩⟩
                have := heap_alloc_new (wr.setCell ⟨w.heap.size, c, none⟩ (.int .i64 (c : Int))) (.cells #[.int .i64 (c : Int)] 3)
                simpa using this
              clear hr hneg hcA hM
              go_wp2
              go_loopw [11, 12] (fun lv i wr => ∃ (t : Nat) (L : List Nat), i = .int .i64 (t : Int) ∧ t ≤ L.length ∧ wr.ownsRow (w.heap.size + 1) 3 1 lv L.length (vl L) ∧ Hid (MadeO n k ms c L) ∧ Hid (CloO n k ms L t 0) ∧ Own wr w.heap.size 1 (mkL n k ms c L) ∧ w.heap.size < wr.heap.size ∧ Below w.heap.size w wr) (fun _ i _ => (1 + 1 - intOf i).toNat)
              case atStart => exact ⟨0, [c], rfl, by simp, hrow0, MadeO.start HK.out HMS.out HcA.out, CloO.start, hL0, by simp; omega, hB1⟩
              case round =>
                clear hL0 hB1 hrow0 hce hfe hB hsz
                obtain ⟨t, L, rfl, ht, hrow, HMO, HCL, hM, hsz, hB⟩ := hrel
                have hlen := HMO.out.len
                rw [HA.out] at hlen
                have hL0 : 0 < L.length := List.length_pos_of_mem HMO.out.root
                obtain ⟨r, Hr⟩ : ∃ r, Hid (L.length = r) := ⟨_, rfl⟩
                rw [Hr.out] at hrow ht hlen hL0
                obtain ⟨lg, lc, hle, hlgb, hLO⟩ := Own.of (l := L.map Int.ofNat) hrow hL0
                subst hle
                by_cases hlt2 : t < r
                · have hti : (t : Int) < r := by omega
                  have hdec2 : decide ((t : Int) < r) = true := by simp; omega
                  go_wp2
                  go_loopw [11, 13] (fun lv i wr => ∃ (q : Nat) (L : List Nat), i = .int .i64 (q : Int) ∧ q ≤ r4 ∧ t < L.length ∧ wr.ownsRow (w.heap.size + 1) 3 1 lv L.length (vl L) ∧ Hid (MadeO n k ms c L) ∧ Hid (CloO n k ms L t q) ∧ Own wr w.heap.size 1 (mkL n k ms c L) ∧ w.heap.size < wr.heap.size ∧ Below w.heap.size w wr) (fun _ i _ => (r4 - intOf i).toNat)
                  case atStart => exact ⟨0, L, rfl, by omega, by have := Hr.out; omega, by rw [Hr.out]; exact hrow, HMO, HCL, hM, hsz, hB⟩
                  case round =>
                    clear hrow HMO HCL hM hsz hB hlen hL0 hLO hlgb Hr ht hlt2 hti hdec2
                    obtain ⟨q, L, rfl, hq, htl, hrow, HMO, HCL, hM, hsz, hB⟩ := hrel
                    have hlen := HMO.out.len
                    rw [HA.out] at hlen
                    obtain ⟨r, Hr⟩ : ∃ r, Hid (L.length = r) := ⟨_, rfl⟩
                    rw [Hr.out] at hrow htl hlen
                    obtain ⟨lg, lc, hle, hlgb, hLO⟩ := Own.of (l := L.map Int.ofNat) hrow (by omega)
                    subst hle
                    by_cases hlt3 : q < r4
                    · have hqi : (q : Int) < r4 := by omega
                      have hq0 : (0 : Int) ≤ (q : Int) := by omega
                      have hdec3 : decide ((q : Int) < r4) = true := by simp; omega
                      have hti : (t : Int) < r := by omega
                      have ht0 : (0 : Int) ≤ (t : Int) := by omega
                      obtain ⟨x, hx⟩ : ∃ x, L[t]? = some x := ⟨L[t]'(by have := Hr.out; omega), by simp⟩
                      obtain ⟨m, hmj⟩ : ∃ m, ms[q]? = some m := ⟨ms[q]'(by have := Hr4.out; omega), by simp⟩
                      have hmP := HMS.out m (List.mem_of_getElem? hmj)
                      have hxA := (HMO.out.orb x (List.mem_of_getElem? hx)).1
                      rw [HA.out] at hxA
                      have hcx := hLO.cell t (by omega)
                      have hxe : (L.map Int.ofNat).getD t 0 = (x : Int) := by
                        have : (L.map Int.ofNat)[t]? = some (x : Int) := by rw [List.getElem?_map, hx]; rfl
                        simp [this]
                      rw [hxe] at hcx
                      have hlgw := hLO.lt
                      obtain ⟨mb, mo, um, rfl, hmbw, hcm, hsm⟩ := HV.out.at hmj
                      have hcm2 := (hB.cell (p := ⟨mb, mo + q, none⟩) hmbw).trans hcm
                      have hmbw2 : mb < wr.heap.size := by have := hB.size; omega
                      have hsm2 := hsm.below hB
                      obtain ⟨ma, mc, hme⟩ : ∃ a c, um = .slice a n c := by obtain ⟨a, c, e, _⟩ := hsm; exact ⟨a, c, by rw [e, List.length_map, hmP.len]⟩
                      have C := moved_any n k x m um wr.drew hn1 hn7 hk (by omega) (by omega) hsm2 hmP
                      have hst := HMO.out.step HK.out HMS.out HcA.out (List.mem_of_getElem? hx) (List.mem_of_getElem? hmj)
                      have hng := mkL_neg (L := L) HK.out HMS.out HcA.out HR.out hst.1 hst.2
                      have HADD : Hid (actC n k m x ∉ L → MadeO n k ms c (L ++ [actC n k m x])) := HMO.out.add HK.out HMS.out HcA.out (List.mem_of_getElem? hx) (List.mem_of_getElem? hmj)
                      have HNX : Hid (∀ L', CloO n k ms L' t q → L'[t]? = some x → actC n k m x ∈ L' → CloO n k ms L' t (q + 1)) := fun L' h1 h2 h3 => h1.next h2 hmj h3
                      have HX : Hid (L[t]? = some x) := hx
                      have hyA := hst.1
                      rw [HA.out] at hyA
                      obtain ⟨y, Hy⟩ : ∃ y, Hid (actC n k m x = y) := ⟨_, rfl⟩
                      rw [Hy.out] at C hng HADD HNX hyA
                      obtain ⟨my, Hmy⟩ : ∃ my, Hid (mkL n k ms c L y = my) := ⟨_, rfl⟩
                      rw [Hmy.out] at hng
                      subst hme
                      have hyi : (y : Int) < 1 := by omega
                      have hy0 : (0 : Int) ≤ (y : Int) := by omega
                      have HNG : Hid (my < 0 ↔ y ∉ L) := hng.1
                      have hmyb := hng.2
                      have hS : wr.cell? ⟨lg, t, none⟩ = some (.int .i64 (x : Int)) ∧ wr.cell? ⟨mb, mo + q, none⟩ = some (.slice ma n mc) := ⟨hcx, hcm2⟩
                      clear hx hmj hmP hsm hsm2 hcm hst hng hxe
                      go_wp2_with fail
                      refine wp_region_noPanic ?_
                      refine wp_region_held_drew (S := fun w' => w'.cell? ⟨lg, t, none⟩ = some (.int .i64 (x : Int)) ∧ w'.cell? ⟨mb, mo + q, none⟩ = some (.slice ma n mc)) (by kernel_rfl) (hS) (fun hSx => ?_)
                      refine wpAnyH_take (i := 0) (v := .slice (some ⟨lg, 0, none⟩) r lc) rfl (by kernel_rfl) (by kernel_rfl) (by kernel_rfl) (fun _ _ _ h => h) (Or.inl ⟨by rfl, fun w_ hSw => by (try dsimp only at hSw); go_simp⟩) hSx ?_
                      try simp only [Act.put, List.setIfInBounds_toArray]
                      refine wpAnyH_take (i := 1) (v := .int .i64 (t : Int)) rfl (by kernel_rfl) (by kernel_rfl) (by kernel_rfl) (fun _ _ _ h => h) (Or.inl ⟨by rfl, fun w_ hSw => by (try dsimp only at hSw); go_simp⟩) hSx ?_
                      try simp only [Act.put]
                      refine wpAnyH_take (i := 2) (v := .pointer (some ⟨lg, t, none⟩)) rfl (by kernel_rfl) (by kernel_rfl) (by kernel_rfl) (fun _ _ _ h => h) (Or.inl ⟨by rfl, fun w_ hSw => by (try dsimp only at hSw); go_simp⟩) hSx ?_
                      try simp only [Act.put]
                      refine wpAnyH_take (i := 3) (v := .int .i64 (x : Int)) rfl (by kernel_rfl) (by kernel_rfl) (by kernel_rfl) (fun _ _ _ h => h) (Or.inl ⟨by rfl, fun w_ hSw => by (try dsimp only at hSw); go_simp⟩) hSx ?_
                      try simp only [Act.put]
                      refine wpAnyH_take (i := 4) (v := .slice (some ⟨mb, mo, none⟩) r4 vcap) rfl (by kernel_rfl) (by kernel_rfl) (by kernel_rfl) (fun _ _ _ h => h) (Or.inl ⟨by rfl, fun w_ hSw => by (try dsimp only at hSw); go_simp⟩) hSx ?_
                      try simp only [Act.put]
                      refine wpAnyH_take (i := 5) (v := .int .i64 (q : Int)) rfl (by kernel_rfl) (by kernel_rfl) (by kernel_rfl) (fun _ _ _ h => h) (Or.inl ⟨by rfl, fun w_ hSw => by (try dsimp only at hSw); go_simp⟩) hSx ?_
                      try simp only [Act.put]
                      refine wpAnyH_take (i := 6) (v := .pointer (some ⟨mb, mo + q, none⟩)) rfl (by kernel_rfl) (by kernel_rfl) (by kernel_rfl) (fun _ _ _ h => h) (Or.inl ⟨by rfl, fun w_ hSw => by (try dsimp only at hSw); go_simp⟩) hSx ?_
                      try simp only [Act.put]
                      refine wpAnyH_take (i := 7) (v := .slice ma n mc) rfl (by kernel_rfl) (by kernel_rfl) (by kernel_rfl) (fun _ _ _ h => h) (Or.inl ⟨by rfl, fun w_ hSw => by (try dsimp only at hSw); go_simp⟩) hSx ?_
                      try simp only [Act.put]
                      refine wpAnyH_take (i := 8) (v := .int .i64 (k : Int)) rfl (by kernel_rfl) (by kernel_rfl) (by kernel_rfl) (fun _ _ _ h => h) (Or.inl ⟨by rfl, fun w_ hSw => by (try dsimp only at hSw); go_simp⟩) hSx ?_
                      try simp only [Act.put]
                      refine wpAnyH_ready (rs := [9]) (by kernel_rfl) (by simp) ?_
                      refine AllReadyH.cons rfl (fun J hJ => ?_) AllReadyH.nil
                      go_simp
                      refine (C).mono ?_
                      rintro e w4 ⟨rfl, b4⟩
                      have hS4 : w4.cell? ⟨lg, t, none⟩ = some (.int .i64 (x : Int)) ∧ w4.cell? ⟨mb, mo + q, none⟩ = some (.slice ma n mc) := ⟨(b4.cell (p := ⟨lg, t, none⟩) hlgw).trans hcx, (b4.cell (p := ⟨mb, mo + q, none⟩) hmbw2).trans hcm2⟩
                      go_wp2_with fail
                      refine hJ.out _ _ hS4 (fun hSy => ?_)
                      clear hJ J
                      try simp only [Act.put, List.setIfInBounds_toArray, List.set_cons_zero, List.set_cons_succ]
                      refine wpAnyH_ready (rs := [10]) (by kernel_rfl) (by simp) ?_
                      refine AllReadyH.cons rfl (fun J hJ => ?_) AllReadyH.nil
                      go_simp
                      refine hJ.out _ _ hS4 (fun _ => ?_)
                      clear hJ J
                      refine wpAnyH_done (by kernel_rfl) ?_ _
                      refine NoPanic.normal ?_
                      have hs4 : wr.heap.size ≤ w4.heap.size := b4.size
                      have hB4 : Below w.heap.size w w4 := hB.drew.trans (b4.mono (by show w.heap.size ≤ wr.heap.size; omega))
                      have hM4 := own_block hM (b4.block w.heap.size (by show w.heap.size < wr.heap.size; exact hsz))
                      have hrow4 : w4.ownsRow (w.heap.size + 1) 3 1 (.slice (some ⟨lg, 0, none⟩) r lc) r (vl L) := own_below (w := wr.drew) hrow b4
                      have hcy := hM4.cell y hyA
                      have hfy := hM4.frozen y
                      rw [Hmy.out] at hcy
                      clear hS hSx hS4 hSy hrow hM hB hcx hcm2 C hLO b4
                      by_cases hin : my < 0
                      · have hdn : decide (my < 0) = true := by simpa using hin
                        have hyL := HNG.out.1 hin
                        have hM5 : Own (w4.setCell ⟨w.heap.size, y, none⟩ (.int .i64 (c : Int))) w.heap.size 1 (mkL n k ms c (L ++ [y])) := (hM4.set y c).congr fun z _ => by
                          unfold upd; exact mkL_snoc z
                        have hB5 : Below w.heap.size w (w4.setCell ⟨w.heap.size, y, none⟩ (.int .i64 (c : Int))) := hB4.setCell (p := ⟨w.heap.size, y, none⟩) (Nat.le_refl _) _
                        have hrow5 := own_other hrow4 ⟨w.heap.size, y, none⟩ (.int .i64 (c : Int)) (by show w.heap.size < w.heap.size + 1; omega)
                        have hs5 : (w4.setCell ⟨w.heap.size, y, none⟩ (.int .i64 (c : Int))).heap.size = w4.heap.size := by simp
                        have hADD2 := HADD.out hyL
                        have HADD3 : Hid (MadeO n k ms c (L ++ [y])) := hADD2
                        have hrl : r + 1 ≤ 1 := by
                          have := hADD2.len
                          rw [HA.out, List.length_append, Hr.out] at this
                          simpa using this
                        exact absurd htl (by omega)
                      · have hdn : decide (my < 0) = false := by simpa using hin
                        have hyL : y ∈ L := Classical.byContradiction fun e => hin (HNG.out.2 e)
                        have HYL : Hid (y ∈ L) := hyL
                        clear hyL
                        go_wp2
                        go_roundw
                        case rel => exact ⟨q + 1, by go_num, by omega, L, by rw [Hr.out]; exact htl, by rw [Hr.out]; exact hrow4, HMO, HNX.out _ HCL.out HX.out HYL.out, hM4, by omega⟩
                        case measure => simp [intOf]; omega
                    · have hdec3 : decide ((q : Int) < r4) = false := by simp; omega
                      obtain rfl : q = r4 := by omega
                      go_wp2
                      go_roundw
                      case rel => exact ⟨t + 1, L, by go_num, by rw [Hr.out]; omega, by rw [Hr.out]; exact hrow, HMO, (by have h := HCL.out; rw [← Hr4.out] at h; exact h.turn : CloO n k ms L (t + 1) 0), hM, hsz, hB⟩
                      case measure => simp [intOf]; omega
                · have hdec2 : decide ((t : Int) < r) = false := by simp; omega
                  obtain rfl : t = r := by omega
                  have hMd : Own wr w.heap.size 1 (mkF n k ms (c + 1)) := hM.congr fun q hq => mkL_done HK.out HMS.out HcA.out HR.out HMO.out (by rw [Hr.out]; exact HCL.out) (by rw [HA.out]; exact hq)
                  clear hM hrow hLO
                  go_wp2
                  go_roundw
                  case rel => exact ⟨c + 1, by go_num, by omega, hMd, hsz, hB⟩
                  case measure => simp [intOf]; omega
            · have hMs : Own wr w.heap.size 1 (mkF n k ms (c + 1)) := hM.congr fun q hq => mkF_skip HK.out HMS.out hcA hr (by rw [HA.out]; exact hq)
              obtain ⟨mc, Hmc⟩ : ∃ mc, Hid (mkF n k ms c c = mc) := ⟨_, rfl⟩
              rw [Hmc.out] at hce hp1 hp2
              clear hr hcA hM
              go_wp2
              go_roundw
              case rel => exact ⟨c + 1, by go_num, by omega, hMs, hsz, hB⟩
              case measure => simp [intOf]; omega
          · have hdec : decide ((c : Int) < 1) = false := by simp; omega
            obtain rfl : c = 1 := by omega
            go_wp2
            go_ret
            exact ⟨w.heap.size, rfl, Nat.le_refl _, hM.congr fun q hq => by rw [← HA.out]; exact mkF_all HK.out HMS.out (by rw [HA.out]; exact hq), hB⟩
  · have hkb : ((k : Int) == 1) = false := by simp; omega
    clear hk1 HK1
    go_enter Try.func47, Try.ntmps47
    go_wp2_with (go_at_call 32; refine (C0 _).mono ?_; rintro e w1 ⟨rfl, hw⟩; replace hw := hw.symm; subst hw)
    clear C0
    go_loopw [9] (fun i wr => ∃ (j : Nat) (e : Nat → Int), i = .int .i64 (j : Int) ∧ j ≤ A ∧ Own wr w.heap.size A e ∧ Hid (∀ q, q < j → e q = -1) ∧ w.heap.size < wr.heap.size ∧ Below w.heap.size w wr) (fun i _ => (A - intOf i).toNat)
    case atStart => exact ⟨0, _, rfl, by omega, hE0, (fun q h => by omega : ∀ q, q < 0 → _), by simp, hB0⟩
    case round =>
      clear hE0 hB0 hmk
      obtain ⟨j, e, rfl, hj, hE, HE, hsz, hB⟩ := hrel
      by_cases hlt : j < A
      · have hji : (j : Int) < A := by omega
        have hj0 : (0 : Int) ≤ (j : Int) := by omega
        have hdec : decide ((j : Int) < A) = true := by simp; omega
        have hfe := hE.frozen j
        have hce := hE.cell j hlt
        go_wp2
        go_roundw
        case rel =>
          refine ⟨j + 1, upd e j (-1), by go_num, by omega, hE.set j (-1), (fun q hq => ?_ : ∀ q, q < j + 1 → _), by simpa using hsz, hB.setCell (p := ⟨w.heap.size, j, none⟩) (Nat.le_refl _) _⟩
          unfold upd
          by_cases eq : q = j
          · rw [if_pos eq]
          · rw [if_neg eq]; exact HE.out q (by omega)
        case measure => simp [intOf]; omega
      · have hdec : decide ((j : Int) < A) = false := by simp; omega
        obtain rfl : A = j := by omega
        have hM0 : Own wr w.heap.size A (mkF n k ms 0) := hE.congr fun q hq => by rw [HE.out q hq, mkF_none]
        clear hE HE hdec hlt hj
        go_wp2
        go_loopw [10] (fun i wr => ∃ (c : Nat), i = .int .i64 (c : Int) ∧ c ≤ A ∧ Own wr w.heap.size A (mkF n k ms c) ∧ w.heap.size < wr.heap.size ∧ Below w.heap.size w wr) (fun i _ => (A - intOf i).toNat)
        case atStart => exact ⟨0, rfl, by omega, hM0, hsz, hB⟩
        case round =>
          clear hM0 hsz hB
          obtain ⟨c, rfl, hc, hM, hsz, hB⟩ := hrel
          by_cases hlt : c < A
          · have hci : (c : Int) < A := by omega
            have hc0 : (0 : Int) ≤ (c : Int) := by omega
            have hdec : decide ((c : Int) < A) = true := by simp; omega
            have hfe := hM.frozen c
            have hce := hM.cell c hlt
            have hcA : c < k ^ n := by rw [HA.out]; exact hlt
            have HcA : Hid (c < k ^ n) := hcA
            rcases mkF_own HK.out HMS.out hcA with ⟨hr, hneg⟩ | ⟨hr, hp1, hp2⟩
            · have HR : Hid (rp n k ms c = c) := hr
              rw [hneg] at hce
              have hL0 : Own ((wr.setCell ⟨w.heap.size, c, none⟩ (.int .i64 (c : Int))).alloc (.cells #[.int .i64 (c : Int)] 3)) w.heap.size A (mkL n k ms c [c]) := ((hM.set c c).below (balloc _ _)).congr fun q _ => by
                unfold upd mkL
                by_cases eq : q = c
                · rw [if_pos eq, if_pos (by simp [eq])]
                · rw [if_neg eq, if_neg (by simpa using eq)]
              have hB1 : Below w.heap.size w ((wr.setCell ⟨w.heap.size, c, none⟩ (.int .i64 (c : Int))).alloc (.cells #[.int .i64 (c : Int)] 3)) := (hB.setCell (p := ⟨w.heap.size, c, none⟩) (Nat.le_refl _) _).alloc (by simp; omega) _
              have hrow0 : ((wr.setCell ⟨w.heap.size, c, none⟩ (.int .i64 (c : Int))).alloc (.cells #[.int .i64 (c : Int)] 3)).ownsRow (w.heap.size + 1) 3 1 (.slice (some ⟨wr.heap.size, 0, none⟩) 1 1) 1 (vl [c]) := by
                refine ⟨rfl, .inr ⟨wr.heap.size, 1, #[.int .i64 (c : Int)], rfl, by omega, ?_, Nat.le_refl _, by unfold maxLen; omega, rfl, rfl⟩⟩
                have := heap_alloc_new (wr.setCell ⟨w.heap.size, c, none⟩ (.int .i64 (c : Int))) (.cells #[.int .i64 (c : Int)] 3)
                simpa using this
              clear hr hneg hcA hM
              go_wp2
              go_loopw [11, 12] (fun lv i wr => ∃ (t : Nat) (L : List Nat), i = .int .i64 (t : Int) ∧ t ≤ L.length ∧ wr.ownsRow (w.heap.size + 1) 3 1 lv L.length (vl L) ∧ Hid (MadeO n k ms c L) ∧ Hid (CloO n k ms L t 0) ∧ Own wr w.heap.size A (mkL n k ms c L) ∧ w.heap.size < wr.heap.size ∧ Below w.heap.size w wr) (fun _ i _ => (A + 1 - intOf i).toNat)
              case atStart => exact ⟨0, [c], rfl, by simp, hrow0, MadeO.start HK.out HMS.out HcA.out, CloO.start, hL0, by simp; omega, hB1⟩
              case round =>
                clear hL0 hB1 hrow0 hce hfe hB hsz
                obtain ⟨t, L, rfl, ht, hrow, HMO, HCL, hM, hsz, hB⟩ := hrel
                have hlen := HMO.out.len
                rw [HA.out] at hlen
                have hL0 : 0 < L.length := List.length_pos_of_mem HMO.out.root
                obtain ⟨r, Hr⟩ : ∃ r, Hid (L.length = r) := ⟨_, rfl⟩
                rw [Hr.out] at hrow ht hlen hL0
                obtain ⟨lg, lc, hle, hlgb, hLO⟩ := Own.of (l := L.map Int.ofNat) hrow hL0
                subst hle
                by_cases hlt2 : t < r
                · have hti : (t : Int) < r := by omega
                  have hdec2 : decide ((t : Int) < r) = true := by simp; omega
                  go_wp2
                  go_loopw [11, 13] (fun lv i wr => ∃ (q : Nat) (L : List Nat), i = .int .i64 (q : Int) ∧ q ≤ r4 ∧ t < L.length ∧ wr.ownsRow (w.heap.size + 1) 3 1 lv L.length (vl L) ∧ Hid (MadeO n k ms c L) ∧ Hid (CloO n k ms L t q) ∧ Own wr w.heap.size A (mkL n k ms c L) ∧ w.heap.size < wr.heap.size ∧ Below w.heap.size w wr) (fun _ i _ => (r4 - intOf i).toNat)
                  case atStart => exact ⟨0, L, rfl, by omega, by have := Hr.out; omega, by rw [Hr.out]; exact hrow, HMO, HCL, hM, hsz, hB⟩
                  case round =>
                    clear hrow HMO HCL hM hsz hB hlen hL0 hLO hlgb Hr ht hlt2 hti hdec2
                    obtain ⟨q, L, rfl, hq, htl, hrow, HMO, HCL, hM, hsz, hB⟩ := hrel
                    have hlen := HMO.out.len
                    rw [HA.out] at hlen
                    obtain ⟨r, Hr⟩ : ∃ r, Hid (L.length = r) := ⟨_, rfl⟩
                    rw [Hr.out] at hrow htl hlen
                    obtain ⟨lg, lc, hle, hlgb, hLO⟩ := Own.of (l := L.map Int.ofNat) hrow (by omega)
                    subst hle
                    by_cases hlt3 : q < r4
                    · have hqi : (q : Int) < r4 := by omega
                      have hq0 : (0 : Int) ≤ (q : Int) := by omega
                      have hdec3 : decide ((q : Int) < r4) = true := by simp; omega
                      have hti : (t : Int) < r := by omega
                      have ht0 : (0 : Int) ≤ (t : Int) := by omega
                      obtain ⟨x, hx⟩ : ∃ x, L[t]? = some x := ⟨L[t]'(by have := Hr.out; omega), by simp⟩
                      obtain ⟨m, hmj⟩ : ∃ m, ms[q]? = some m := ⟨ms[q]'(by have := Hr4.out; omega), by simp⟩
                      have hmP := HMS.out m (List.mem_of_getElem? hmj)
                      have hxA := (HMO.out.orb x (List.mem_of_getElem? hx)).1
                      rw [HA.out] at hxA
                      have hcx := hLO.cell t (by omega)
                      have hxe : (L.map Int.ofNat).getD t 0 = (x : Int) := by
                        have : (L.map Int.ofNat)[t]? = some (x : Int) := by rw [List.getElem?_map, hx]; rfl
                        simp [this]
                      rw [hxe] at hcx
                      have hlgw := hLO.lt
                      obtain ⟨mb, mo, um, rfl, hmbw, hcm, hsm⟩ := HV.out.at hmj
                      have hcm2 := (hB.cell (p := ⟨mb, mo + q, none⟩) hmbw).trans hcm
                      have hmbw2 : mb < wr.heap.size := by have := hB.size; omega
                      have hsm2 := hsm.below hB
                      obtain ⟨ma, mc, hme⟩ : ∃ a c, um = .slice a n c := by obtain ⟨a, c, e, _⟩ := hsm; exact ⟨a, c, by rw [e, List.length_map, hmP.len]⟩
                      have C := moved_any n k x m um wr.drew hn1 hn7 hk (by omega) (by omega) hsm2 hmP
                      have hst := HMO.out.step HK.out HMS.out HcA.out (List.mem_of_getElem? hx) (List.mem_of_getElem? hmj)
                      have hng := mkL_neg (L := L) HK.out HMS.out HcA.out HR.out hst.1 hst.2
                      have HADD : Hid (actC n k m x ∉ L → MadeO n k ms c (L ++ [actC n k m x])) := HMO.out.add HK.out HMS.out HcA.out (List.mem_of_getElem? hx) (List.mem_of_getElem? hmj)
                      have HNX : Hid (∀ L', CloO n k ms L' t q → L'[t]? = some x → actC n k m x ∈ L' → CloO n k ms L' t (q + 1)) := fun L' h1 h2 h3 => h1.next h2 hmj h3
                      have HX : Hid (L[t]? = some x) := hx
                      have hyA := hst.1
                      rw [HA.out] at hyA
                      obtain ⟨y, Hy⟩ : ∃ y, Hid (actC n k m x = y) := ⟨_, rfl⟩
                      rw [Hy.out] at C hng HADD HNX hyA
                      obtain ⟨my, Hmy⟩ : ∃ my, Hid (mkL n k ms c L y = my) := ⟨_, rfl⟩
                      rw [Hmy.out] at hng
                      subst hme
                      have hyi : (y : Int) < A := by omega
                      have hy0 : (0 : Int) ≤ (y : Int) := by omega
                      have HNG : Hid (my < 0 ↔ y ∉ L) := hng.1
                      have hmyb := hng.2
                      have hS : wr.cell? ⟨lg, t, none⟩ = some (.int .i64 (x : Int)) ∧ wr.cell? ⟨mb, mo + q, none⟩ = some (.slice ma n mc) := ⟨hcx, hcm2⟩
                      clear hx hmj hmP hsm hsm2 hcm hst hng hxe
                      go_wp2_with fail
                      refine wp_region_noPanic ?_
                      refine wp_region_held_drew (S := fun w' => w'.cell? ⟨lg, t, none⟩ = some (.int .i64 (x : Int)) ∧ w'.cell? ⟨mb, mo + q, none⟩ = some (.slice ma n mc)) (by kernel_rfl) (hS) (fun hSx => ?_)
                      refine wpAnyH_take (i := 0) (v := .slice (some ⟨lg, 0, none⟩) r lc) rfl (by kernel_rfl) (by kernel_rfl) (by kernel_rfl) (fun _ _ _ h => h) (Or.inl ⟨by rfl, fun w_ hSw => by (try dsimp only at hSw); go_simp⟩) hSx ?_
                      try simp only [Act.put, List.setIfInBounds_toArray]
                      refine wpAnyH_take (i := 1) (v := .int .i64 (t : Int)) rfl (by kernel_rfl) (by kernel_rfl) (by kernel_rfl) (fun _ _ _ h => h) (Or.inl ⟨by rfl, fun w_ hSw => by (try dsimp only at hSw); go_simp⟩) hSx ?_
                      try simp only [Act.put]
                      refine wpAnyH_take (i := 2) (v := .pointer (some ⟨lg, t, none⟩)) rfl (by kernel_rfl) (by kernel_rfl) (by kernel_rfl) (fun _ _ _ h => h) (Or.inl ⟨by rfl, fun w_ hSw => by (try dsimp only at hSw); go_simp⟩) hSx ?_
                      try simp only [Act.put]
                      refine wpAnyH_take (i := 3) (v := .int .i64 (x : Int)) rfl (by kernel_rfl) (by kernel_rfl) (by kernel_rfl) (fun _ _ _ h => h) (Or.inl ⟨by rfl, fun w_ hSw => by (try dsimp only at hSw); go_simp⟩) hSx ?_
                      try simp only [Act.put]
                      refine wpAnyH_take (i := 4) (v := .slice (some ⟨mb, mo, none⟩) r4 vcap) rfl (by kernel_rfl) (by kernel_rfl) (by kernel_rfl) (fun _ _ _ h => h) (Or.inl ⟨by rfl, fun w_ hSw => by (try dsimp only at hSw); go_simp⟩) hSx ?_
                      try simp only [Act.put]
                      refine wpAnyH_take (i := 5) (v := .int .i64 (q : Int)) rfl (by kernel_rfl) (by kernel_rfl) (by kernel_rfl) (fun _ _ _ h => h) (Or.inl ⟨by rfl, fun w_ hSw => by (try dsimp only at hSw); go_simp⟩) hSx ?_
                      try simp only [Act.put]
                      refine wpAnyH_take (i := 6) (v := .pointer (some ⟨mb, mo + q, none⟩)) rfl (by kernel_rfl) (by kernel_rfl) (by kernel_rfl) (fun _ _ _ h => h) (Or.inl ⟨by rfl, fun w_ hSw => by (try dsimp only at hSw); go_simp⟩) hSx ?_
                      try simp only [Act.put]
                      refine wpAnyH_take (i := 7) (v := .slice ma n mc) rfl (by kernel_rfl) (by kernel_rfl) (by kernel_rfl) (fun _ _ _ h => h) (Or.inl ⟨by rfl, fun w_ hSw => by (try dsimp only at hSw); go_simp⟩) hSx ?_
                      try simp only [Act.put]
                      refine wpAnyH_take (i := 8) (v := .int .i64 (k : Int)) rfl (by kernel_rfl) (by kernel_rfl) (by kernel_rfl) (fun _ _ _ h => h) (Or.inl ⟨by rfl, fun w_ hSw => by (try dsimp only at hSw); go_simp⟩) hSx ?_
                      try simp only [Act.put]
                      refine wpAnyH_ready (rs := [9]) (by kernel_rfl) (by simp) ?_
                      refine AllReadyH.cons rfl (fun J hJ => ?_) AllReadyH.nil
                      go_simp
                      refine (C).mono ?_
                      rintro e w4 ⟨rfl, b4⟩
                      have hS4 : w4.cell? ⟨lg, t, none⟩ = some (.int .i64 (x : Int)) ∧ w4.cell? ⟨mb, mo + q, none⟩ = some (.slice ma n mc) := ⟨(b4.cell (p := ⟨lg, t, none⟩) hlgw).trans hcx, (b4.cell (p := ⟨mb, mo + q, none⟩) hmbw2).trans hcm2⟩
                      go_wp2_with fail
                      refine hJ.out _ _ hS4 (fun hSy => ?_)
                      clear hJ J
                      try simp only [Act.put, List.setIfInBounds_toArray, List.set_cons_zero, List.set_cons_succ]
                      refine wpAnyH_ready (rs := [10]) (by kernel_rfl) (by simp) ?_
                      refine AllReadyH.cons rfl (fun J hJ => ?_) AllReadyH.nil
                      go_simp
                      refine hJ.out _ _ hS4 (fun _ => ?_)
                      clear hJ J
                      refine wpAnyH_done (by kernel_rfl) ?_ _
                      refine NoPanic.normal ?_
                      have hs4 : wr.heap.size ≤ w4.heap.size := b4.size
                      have hB4 : Below w.heap.size w w4 := hB.drew.trans (b4.mono (by show w.heap.size ≤ wr.heap.size; omega))
                      have hM4 := own_block hM (b4.block w.heap.size (by show w.heap.size < wr.heap.size; exact hsz))
                      have hrow4 : w4.ownsRow (w.heap.size + 1) 3 1 (.slice (some ⟨lg, 0, none⟩) r lc) r (vl L) := own_below (w := wr.drew) hrow b4
                      have hcy := hM4.cell y hyA
                      have hfy := hM4.frozen y
                      rw [Hmy.out] at hcy
                      clear hS hSx hS4 hSy hrow hM hB hcx hcm2 C hLO b4
                      by_cases hin : my < 0
                      · have hdn : decide (my < 0) = true := by simpa using hin
                        have hyL := HNG.out.1 hin
                        have hM5 : Own (w4.setCell ⟨w.heap.size, y, none⟩ (.int .i64 (c : Int))) w.heap.size A (mkL n k ms c (L ++ [y])) := (hM4.set y c).congr fun z _ => by
                          unfold upd; exact mkL_snoc z
                        have hB5 : Below w.heap.size w (w4.setCell ⟨w.heap.size, y, none⟩ (.int .i64 (c : Int))) := hB4.setCell (p := ⟨w.heap.size, y, none⟩) (Nat.le_refl _) _
                        have hrow5 := own_other hrow4 ⟨w.heap.size, y, none⟩ (.int .i64 (c : Int)) (by show w.heap.size < w.heap.size + 1; omega)
                        have hs5 : (w4.setCell ⟨w.heap.size, y, none⟩ (.int .i64 (c : Int))).heap.size = w4.heap.size := by simp
                        have hADD2 := HADD.out hyL
                        have HADD3 : Hid (MadeO n k ms c (L ++ [y])) := hADD2
                        have hrl : r + 1 ≤ A := by
                          have := hADD2.len
                          rw [HA.out, List.length_append, Hr.out] at this
                          simpa using this
                        clear hADD2 hM4 hB4 hrow4
                        go_wp2_with (first
                          | (at_builtin; refine wpList_append_own _ rfl _ _ 40 rfl (w.heap.size + 1) 3 i3 (.int .i64 0) 1 8 und22 ti tz0 tz1 tz2 rfl (by decide) _ _ _ rfl (hrow5.alloc _) ⟨w4.heap.size, 0, none⟩ 1 1 [.int .i64 (y : Int)] rfl rfl ?c1 ?c2 ?c3 ?c4 ?c5 ?_)
                          | go_in)
                        case c1 =>
                          intro i u hq
                          match i, hq with
                          | 0, hq => simp at hq; subst hq; exact cell_new _ _ _ _ hs5
                        case c2 => intro u hu; simp at hu; subst hu; rfl
                        case c3 => unfold maxLen; omega
                        case c4 => omega
                        case c5 => simp; omega
                        intro o' w6 hO6 hg6 _
                        have hU6 : Below (w.heap.size + 1) (w4.setCell ⟨w.heap.size, y, none⟩ (.int .i64 (c : Int))) w6 := ((Below.refl _ _).alloc (by omega) _).grown hg6 (by simp; omega) (fun k hk => (hrow5.lt k hk).1)
                        have hB6 := hB5.trans (hU6.mono (by omega))
                        have hM6 := own_block hM5 (hU6.block w.heap.size (by omega))
                        have hs6 := hU6.size
                        rw [hs5] at hs6
                        clear hU6 hg6 hrow5 hM5 hB5
                        go_wp2
                        go_roundw
                        case rel =>
                          have htL : t < L.length := by rw [Hr.out]; exact htl
                          refine ⟨q + 1, L ++ [y], by go_num, by omega, by rw [List.length_append, Hr.out]; simp; omega, ?_, HADD3, ?_, hM6, by omega, hB6⟩
                          · rw [List.length_append, Hr.out, vl_app]; exact hO6
                          · exact HNX.out _ (HCL.out.grow htL) (by rw [List.getElem?_append_left htL]; exact HX.out) (by simp)
                        case measure => simp [intOf]; omega
                      · have hdn : decide (my < 0) = false := by simpa using hin
                        have hyL : y ∈ L := Classical.byContradiction fun e => hin (HNG.out.2 e)
                        have HYL : Hid (y ∈ L) := hyL
                        clear hyL
                        go_wp2
                        go_roundw
                        case rel => exact ⟨q + 1, L, by go_num, by omega, by rw [Hr.out]; exact htl, by rw [Hr.out]; exact hrow4, HMO, HNX.out _ HCL.out HX.out HYL.out, hM4, by omega, hB4⟩
                        case measure => simp [intOf]; omega
                    · have hdec3 : decide ((q : Int) < r4) = false := by simp; omega
                      obtain rfl : q = r4 := by omega
                      go_wp2
                      go_roundw
                      case rel => exact ⟨t + 1, L, by go_num, by rw [Hr.out]; omega, by rw [Hr.out]; exact hrow, HMO, (by have h := HCL.out; rw [← Hr4.out] at h; exact h.turn : CloO n k ms L (t + 1) 0), hM, hsz, hB⟩
                      case measure => simp [intOf]; omega
                · have hdec2 : decide ((t : Int) < r) = false := by simp; omega
                  obtain rfl : t = r := by omega
                  have hMd : Own wr w.heap.size A (mkF n k ms (c + 1)) := hM.congr fun q hq => mkL_done HK.out HMS.out HcA.out HR.out HMO.out (by rw [Hr.out]; exact HCL.out) (by rw [HA.out]; exact hq)
                  clear hM hrow hLO
                  go_wp2
                  go_roundw
                  case rel => exact ⟨c + 1, by go_num, by omega, hMd, hsz, hB⟩
                  case measure => simp [intOf]; omega
            · have hMs : Own wr w.heap.size A (mkF n k ms (c + 1)) := hM.congr fun q hq => mkF_skip HK.out HMS.out hcA hr (by rw [HA.out]; exact hq)
              obtain ⟨mc, Hmc⟩ : ∃ mc, Hid (mkF n k ms c c = mc) := ⟨_, rfl⟩
              rw [Hmc.out] at hce hp1 hp2
              clear hr hcA hM
              go_wp2
              go_roundw
              case rel => exact ⟨c + 1, by go_num, by omega, hMs, hsz, hB⟩
              case measure => simp [intOf]; omega
          · have hdec : decide ((c : Int) < A) = false := by simp; omega
            obtain rfl : A = c := by omega
            go_wp2
            go_ret
            exact ⟨w.heap.size, rfl, Nat.le_refl _, hM.congr fun q hq => by rw [← HA.out]; exact mkF_all HK.out HMS.out (by rw [HA.out]; exact hq), hB⟩

end Go.Proofs.Ytmaplmgecohjbaa

namespace Go.Proofs.Ytmaplmgecohjbaa
open Go.RowKit

theorem countP_snoc (p : Nat → Bool) (c : Nat) : (List.range (c + 1)).countP p = (List.range c).countP p + if p c then 1 else 0 := by
  rw [List.range_succ, List.countP_append, List.countP_singleton]

set_option maxRecDepth 100000 in
set_option maxHeartbeats 1000000 in
theorem ColouringsOf_any (n k : Nat) (ms : List (List Nat)) (v : Value) (w : World) (h : Mk n ms v w) (hk : 1 ≤ k) (hk3 : k ≤ 3) :
    Calls Try.prog 21 #[.int .i64 (n : Int), v, .int .i64 (k : Int)] w fun e w' => e = .returned (.int .i64 (colG n k ms : Int)) ∧ Below w.heap.size w w' := by
  have hA := pow_small h.n7 hk hk3
  have C := classes_any n k ms v w h hk hk3
  unfold ClsAns at C
  rw [colG_count]
  obtain ⟨R, HR⟩ : ∃ R : Nat → Nat, Hid (rp n k ms = R) := ⟨_, rfl⟩
  rw [HR.out] at C ⊢
  obtain ⟨A, HA⟩ : ∃ A, Hid (k ^ n = A) := ⟨_, rfl⟩
  rw [HA.out] at C hA ⊢
  obtain ⟨z, Hz⟩ : ∃ z, Hid ((List.range A).countP (fun c => R c == c) = z) := ⟨_, rfl⟩
  rw [Hz.out]
  clear h
  go_enter Try.func21, Try.ntmps21
  go_wp2_with (go_at_call 47; refine C.mono ?_; rintro e w1 ⟨g, rfl, hg, hO, b1⟩)
  go_loop [8, 9] (fun s i => ∃ c p : Nat, i = .int .i64 (c : Int) ∧ c ≤ A ∧ s = .int .i64 (p : Int) ∧ p ≤ c ∧ Hid ((List.range c).countP (fun c => R c == c) = p)) (fun _ i => (A - intOf i).toNat)
  case atStart => exact ⟨0, 0, rfl, by omega, rfl, by omega, (rfl : (List.range 0).countP (fun c => R c == c) = 0)⟩
  case round =>
    obtain ⟨c, p, rfl, hc, rfl, hp, HP⟩ := hrel
    by_cases hlt : c < A
    · have hci : (c : Int) < A := by omega
      have hc0 : (0 : Int) ≤ (c : Int) := by omega
      have hdec : decide ((c : Int) < A) = true := by simp; omega
      have hcc := hO.cell c hlt
      have HS := countP_snoc (fun c => R c == c) c
      rw [HP.out] at HS
      by_cases he : R c = c
      · rw [if_pos (by simpa using he)] at HS
        have HS' : Hid ((List.range (c + 1)).countP (fun c => R c == c) = p + 1) := HS
        rw [he] at hcc
        have hb : ((c : Int) == (c : Int)) = true := by simp
        clear HS
        go_wp2
        go_round
        case rel => exact ⟨c + 1, p + 1, by go_num, by omega, by go_num, by omega, HS'⟩
        case measure => simp [intOf]; omega
      · rw [if_neg (by simpa using he), Nat.add_zero] at HS
        have HS' : Hid ((List.range (c + 1)).countP (fun c => R c == c) = p) := HS
        obtain ⟨rc, Hrc⟩ : ∃ rc, Hid (R c = rc) := ⟨_, rfl⟩
        rw [Hrc.out] at hcc he
        have hb : ((rc : Int) == (c : Int)) = false := by simp; omega
        clear HS
        go_wp2
        go_round
        case rel => exact ⟨c + 1, p, by go_num, by omega, rfl, by omega, HS'⟩
        case measure => simp [intOf]; omega
    · have hdec : decide ((c : Int) < A) = false := by simp; omega
      obtain rfl : A = c := by omega
      obtain rfl : p = z := by rw [← HP.out, ← Hz.out]
      go_wp2
      go_ret
      exact ⟨rfl, b1⟩

theorem count_take {l : List Nat} {i : Nat} (hi : i < l.length) (x : Nat) : (l.take (i + 1)).count x = (l.take i).count x + if l.getD i 0 = x then 1 else 0 := by
  rw [List.take_add_one, List.getElem?_eq_getElem hi]
  simp only [Option.toList_some, List.count_append, List.count_singleton]
  have e : l.getD i 0 = l[i] := by simp [hi]
  rw [e]
  by_cases h : l[i] = x <;> simp [h]

set_option maxRecDepth 100000 in
set_option maxHeartbeats 4000000 in
theorem ContentOf_any (n k : Nat) (ms : List (List Nat)) (many : List Nat) (v u : Value) (w : World) (h : Mk n ms v w) (hk : 1 ≤ k) (hk3 : k ≤ 3) (hu : Sl w u (many.map Int.ofNat)) (hml : many.length = k) :
    Calls Try.prog 23 #[.int .i64 (n : Int), v, u] w fun e w' => e = .returned (.int .i64 (conG n k ms many : Int)) ∧ Below w.heap.size w w' := by
  have hn1 := h.n1
  have hn7 := h.n7
  have hA := pow_small h.n7 hk hk3
  have C := classes_any n k ms v w h hk hk3
  unfold ClsAns at C
  rw [conG_count (by omega) h.isP]
  obtain ⟨R, HR⟩ : ∃ R : Nat → Nat, Hid (rp n k ms = R) := ⟨_, rfl⟩
  rw [HR.out] at C ⊢
  have HD : Hid (∀ c, (dig k n c).length = n ∧ ∀ x ∈ dig k n c, x < k) := fun c => ⟨dig_len k n c, dig_lt (by omega) n c⟩
  have HH : Hid (∀ c, hasCon n k many c = true ↔ conL k (dig k n c) = many) := fun c => by unfold hasCon; rw [beq_iff_eq]
  obtain ⟨A, HA⟩ : ∃ A, Hid (k ^ n = A) := ⟨_, rfl⟩
  rw [HA.out] at C hA ⊢
  obtain ⟨p, Hp⟩ : ∃ p : Nat → Bool, Hid ((fun c => (R c == c) && hasCon n k many c) = p) := ⟨_, rfl⟩
  rw [Hp.out]
  have HPc : Hid (∀ c, p c = ((R c == c) && hasCon n k many c)) := fun c => by rw [← Hp.out]
  obtain ⟨z, Hz⟩ : ∃ z, Hid ((List.range A).countP p = z) := ⟨_, rfl⟩
  rw [Hz.out]
  have C1 := fun c W (hc : c ≤ 1000000) => Digits_any k n c W hk (by omega) hn7 hc
  have hmk := run_make3 k (by omega)
  have HU : Hid (Sl w u (many.map Int.ofNat)) := hu
  obtain ⟨ua, uc, eu, _⟩ := id hu
  rw [List.length_map, hml] at eu
  subst eu
  have HML : Hid (many.length = k) := hml
  clear h hu hml
  go_enter Try.func23, Try.ntmps23
  go_wp2_with (go_at_call 47; refine C.mono ?_; rintro e w1 ⟨g, rfl, hg, hO, b1⟩)
  have HB1 : Hid (Below w.heap.size w w1) := b1
  have hgl := hO.lt
  have hs1 := b1.size
  clear b1 C
  go_loopw [9, 10] (fun s i wr => ∃ c q : Nat, i = .int .i64 (c : Int) ∧ c ≤ A ∧ s = .int .i64 (q : Int) ∧ q ≤ c ∧ Hid ((List.range c).countP p = q) ∧ Below w1.heap.size w1 wr) (fun _ i _ => (A - intOf i).toNat)
  case atStart => exact ⟨0, 0, rfl, by omega, rfl, by omega, (rfl : (List.range 0).countP p = 0), Below.refl _ _⟩
  case round =>
    obtain ⟨c, q, rfl, hc, rfl, hq, HP, hB⟩ := hrel
    have hszb := hB.size
    by_cases hlt : c < A
    · have hci : (c : Int) < A := by omega
      have hc0 : (0 : Int) ≤ (c : Int) := by omega
      have hdec : decide ((c : Int) < A) = true := by simp; omega
      have hcc := (hB.cell (p := ⟨g, c, none⟩) hgl).trans (hO.cell c hlt)
      have HS := countP_snoc p c
      rw [HP.out, HPc.out c] at HS
      by_cases he : R c = c
      · have hbe : (R c == c) = true := by simpa using he
        rw [hbe, Bool.true_and] at HS
        rw [he] at hcc
        have hbc : ((c : Int) == (c : Int)) = true := by simp
        obtain ⟨b, Hb⟩ : ∃ b, Hid (hasCon n k many c = b) := ⟨_, rfl⟩
        rw [Hb.out] at HS
        have HS' : Hid ((List.range (c + 1)).countP p = q + if b = true then 1 else 0) := HS
        have HHc := HH.out c
        rw [Hb.out] at HHc
        have HBc : Hid (b = true ↔ conL k (dig k n c) = many) := HHc
        have HDc : Hid ((dig k n c).length = n ∧ ∀ x ∈ dig k n c, x < k) := HD.out c
        have C2 := fun W => C1 c W (by omega)
        obtain ⟨D, HDD⟩ : ∃ D, Hid (dig k n c = D) := ⟨_, rfl⟩
        rw [HDD.out] at HBc HDc C2
        clear HS hbe he HHc
        go_wp2_with (go_at_call 50; refine (C2 _).mono ?_; rintro e w2 ⟨⟨y, rfl, hOy⟩, b2⟩; obtain ⟨dg, dc, ey, hdb, hDO⟩ := Own.of (l := D.map Int.ofNat) hOy (by omega); subst ey)
        have hE0 := own_made w2 k
        have hD0 := hDO.below (balloc w2 (.cells (madeCells #[.int .i64 0] k) 3))
        have hdl := hDO.lt
        have hB0 := Below.next b2 (balloc w2 (.cells (madeCells #[.int .i64 0] k) 3))
        have hs2 := b2.size
        clear hOy hDO b2 C2
        obtain ⟨w0, rfl⟩ : ∃ w0, w0 = wr := ⟨_, rfl⟩
        go_loopw [13] (fun i wr => ∃ (j : Nat) (e : Nat → Int), i = .int .i64 (j : Int) ∧ j ≤ n ∧ Own wr w2.heap.size k e ∧ Own wr dg n (fun j => (D.map Int.ofNat).getD j 0) ∧ Hid (∀ x, x < k → e x = ((D.take j).count x : Int)) ∧ w2.heap.size < wr.heap.size ∧ Below w0.heap.size w0 wr) (fun i _ => (n - intOf i).toNat)
        case atStart => exact ⟨0, _, rfl, by omega, hE0, hD0, (fun x _ => by simp : ∀ x, x < k → _), by simp, hB0⟩
        case round =>
          clear hE0 hD0 hB0
          obtain ⟨j, e, rfl, hj, hE, hD, HE, hsz, hB2⟩ := hrel
          by_cases hlt2 : j < n
          · have hji : (j : Int) < n := by omega
            have hj0 : (0 : Int) ≤ (j : Int) := by omega
            have hdec2 : decide ((j : Int) < n) = true := by simp; omega
            have hcd := hD.cell j hlt2
            have hjD : j < D.length := by rw [HDc.out.1]; exact hlt2
            have hdj : (D.map Int.ofNat).getD j 0 = (D.getD j 0 : Int) := by simp [hjD]
            rw [hdj] at hcd
            have hxk : D.getD j 0 < k := HDc.out.2 _ (getD_mem hjD)
            have HCT : Hid (∀ x, (D.take (j + 1)).count x = (D.take j).count x + if D.getD j 0 = x then 1 else 0) := fun x => count_take hjD x
            obtain ⟨x, Hx⟩ : ∃ x, Hid (D.getD j 0 = x) := ⟨_, rfl⟩
            rw [Hx.out] at hcd hxk HCT
            have hxi : (x : Int) < k := by omega
            have hx0 : (0 : Int) ≤ (x : Int) := by omega
            have hce := hE.cell x hxk
            have hfe := hE.frozen x
            have hex := HE.out x hxk
            have hcb : (D.take j).count x ≤ 7 := Nat.le_trans List.count_le_length (by rw [List.length_take]; omega)
            obtain ⟨ex, Hex⟩ : ∃ ex, Hid (e x = ex) := ⟨_, rfl⟩
            rw [Hex.out] at hce hex
            have hex0 : 0 ≤ ex := by rw [hex]; omega
            have hex7 : ex ≤ 7 := by rw [hex]; omega
            have HEX : Hid (ex = ((D.take j).count x : Int)) := hex
            have hne : dg ≠ w2.heap.size := by omega
            clear hdj hex
            go_wp2
            go_roundw
            case rel =>
              refine ⟨j + 1, upd e x (ex + 1), by go_num, by omega, hE.set x _, hD.other ⟨w2.heap.size, x, none⟩ _ hne, (fun y hy => ?_ : ∀ y, y < k → _), by simpa using hsz, hB2.setCell (p := ⟨w2.heap.size, x, none⟩) (by show w0.heap.size ≤ w2.heap.size; omega) _⟩
              have hct := HCT.out y
              unfold upd
              by_cases ey : y = x
              · subst ey
                rw [if_pos rfl] at hct ⊢
                rw [hct, HEX.out]; simp
              · rw [if_neg ey, HE.out y hy, hct, if_neg (fun h => ey h.symm), Nat.add_zero]
            case measure => simp [intOf]; omega
          · have hdec2 : decide ((j : Int) < n) = false := by simp; omega
            obtain rfl : n = j := by omega
            have hDt : D.take n = D := List.take_of_length_le (by rw [HDc.out.1]; omega)
            have hSl : Sl wr (.slice (some ⟨w2.heap.size, 0, none⟩) k k) ((conL k D).map Int.ofNat) := by
              have h := (hE.congr (f' := fun y => ((conL k D).getD y 0 : Int)) fun y hy => by
                rw [HE.out y hy, hDt, conL_at D hy]).sl k
              have e1 : ((List.range k).map fun y => ((conL k D).getD y 0 : Int)) = (conL k D).map Int.ofNat := by
                have := pl_map (l := conL k D) (n := k) (by simp [conL])
                unfold pl at this
                exact this
              rw [e1] at h
              exact h
            have hUr : Sl wr (.slice ua k uc) (many.map Int.ofNat) := HU.out.below ((HB1.out.trans (hB.mono hs1)).trans (hB2.mono (by omega)))
            have C3 := ints_any ((conL k D).map Int.ofNat) (many.map Int.ofNat) _ _ wr hSl hUr (by simp [conL]; unfold maxLen; omega) (by rw [List.length_map, HML.out]; unfold maxLen; omega)
            have HIJ : Hid ((conL k D).map Int.ofNat = many.map Int.ofNat ↔ conL k D = many) := ⟨fun e => (List.map_inj_right (fun a b h => Int.ofNat.inj h)).1 e, fun e => by rw [e]⟩
            have HBB : Hid (Below w1.heap.size w1 wr) := hB.trans (hB2.mono hszb)
            clear hE hD HE hSl hUr hDt
            go_wp2_with (go_at_call 44; refine C3.mono ?_; rintro e w3 ⟨b3, rfl, hb3, bb3⟩; have HB3 : Hid (b3 = true ↔ conL k D = many) := hb3.trans HIJ.out; clear hb3)
            · have hbt : b = true := HBc.out.2 (HB3.out.1 (by assumption))
              subst hbt
              go_roundw
              case rel => exact ⟨c + 1, q + 1, by go_num, by omega, by go_num, by omega, (by have := HS'.out; simpa using this : (List.range (c + 1)).countP p = q + 1), HBB.out.trans (bb3.mono (by omega))⟩
              case measure => simp [intOf]; omega
            · have hbt : b = false := by
                cases b with
                | false => rfl
                | true => have := HB3.out.2 (HBc.out.1 rfl); simp_all
              subst hbt
              go_roundw
              case rel => exact ⟨c + 1, q, by go_num, by omega, rfl, by omega, (by have := HS'.out; simpa using this : (List.range (c + 1)).countP p = q), HBB.out.trans (bb3.mono (by omega))⟩
              case measure => simp [intOf]; omega
      · have hbe : (R c == c) = false := by simpa using he
        rw [hbe, Bool.false_and] at HS
        have HS' : Hid ((List.range (c + 1)).countP p = q) := (by simpa using HS : (List.range (c + 1)).countP p = q)
        obtain ⟨rc, Hrc⟩ : ∃ rc, Hid (R c = rc) := ⟨_, rfl⟩
        rw [Hrc.out] at hcc he
        have hb : ((rc : Int) == (c : Int)) = false := by simp; omega
        clear HS hbe
        go_wp2
        go_roundw
        case rel => exact ⟨c + 1, q, by go_num, by omega, rfl, by omega, HS', hB⟩
        case measure => simp [intOf]; omega
    · have hdec : decide ((c : Int) < A) = false := by simp; omega
      obtain rfl : A = c := by omega
      obtain rfl : q = z := by rw [← HP.out, ← Hz.out]
      go_wp2
      go_ret
      exact ⟨rfl, HB1.out.trans (hB.mono hs1)⟩

end Go.Proofs.Ytmaplmgecohjbaa
