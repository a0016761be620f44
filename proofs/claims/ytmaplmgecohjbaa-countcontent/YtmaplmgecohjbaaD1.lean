/- The walks of the document's Digits, moved. -/
import Derived.Test.YtmaplmgecohjbaaG52
import Derived.Test.YtmaplmgecohjbaaP25
import Derived.Test.YtmaplmgecohjbaaGB
import Derived.Test.YtmaplmgecohjbaaCCls
import Derived.Deep.RegionHeld3
import Derived.OrdersHeld
namespace Go.Proofs.Ytmaplmgecohjbaa
open Go.RowKit

theorem dig_snoc (b : Nat) : ∀ n c, dig b (n + 1) c = dig b n c ++ [c / b ^ n % b]
  | 0, c => by simp [dig]
  | n + 1, c => by
    rw [dig, dig_snoc b n (c / b)]
    rw [dig]
    simp only [List.cons_append]
    rw [Nat.div_div_eq_div_mul, Nat.pow_succ, Nat.mul_comm b]
theorem vl_app (l : List Nat) (x : Nat) : vl (l ++ [x]) = vl l ++ [.int .i64 (x : Int)] := by simp [vl]

set_option maxRecDepth 100000 in
set_option maxHeartbeats 1000000 in
theorem Digits_any (b n c : Nat) (w : World) (hb : 1 ≤ b) (hb7 : b ≤ 7) (hn : n ≤ 7) (hc : c ≤ 1000000) :
    Calls Try.prog 50 #[.int .i64 (c : Int), .int .i64 (b : Int), .int .i64 (n : Int)] w fun e w' => (∃ y, e = .returned y ∧ w'.ownsRow w.heap.size 3 1 y n (vl (dig b n c))) ∧ Below w.heap.size w w' := by
  obtain ⟨i3, ti, tz0, tz1, tz2⟩ := info3
  have hb0 : (b : Int) ≠ 0 := by omega
  have hbp : (0 : Int) < b := by omega
  go_enter Try.func50, Try.ntmps50
  go_wp2
  go_loopw [0, 7, 8] (fun q o i wr => ∃ (j d : Nat), i = .int .i64 (j : Int) ∧ j ≤ n ∧ q = .int .i64 (d : Int) ∧ d ≤ c ∧ Hid (d = c / b ^ j) ∧ wr.ownsRow w.heap.size 3 1 o j (vl (dig b j c)) ∧ Below w.heap.size w wr) (fun _ _ i _ => (n - intOf i).toNat)
  case atStart => exact ⟨0, c, rfl, by omega, rfl, Nat.le_refl _, (by simp : c = c / b ^ 0), World.ownsRow_nil _ _ _ _, Below.refl _ _⟩
  case round =>
    obtain ⟨j, d, rfl, hj, rfl, hd, HD, hO, hB⟩ := hrel
    have hsz := hB.size
    obtain ⟨o, rfl⟩ : ∃ o, o = u7 := ⟨_, rfl⟩
    by_cases hlt : j < n
    · have hji : (j : Int) < n := by omega
      have hdec : decide ((j : Int) < n) = true := by simp; omega
      have hmo : (d : Int) % (b : Int) = ((d % b : Nat) : Int) := by simp
      have hdi : (d : Int) / (b : Int) = ((d / b : Nat) : Int) := by simp
      have hmb := Nat.mod_lt d (show 0 < b by omega)
      have hdb : d / b ≤ d := Nat.div_le_self _ _
      obtain ⟨x, Hx⟩ : ∃ x, Hid (d % b = x) := ⟨_, rfl⟩
      obtain ⟨q, Hq⟩ : ∃ q, Hid (d / b = q) := ⟨_, rfl⟩
      rw [Hx.out] at hmo hmb
      rw [Hq.out] at hdi hdb
      go_wp2_with (first
        | (at_builtin; refine wpList_append_own _ rfl _ _ 40 rfl w.heap.size 3 i3 (.int .i64 0) 1 8 und22 ti tz0 tz1 tz2 rfl (by decide) _ _ _ rfl (hO.alloc _) ⟨wr.heap.size, 0, none⟩ 1 1 [.int .i64 (x : Int)] rfl rfl ?c1 ?c2 ?c3 ?c4 ?c5 ?_)
        | go_in)
      case c1 =>
        intro i u hq
        match i, hq with
        | 0, hq => simp at hq; subst hq; exact cell_new _ _ _ _ rfl
      case c2 => intro u hu; simp at hu; subst hu; rfl
      case c3 => unfold maxLen; omega
      case c4 => omega
      case c5 => simp; omega
      intro o' w2 hO2 hg2 _
      have hU2 : Below w.heap.size wr w2 := ((Below.refl _ _).alloc (by omega) _).grown hg2 (by simp; omega) (fun k hk => (hO.lt k hk).1)
      have hB2 := hB.trans hU2
      clear hU2 hg2 hO hB
      go_wp2
      go_roundw
      case rel =>
        refine ⟨j + 1, q, by go_num, by omega, rfl, by omega, ?_, ?_, hB2⟩
        · show q = _
          rw [← Hq.out, HD.out, Nat.div_div_eq_div_mul, Nat.pow_succ]
        · rw [dig_snoc, vl_app, ← HD.out, Hx.out]; exact hO2
      case measure => simp [intOf]; omega
    · have hdec : decide ((j : Int) < n) = false := by simp; omega
      obtain rfl : j = n := by omega
      go_wp2
      go_ret
      exact ⟨⟨_, rfl, hO⟩, hB⟩

theorem run_make3 (n : Nat) (hn : n ≤ 100000000) (w : World) : (Instr.makeSlice 40 (.int .i64 (n : Int)) (.int .i64 (n : Int))).run Try.prog w = .ok (.slice (some ⟨w.heap.size, 0, none⟩) n n) (w.alloc (.cells (madeCells #[.int .i64 0] n) 3)) := by
  obtain ⟨i3, hi, hz0, hz1, hz2⟩ := info3
  have h := run_make (P := Try.prog) w 40 3 i3 (.int .i64 0) und22 hi hz0 .i64 .i64 n n (by omega) (by omega) (by rw [hz2]; omega) (by omega)
  simpa [hz1, Value.cells] using h
theorem own_made (w : World) (n : Nat) : Own (w.alloc (.cells (madeCells #[.int .i64 0] n) 3)) w.heap.size n (fun _ => 0) := by
  refine ⟨_, heap_alloc_new w _, fun j hj => ?_⟩
  rw [Array.getElem?_eq_getElem (by rw [size_madeCells]; exact hj)]
  simp [madeCells, Nat.mod_one]

set_option maxRecDepth 100000 in
set_option maxHeartbeats 2000000 in
theorem moved_any (n k c : Nat) (a : List Nat) (v : Value) (w : World) (h1 : 1 ≤ n) (hn : n ≤ 7) (hk : 1 ≤ k) (hk3 : k ≤ 7) (hc : c ≤ 1000000) (hv : Sl w v (a.map Int.ofNat)) (ha : IsP n a) :
    Calls Try.prog 67 #[.int .i64 (c : Int), v, .int .i64 (k : Int)] w fun e w' => e = .returned (.int .i64 (actC n k a c : Int)) ∧ Below w.heap.size w w' := by
  obtain ⟨vb, vo, vc, rfl, hvb, hvc⟩ := hv.form (n := n) (by rw [List.length_map, ha.len]) (by omega)
  have HV : Hid (∀ j, j < n → w.cell? ⟨vb, vo + j, none⟩ = some (.int .i64 (a.getD j 0 : Int))) := fun j hj => by
    rw [hvc j hj]
    have : j < a.length := by rw [ha.len]; exact hj
    simp [this]
  have HA : Hid (IsP n a) := ha
  have C1 := fun W => Digits_any k n c W hk hk3 hn hc
  have HX : Hid (∀ x ∈ mvd n a (dig k n c), x < k) := mvd_lt ha (dig_len k n c) (dig_lt (by omega) n c)
  have hmk := run_make3 n (by omega)
  clear hv hvc ha
  go_enter Try.func67, Try.ntmps67
  go_wp2_with (go_at_call 50; refine (C1 _).mono ?_; rintro e w1 ⟨⟨y, rfl, hO⟩, b1⟩; obtain ⟨dg, dc, ey, hdb, hDO⟩ := Own.of (l := (dig k n c).map Int.ofNat) hO (by omega); subst ey)
  have hE0 := own_made w1 n
  have hD0 := hDO.below (balloc w1 (.cells (madeCells #[.int .i64 0] n) 3))
  have hdl := hDO.lt
  have hB0 := Below.next b1 (balloc w1 (.cells (madeCells #[.int .i64 0] n) 3))
  have hs1 := b1.size
  clear hO hDO b1 C1 hmk
  go_loopw [9] (fun i wr => ∃ (j : Nat) (e : Nat → Int), i = .int .i64 (j : Int) ∧ j ≤ n ∧ Own wr w1.heap.size n e ∧ Own wr dg n (fun j => ((dig k n c).map Int.ofNat).getD j 0) ∧ Hid (∀ q, q < j → e (a.getD q 0) = ((dig k n c).getD q 0 : Int)) ∧ w1.heap.size < wr.heap.size ∧ Below w.heap.size w wr) (fun i _ => (n - intOf i).toNat)
  case atStart => exact ⟨0, _, rfl, by omega, hE0, hD0, (fun q h => by omega : ∀ q, q < 0 → _), by simp, hB0⟩
  case round =>
    clear hE0 hD0 hB0
    obtain ⟨j, e, rfl, hj, hE, hD, HE, hsz, hB⟩ := hrel
    by_cases hlt : j < n
    · have hji : (j : Int) < n := by omega
      have hj0 : (0 : Int) ≤ (j : Int) := by omega
      have hdec : decide ((j : Int) < n) = true := by simp; omega
      have hca := (hB.cell (p := ⟨vb, vo + j, none⟩) hvb).trans (HV.out j hlt)
      have hcd := hD.cell j hlt
      have hdj : ((dig k n c).map Int.ofNat).getD j 0 = ((dig k n c).getD j 0 : Int) := by
        have : j < (dig k n c).length := by rw [dig_len]; exact hlt
        simp [this]
      rw [hdj] at hcd
      have hyn : a.getD j 0 < n := HA.out.at hlt
      obtain ⟨y, Hy⟩ : ∃ y, Hid (a.getD j 0 = y) := ⟨_, rfl⟩
      obtain ⟨x, Hx⟩ : ∃ x, Hid ((dig k n c).getD j 0 = x) := ⟨_, rfl⟩
      rw [Hy.out] at hca hyn
      rw [Hx.out] at hcd
      have hyi : (y : Int) < n := by omega
      have hy0 : (0 : Int) ≤ (y : Int) := by omega
      have hfe := hE.frozen y
      have hce := hE.cell y hyn
      have hne : dg ≠ w1.heap.size := by omega
      have hS : wr.cell? ⟨vb, vo + j, none⟩ = some (.int .i64 (y : Int)) ∧ wr.cell? ⟨dg, j, none⟩ = some (.int .i64 (x : Int)) := ⟨hca, hcd⟩
      have hS2 : (wr.setCell ⟨w1.heap.size, y, none⟩ (.int .i64 (x : Int))).cell? ⟨vb, vo + j, none⟩ = some (.int .i64 (y : Int)) ∧ (wr.setCell ⟨w1.heap.size, y, none⟩ (.int .i64 (x : Int))).cell? ⟨dg, j, none⟩ = some (.int .i64 (x : Int)) := by
        refine ⟨?_, (hD.other ⟨w1.heap.size, y, none⟩ (.int .i64 (x : Int)) hne).cell j hlt |>.trans (by rw [hdj, Hx.out])⟩
        rw [World.cell?_of_block (w := wr) (heap_setCell_other wr _ _ _ (by show vb ≠ w1.heap.size; omega))]
        exact hca
      go_wp2_with fail
      refine wp_region_noPanic ?_
      refine wp_region_held_drew (S := fun w' => w'.cell? ⟨vb, vo + j, none⟩ = some (.int .i64 (y : Int)) ∧ w'.cell? ⟨dg, j, none⟩ = some (.int .i64 (x : Int))) (by kernel_rfl) (hS) (fun hSx => ?_)
      refine wpAnyH_take (i := 0) (v := .slice (some ⟨w1.heap.size, 0, none⟩) n n) rfl (by kernel_rfl) (by kernel_rfl) (by kernel_rfl) (fun _ _ _ h => h) (Or.inl ⟨by rfl, fun w_ hSw => by (try dsimp only at hSw); go_simp⟩) hSx ?_
      try simp only [Act.put, List.setIfInBounds_toArray]
      refine wpAnyH_take (i := 1) (v := .slice (some ⟨vb, vo, none⟩) n vc) rfl (by kernel_rfl) (by kernel_rfl) (by kernel_rfl) (fun _ _ _ h => h) (Or.inl ⟨by rfl, fun w_ hSw => by (try dsimp only at hSw); go_simp⟩) hSx ?_
      try simp only [Act.put]
      refine wpAnyH_take (i := 2) (v := .int .i64 (j : Int)) rfl (by kernel_rfl) (by kernel_rfl) (by kernel_rfl) (fun _ _ _ h => h) (Or.inl ⟨by rfl, fun w_ hSw => by (try dsimp only at hSw); go_simp⟩) hSx ?_
      try simp only [Act.put]
      refine wpAnyH_take (i := 3) (v := .pointer (some ⟨vb, vo + j, none⟩)) rfl (by kernel_rfl) (by kernel_rfl) (by kernel_rfl) (fun _ _ _ h => h) (Or.inl ⟨by rfl, fun w_ hSw => by (try dsimp only at hSw); go_simp⟩) hSx ?_
      try simp only [Act.put]
      refine wpAnyH_take (i := 4) (v := .int .i64 (y : Int)) rfl (by kernel_rfl) (by kernel_rfl) (by kernel_rfl) (fun _ _ _ h => h) (Or.inl ⟨by rfl, fun w_ hSw => by (try dsimp only at hSw); go_simp⟩) hSx ?_
      try simp only [Act.put]
      refine wpAnyH_take (i := 5) (v := .slice (some ⟨dg, 0, none⟩) n dc) rfl (by kernel_rfl) (by kernel_rfl) (by kernel_rfl) (fun _ _ _ h => h) (Or.inl ⟨by rfl, fun w_ hSw => by (try dsimp only at hSw); go_simp⟩) hSx ?_
      try simp only [Act.put]
      refine wpAnyH_take (i := 6) (v := .int .i64 (j : Int)) rfl (by kernel_rfl) (by kernel_rfl) (by kernel_rfl) (fun _ _ _ h => h) (Or.inl ⟨by rfl, fun w_ hSw => by (try dsimp only at hSw); go_simp⟩) hSx ?_
      try simp only [Act.put]
      refine wpAnyH_take (i := 7) (v := .pointer (some ⟨dg, j, none⟩)) rfl (by kernel_rfl) (by kernel_rfl) (by kernel_rfl) (fun _ _ _ h => h) (Or.inl ⟨by rfl, fun w_ hSw => by (try dsimp only at hSw); go_simp⟩) hSx ?_
      try simp only [Act.put]
      refine wpAnyH_take (i := 8) (v := .int .i64 (x : Int)) rfl (by kernel_rfl) (by kernel_rfl) (by kernel_rfl) (fun _ _ _ h => h) (Or.inl ⟨by rfl, fun w_ hSw => by (try dsimp only at hSw); go_simp⟩) hSx ?_
      try simp only [Act.put]
      refine wpAnyH_take (i := 9) (v := .pointer (some ⟨w1.heap.size, y, none⟩)) rfl (by kernel_rfl) (by kernel_rfl) (by kernel_rfl) (fun _ _ _ h => h) (Or.inl ⟨by rfl, fun w_ hSw => by (try dsimp only at hSw); go_simp⟩) hSx ?_
      try simp only [Act.put]
      refine wpAnyH_ready (rs := [10]) (by kernel_rfl) (by simp) ?_
      refine AllReadyH.cons rfl (fun J hJ => ?_) AllReadyH.nil
      go_simp
      refine hJ.out _ _ hS2 (fun _ => ?_)
      clear hJ J
      refine wpAnyH_done (by kernel_rfl) ?_ _
      refine NoPanic.normal ?_
      go_wp2
      go_roundw
      case rel =>
        refine ⟨j + 1, upd e y x, by go_num, by omega, hE.set y x, hD.other ⟨w1.heap.size, y, none⟩ _ hne, (fun q hq => ?_ : ∀ q, q < j + 1 → _), by simpa using hsz, (hB.drew.setCell (p := ⟨w1.heap.size, y, none⟩) (by show w.heap.size ≤ w1.heap.size; omega) _)⟩
        unfold upd
        by_cases eq : q = j
        · subst eq
          rw [if_pos Hy.out, Hx.out]
        · have hqy : a.getD q 0 ≠ y := fun h => eq (HA.out.pm.inj q j (by omega) hlt (by rw [h, Hy.out]))
          rw [if_neg hqy]
          exact HE.out q (by omega)
      case measure => simp [intOf]; omega
    · have hdec : decide ((j : Int) < n) = false := by simp; omega
      obtain rfl : j = n := by omega
      have hSl : Sl wr (.slice (some ⟨w1.heap.size, 0, none⟩) j j) ((mvd j a (dig k j c)).map Int.ofNat) := by
        have h := (hE.congr (f' := fun y => ((mvd j a (dig k j c)).getD y 0 : Int)) fun y hy => by
          have h2 := HE.out _ ((invL_isP HA.out).at hy)
          rw [a_inv HA.out hy] at h2
          rw [h2, mvd_at hy]).sl j
        have e1 : ((List.range j).map fun y => ((mvd j a (dig k j c)).getD y 0 : Int)) = (mvd j a (dig k j c)).map Int.ofNat := by
          have := pl_map (l := mvd j a (dig k j c)) (mvd_len j a _)
          unfold pl at this
          exact this
        rw [e1] at h
        exact h
      have C2 := Number_any k (mvd j a (dig k j c)) _ wr hk3 hSl (by rw [mvd_len]; exact hn) HX.out
      clear hE hD HE hSl
      go_wp2_with (go_at_call 84; refine C2.mono ?_; rintro e2 w2 ⟨rfl, rfl⟩)
      go_ret
      exact ⟨rfl, hB⟩

end Go.Proofs.Ytmaplmgecohjbaa
