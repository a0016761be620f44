/- The walk of slanted, with the other way to find a place between. -/
import Derived.Test.YtdeofjmgjhfkcaaA4
namespace Go.Proofs.Ytdeofjmgjhfkcaa
open Go.RowKit

set_option maxRecDepth 100000 in
set_option maxHeartbeats 8000000 in
theorem slanted_sk (t m tb pb base gb : Nat) (L : List (List Nat)) (w : World) (h : RowB w base gb m L) (hl : L.length ≤ 900) (h1 : w.cell? ⟨tb, 0, none⟩ = some (.int .i64 (t : Int))) (h2 : w.cell? ⟨pb, 0, none⟩ = some (.pointer (some ⟨gb, 0, none⟩))) (htb : tb < base) (hpb : pb < base) (htg : tb ≠ gb) (hpg : pb ≠ gb) (ht : t ≤ 30) (hm9 : m ≤ 11) :
    Calls Try.prog 51 #[.pointer (some ⟨gb, 0, none⟩), .func (.func 52) #[] #[.pointer (some ⟨pb, 0, none⟩), .pointer (some ⟨tb, 0, none⟩)]] w fun e w' => e = .returned (.tuple #[]) ∧ RowB w' base gb m (L ++ slY m (skF t m) m) ∧ Kp base gb w w' := by
  have HC : Hid (∀ W, RowB W base gb m L → True) := fun _ _ => trivial
  have c0 := h.width
  have HCL : Hid (∀ W (x y : Nat), W.cell? ⟨gb, 1, none⟩ = some (.int .i64 (m : Int)) → Kp base gb w W → x ≤ 99 → y ≤ 99 → 1 ≤ m → Calls Try.prog 52 #[.int .i64 (x : Int), .int .i64 (y : Int), .pointer (some ⟨pb, 0, none⟩), .pointer (some ⟨tb, 0, none⟩)] W fun e w' => e = .returned (.int .i64 ((skF t m x y : Nat) : Int)) ∧ Below W.heap.size W w') := fun W x y hW hK hx hy hm1 =>
    skF_any x y t m tb pb gb W ((cell_same (hK.at' tb htb htg)).trans h1) ((cell_same (hK.at' pb hpb hpg)).trans h2) hW hx hy (by omega) hm1 (by omega)
  have HFB : Hid (∀ x y : Nat, 1 ≤ m → skF t m x y ≤ 999 → True) := fun _ _ _ _ => trivial
  have HAT : Hid (∀ W (r p : Nat), r ≤ 99 → p ≤ 99 → W.cell? ⟨gb, 1, none⟩ = some (.int .i64 (m : Int)) → Calls Try.prog 50 #[.pointer (some ⟨gb, 0, none⟩), .int .i64 (r : Int), .int .i64 (p : Int)] W fun e w' => e = .returned (.int .i64 ((r * m + p : Nat) : Int)) ∧ w' = W) := fun W r p hr hp hW => at_any r p gb m W hW hr (by omega) hp
  have HADD : Hid (∀ W (x y z : Nat) (M : List (List Nat)), RowB W base gb m M → M.length ≤ 6000 → Calls Try.prog 49 #[.pointer (some ⟨gb, 0, none⟩), .int .i64 (x : Int), .int .i64 (y : Int), .int .i64 (z : Int)] W fun e w' => e = .returned (.tuple #[]) ∧ RowB w' base gb m (M ++ [s3 [x, y, z]]) ∧ Kp base gb W w') := fun W x y z M hM hl => add_any x y z base gb 76 [.int .i64 (m : Int)] M W hM hl
  have HF9 : Hid (∀ x y : Nat, x ≤ 99 → y ≤ 99 → 1 ≤ m → skF t m x y ≤ 99) := fun x y hx hy hm1 => skF_le0 x y ht hm1 hm9
  obtain ⟨F, HF⟩ : ∃ F, Hid (skF t m = F) := ⟨_, rfl⟩
  rw [HF.out] at HCL HF9 ⊢
  have HYL : Hid (∀ y, y ≤ m → (slY m F y).length ≤ 400) := fun y hy => by have := slY_len m F y (by omega); omega
  have HXL : Hid (∀ y x, x ≤ m → (slX m F y x).length ≤ 99) := fun y x hx => by rw [slX_len]; omega
  clear h1 h2 HC HFB
  go_enter Try.func51, Try.ntmps51
  go_wp2
  go_loopw [11] (fun yv wr => ∃ (y : Nat), yv = .int .i64 (y : Int) ∧ y ≤ m ∧ RowB wr base gb m (L ++ slY m F y) ∧ Kp base gb w wr) (fun yv _ => (m - intOf yv).toNat)
  case atStart => exact ⟨0, rfl, by omega, by simpa [slY] using h, Kp.refl _ _ _⟩
  case round =>
    clear h c0
    obtain ⟨y, rfl, hy, hR, hK⟩ := hrel
    by_cases hlt : y < m
    · have hdi : decide ((y : Int) < (m : Int)) = true := by simp; omega
      have hii : (y : Int) < (m : Int) := by omega
      have HYS : Hid (slY m F (y + 1) = slY m F y ++ slX m F y y) := slY_succ m F y
      obtain ⟨Ly, HLy⟩ : ∃ Ly, Hid (L ++ slY m F y = Ly) := ⟨_, rfl⟩
      have hly : Ly.length ≤ 1300 := by rw [← HLy.out, List.length_append]; have := HYL.out y hy; omega
      rw [HLy.out] at hR
      have HRY : Hid (L ++ slY m F (y + 1) = Ly ++ slX m F y y) := by show _ = _; rw [HYS.out, ← List.append_assoc, HLy.out]
      clear HYS
      go_wp2
      go_loopw [15] (fun xv wr => ∃ (x : Nat), xv = .int .i64 (x : Int) ∧ x ≤ y ∧ RowB wr base gb m (Ly ++ slX m F y x) ∧ Kp base gb w wr) (fun xv _ => (y - intOf xv).toNat)
      case atStart => exact ⟨0, rfl, by omega, by simpa [slX] using hR, hK⟩
      case round =>
        clear hR hK
        obtain ⟨x, rfl, hx, hR, hK⟩ := hrel
        by_cases hlx : x < y
        · have hdx : decide ((x : Int) < (y : Int)) = true := by simp; omega
          have hxi : (x : Int) < (y : Int) := by omega
          have HXS : Hid (slX m F y (x + 1) = slX m F y x ++ slI m F x y 3) := slX_succ m F y x
          obtain ⟨Lx, HLx⟩ : ∃ Lx, Hid (Ly ++ slX m F y x = Lx) := ⟨_, rfl⟩
          have hlx2 : Lx.length ≤ 1400 := by rw [← HLx.out, List.length_append]; have := HXL.out y x (by omega); omega
          rw [HLx.out] at hR
          have HRX : Hid (Ly ++ slX m F y (x + 1) = Lx ++ slI m F x y 3) := by show _ = _; rw [HXS.out, ← List.append_assoc, HLx.out]
          clear HXS
          go_wp2
          go_loopw [18] (fun iv wr => ∃ (i : Nat), iv = .int .i64 (i : Int) ∧ i ≤ 3 ∧ RowB wr base gb m (Lx ++ slI m F x y i) ∧ Kp base gb w wr) (fun iv _ => (3 - intOf iv).toNat)
          case atStart => exact ⟨0, rfl, by omega, by simpa [slI] using hR, hK⟩
          case round =>
            clear hR hK
            obtain ⟨i, rfl, hi, hR, hK⟩ := hrel
            by_cases hli : i < 3
            · have hdj : decide ((i : Int) < 3) = true := by simp; omega
              have hji : (i : Int) < 3 := by omega
              have HIS : Hid (Lx ++ slI m F x y (i + 1) = (Lx ++ slI m F x y i) ++ [s3 [i * m + x, i * m + y, ((i + 1) % 3) * m + F x y]]) := by show _ = _; rw [slI_succ, ← List.append_assoc]; rfl
              have hrem : ((i : Int) + 1).tmod 3 = (((i + 1) % 3 : Nat) : Int) := by rw [Int.tmod_eq_emod_of_nonneg (by omega)]; rfl
              have hwi : IntKind.i64.wrap ((i : Int) + 1) = (i : Int) + 1 := by simp [IntKind.wrap, IntKind.bits, IntKind.signed]; omega
              have hr3 : (i + 1) % 3 < 3 := Nat.mod_lt _ (by omega)
              have hil : (Lx ++ slI m F x y i).length ≤ 6000 := by rw [List.length_append, slI_len]; omega
              obtain ⟨Li, HLi⟩ : ∃ Li, Hid (Lx ++ slI m F x y i = Li) := ⟨_, rfl⟩
              rw [HLi.out] at hR HIS hil
              have hfl := HF9.out x y (by omega) (by omega) (by omega)
              have c1 := hR.width
              have HR : Hid (RowB wr base gb m Li) := hR
              have HK : Hid (Kp base gb w wr) := hK
              have HC1 : Hid (∀ W, W.cell? ⟨gb, 1, none⟩ = some (.int .i64 (m : Int)) → Calls Try.prog 50 #[.pointer (some ⟨gb, 0, none⟩), .int .i64 (i : Int), .int .i64 (x : Int)] W fun e w' => e = .returned (.int .i64 ((i * m + x : Nat) : Int)) ∧ w' = W) := fun W hW => HAT.out W _ _ (by omega) (by omega) hW
              have HC2 : Hid (∀ W, W.cell? ⟨gb, 1, none⟩ = some (.int .i64 (m : Int)) → Calls Try.prog 50 #[.pointer (some ⟨gb, 0, none⟩), .int .i64 (i : Int), .int .i64 (y : Int)] W fun e w' => e = .returned (.int .i64 ((i * m + y : Nat) : Int)) ∧ w' = W) := fun W hW => HAT.out W _ _ (by omega) (by omega) hW
              have HC3 : Hid (∀ W, W.cell? ⟨gb, 1, none⟩ = some (.int .i64 (m : Int)) → Kp base gb w W → Calls Try.prog 52 #[.int .i64 (x : Int), .int .i64 (y : Int), .pointer (some ⟨pb, 0, none⟩), .pointer (some ⟨tb, 0, none⟩)] W fun e w' => e = .returned (.int .i64 ((F x y : Nat) : Int)) ∧ Below W.heap.size W w') := fun W h1 h2 => HCL.out W x y h1 h2 (by omega) (by omega) (by omega)
              have HC4 : Hid (∀ W, W.cell? ⟨gb, 1, none⟩ = some (.int .i64 (m : Int)) → Calls Try.prog 50 #[.pointer (some ⟨gb, 0, none⟩), .int .i64 (((i + 1) % 3 : Nat) : Int), .int .i64 (F x y : Int)] W fun e w' => e = .returned (.int .i64 ((((i + 1) % 3) * m + F x y : Nat) : Int)) ∧ w' = W) := fun W hW => HAT.out W _ _ (by omega) (by omega) hW
              have HC5 : Hid (∀ W, RowB W base gb m Li → Calls Try.prog 49 #[.pointer (some ⟨gb, 0, none⟩), .int .i64 ((i * m + x : Nat) : Int), .int .i64 ((i * m + y : Nat) : Int), .int .i64 ((((i + 1) % 3) * m + F x y : Nat) : Int)] W fun e w' => e = .returned (.tuple #[]) ∧ RowB w' base gb m (Li ++ [s3 [i * m + x, i * m + y, ((i + 1) % 3) * m + F x y]]) ∧ Kp base gb W w') := fun W hW => HADD.out W _ _ _ Li hW hil
              generalize s3 [i * m + x, i * m + y, ((i + 1) % 3) * m + F x y] = sb at *
              generalize i * m + x = a1 at *
              generalize i * m + y = a2 at *
              generalize ((i + 1) % 3) * m + F x y = a3 at *
              generalize (i + 1) % 3 = r at *
              generalize F x y = fxy at *
              clear hR hK hil HCL HAT HADD HF9 HYL HXL
              go_wp2

              refine wp_region_noPanic ?_
              refine wp_region_held_drew (S := fun _ => True) (by kernel_rfl) (trivial) (fun hSx => ?_)
              refine wpAnyH_take (i := 0) (v := .pointer (some ⟨gb, 0, none⟩)) rfl (by kernel_rfl) (by kernel_rfl) (by kernel_rfl) (fun _ _ _ h => h) (Or.inl ⟨by rfl, fun w' hSw => by (try dsimp only at hSw); have hs0 := hSw; go_simp⟩) hSx ?_
              try simp only [Act.put, List.setIfInBounds_toArray]
              refine wpAnyH_take (i := 1) (v := .pointer (some ⟨gb, 0, none⟩)) rfl (by kernel_rfl) (by kernel_rfl) (by kernel_rfl) (fun _ _ _ h => h) (Or.inl ⟨by rfl, fun w' hSw => by (try dsimp only at hSw); have hs0 := hSw; go_simp⟩) hSx ?_
              try simp only [Act.put]
              refine wpAnyH_take (i := 2) (v := .pointer (some ⟨gb, 0, none⟩)) rfl (by kernel_rfl) (by kernel_rfl) (by kernel_rfl) (fun _ _ _ h => h) (Or.inl ⟨by rfl, fun w' hSw => by (try dsimp only at hSw); have hs0 := hSw; go_simp⟩) hSx ?_
              try simp only [Act.put]
              refine wpAnyH_take (i := 3) (v := .pointer (some ⟨gb, 0, none⟩)) rfl (by kernel_rfl) (by kernel_rfl) (by kernel_rfl) (fun _ _ _ h => h) (Or.inl ⟨by rfl, fun w' hSw => by (try dsimp only at hSw); have hs0 := hSw; go_simp⟩) hSx ?_
              try simp only [Act.put]
              refine wpAnyH_take (i := 4) (v := .int .i64 (i : Int)) rfl (by kernel_rfl) (by kernel_rfl) (by kernel_rfl) (fun _ _ _ h => h) (Or.inl ⟨by rfl, fun w' hSw => by (try dsimp only at hSw); have hs0 := hSw; go_simp⟩) hSx ?_
              try simp only [Act.put]
              refine wpAnyH_take (i := 5) (v := .int .i64 (x : Int)) rfl (by kernel_rfl) (by kernel_rfl) (by kernel_rfl) (fun _ _ _ h => h) (Or.inl ⟨by rfl, fun w' hSw => by (try dsimp only at hSw); have hs0 := hSw; go_simp⟩) hSx ?_
              try simp only [Act.put]
              refine wpAnyH_take (i := 7) (v := .pointer (some ⟨gb, 0, none⟩)) rfl (by kernel_rfl) (by kernel_rfl) (by kernel_rfl) (fun _ _ _ h => h) (Or.inl ⟨by rfl, fun w' hSw => by (try dsimp only at hSw); have hs0 := hSw; go_simp⟩) hSx ?_
              try simp only [Act.put]
              refine wpAnyH_take (i := 8) (v := .int .i64 (i : Int)) rfl (by kernel_rfl) (by kernel_rfl) (by kernel_rfl) (fun _ _ _ h => h) (Or.inl ⟨by rfl, fun w' hSw => by (try dsimp only at hSw); have hs0 := hSw; go_simp⟩) hSx ?_
              try simp only [Act.put]
              refine wpAnyH_take (i := 9) (v := .int .i64 (y : Int)) rfl (by kernel_rfl) (by kernel_rfl) (by kernel_rfl) (fun _ _ _ h => h) (Or.inl ⟨by rfl, fun w' hSw => by (try dsimp only at hSw); have hs0 := hSw; go_simp⟩) hSx ?_
              try simp only [Act.put]
              refine wpAnyH_take (i := 11) (v := .pointer (some ⟨gb, 0, none⟩)) rfl (by kernel_rfl) (by kernel_rfl) (by kernel_rfl) (fun _ _ _ h => h) (Or.inl ⟨by rfl, fun w' hSw => by (try dsimp only at hSw); have hs0 := hSw; go_simp⟩) hSx ?_
              try simp only [Act.put]
              refine wpAnyH_take (i := 12) (v := .int .i64 (i : Int)) rfl (by kernel_rfl) (by kernel_rfl) (by kernel_rfl) (fun _ _ _ h => h) (Or.inl ⟨by rfl, fun w' hSw => by (try dsimp only at hSw); have hs0 := hSw; go_simp⟩) hSx ?_
              try simp only [Act.put]
              refine wpAnyH_take (i := 13) (v := .int .i64 ((i : Int) + 1)) rfl (by kernel_rfl) (by kernel_rfl) (by kernel_rfl) (fun _ _ _ h => h) (Or.inl ⟨by rfl, fun w' hSw => by (try dsimp only at hSw); have hs0 := hSw; go_simp⟩) hSx ?_
              try simp only [Act.put]
              refine wpAnyH_take (i := 14) (v := .int .i64 (r : Int)) rfl (by kernel_rfl) (by kernel_rfl) (by kernel_rfl) (fun _ _ _ h => h) (Or.inl ⟨by rfl, fun w' hSw => by (try dsimp only at hSw); have hs0 := hSw; go_simp⟩) hSx ?_
              try simp only [Act.put]
              refine wpAnyH_take (i := 15) (v := .func (.func 52) #[] #[.pointer (some ⟨pb, 0, none⟩), .pointer (some ⟨tb, 0, none⟩)]) rfl (by kernel_rfl) (by kernel_rfl) (by kernel_rfl) (fun _ _ _ h => h) (Or.inl ⟨by rfl, fun w' hSw => by (try dsimp only at hSw); have hs0 := hSw; go_simp⟩) hSx ?_
              try simp only [Act.put]
              refine wpAnyH_take (i := 16) (v := .int .i64 (x : Int)) rfl (by kernel_rfl) (by kernel_rfl) (by kernel_rfl) (fun _ _ _ h => h) (Or.inl ⟨by rfl, fun w' hSw => by (try dsimp only at hSw); have hs0 := hSw; go_simp⟩) hSx ?_
              try simp only [Act.put]
              refine wpAnyH_take (i := 17) (v := .int .i64 (y : Int)) rfl (by kernel_rfl) (by kernel_rfl) (by kernel_rfl) (fun _ _ _ h => h) (Or.inl ⟨by rfl, fun w' hSw => by (try dsimp only at hSw); have hs0 := hSw; go_simp⟩) hSx ?_
              try simp only [Act.put]
              refine wpAnyH_ready (rs := [6]) (by kernel_rfl) (by simp) ?_
              refine AllReadyH.cons rfl (fun J hJ => ?_) AllReadyH.nil
              go_simp
              refine (HC1.out wr.drew c1).mono ?_
              rintro e v1 ⟨rfl, hw⟩
              replace hw := hw.symm
              subst hw
              go_wp2_with fail
              refine hJ.out _ _ (trivial) (fun hSx => ?_)
              clear hJ J
              try simp only [Act.put, List.setIfInBounds_toArray, List.set_cons_zero, List.set_cons_succ]
              refine wpAnyH_ready (rs := [10]) (by kernel_rfl) (by simp) ?_
              refine AllReadyH.cons rfl (fun J hJ => ?_) AllReadyH.nil
              go_simp
              refine (HC2.out wr.drew c1).mono ?_
              rintro e v2 ⟨rfl, hw⟩
              replace hw := hw.symm
              subst hw
              go_wp2_with fail
              refine hJ.out _ _ (trivial) (fun hSx => ?_)
              clear hJ J
              try simp only [Act.put, List.setIfInBounds_toArray, List.set_cons_zero, List.set_cons_succ]
              refine wpAnyH_ready (rs := [18]) (by kernel_rfl) (by simp) ?_
              refine AllReadyH.cons rfl (fun J hJ => ?_) AllReadyH.nil
              go_simp
              refine (HC3.out wr.drew c1 (HK.out.trans (Kp.drew _ _ _))).mono ?_
              rintro e v3 ⟨rfl, hb3⟩
              have c3 : v3.cell? ⟨gb, 1, none⟩ = _ := (hb3.cell (World.block_lt_of_cell? _ _ c1)).trans c1
              go_wp2_with fail
              refine hJ.out _ _ (trivial) (fun hSx => ?_)
              clear hJ J
              try simp only [Act.put, List.setIfInBounds_toArray, List.set_cons_zero, List.set_cons_succ]
              refine wpAnyH_ready (rs := [19]) (by kernel_rfl) (by simp) ?_
              refine AllReadyH.cons rfl (fun J hJ => ?_) AllReadyH.nil
              go_simp
              refine (HC4.out v3 c3).mono ?_
              rintro e v4 ⟨rfl, hw⟩
              replace hw := hw.symm
              subst hw
              go_wp2_with fail
              refine hJ.out _ _ (trivial) (fun hSx => ?_)
              clear hJ J
              try simp only [Act.put, List.setIfInBounds_toArray, List.set_cons_zero, List.set_cons_succ]
              refine wpAnyH_ready (rs := [20]) (by kernel_rfl) (by simp) ?_
              refine AllReadyH.cons rfl (fun J hJ => ?_) AllReadyH.nil
              go_simp
              refine (HC5.out v3 (HR.out.drew.below hb3)).mono ?_
              rintro e v5 ⟨rfl, hL, hK5⟩
              go_wp2_with fail
              refine hJ.out _ _ (trivial) (fun hSx => ?_)
              clear hJ J
              try simp only [Act.put, List.setIfInBounds_toArray, List.set_cons_zero, List.set_cons_succ]
              refine wpAnyH_done (by kernel_rfl) ?_ _
              refine NoPanic.normal ?_
              have hKe : Kp base gb w v5 := ((HK.out.trans (Kp.drew _ _ _)).trans (Kp.of hb3 HR.out.le HR.out.le2)).trans hK5
              rw [← HIS.out] at hL
              clear hK5 HC5 HC4 HC1 HC2 HC3 HIS
              go_wp2
              go_roundw
              case rel => exact ⟨i + 1, by go_num, by omega, hL, hKe⟩
              case measure => simp [intOf]; omega
            · have hdj : decide ((i : Int) < 3) = false := by simp; omega
              obtain rfl : i = 3 := by omega
              rw [← HRX.out] at hR
              go_wp2
              go_roundw
              case rel => exact ⟨x + 1, by go_num, by omega, hR, hK⟩
              case measure => simp [intOf]; omega
        · have hdx : decide ((x : Int) < (y : Int)) = false := by simp; omega
          obtain rfl : x = y := by omega
          rw [← HRY.out] at hR
          go_wp2
          go_roundw
          case rel => exact ⟨x + 1, by go_num, by omega, hR, hK⟩
          case measure => simp [intOf]; omega
    · have hdi : decide ((y : Int) < (m : Int)) = false := by simp; omega
      obtain rfl : y = m := by omega
      go_wp2
      go_end0
      exact ⟨rfl, hR, hK⟩

end Go.Proofs.Ytdeofjmgjhfkcaa
