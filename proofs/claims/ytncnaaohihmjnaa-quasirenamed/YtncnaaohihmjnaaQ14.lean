/- The walks of the document's Renames and AlikeOf. -/
import Derived.Test.YtncnaaohihmjnaaQ12
import Derived.Test.YtncnaaohihmjnaaQ7
namespace Go.Proofs.Ytncnaaohihmjnaa
open Go.RowKit

/-- Two squares in two boxes, as they are read later. -/
theorem two_sqs (s t : Int) (u v : Value) (w : World) : ∀ W, Below ((w.alloc (.cells #[.int .i64 s, u] 24)).alloc (.cells #[.int .i64 t, v] 24)).heap.size ((w.alloc (.cells #[.int .i64 s, u] 24)).alloc (.cells #[.int .i64 t, v] 24)) W →
    W.cell? ⟨w.heap.size, 0, none⟩ = some (.int .i64 s) ∧ W.cell? ⟨w.heap.size, 1, none⟩ = some u ∧ W.cell? ⟨w.heap.size + 1, 0, none⟩ = some (.int .i64 t) ∧ W.cell? ⟨w.heap.size + 1, 1, none⟩ = some v := fun W b => by
  obtain ⟨c0, c1, _⟩ := one_box s u w W (Below.next (balloc _ _) b)
  obtain ⟨d0, d1, _⟩ := one_box t v (w.alloc (.cells #[.int .i64 s, u] 24)) W b
  rw [size_one] at d0 d1
  exact ⟨c0, c1, d0, d1⟩
set_option maxRecDepth 100000 in
set_option maxHeartbeats 16000000 in
theorem Renames_any (n : Nat) (f : Nat → Nat) (L M : List Int) (u v p : Value) (w : World) (q : Bool) (hu : Sl w u L) (hv : Sl w v M) (hp : Sl w p (pl n f)) (G1 : GoodS n L) (G2 : GoodS n M) (hf : ∀ i, i < n → f i < n) (hq : rnB n (sq n L) (sq n M) f = q) :
    Calls Try.prog 28 #[.agg #[.int .i64 (n : Int), u], .agg #[.int .i64 (n : Int), v], p] w fun e w' => e = .returned (.bool q) ∧ Below w.heap.size w w' := by
  have h8 := G1.le
  have h1 := G1.pos
  obtain ⟨w0, Hw0⟩ : ∃ w0, Hid (w0 = (w.alloc (.cells #[.int .i64 (n : Int), u] 24)).alloc (.cells #[.int .i64 (n : Int), v] 24)) := ⟨_, rfl⟩
  have HB0 : Hid (Below w.heap.size w w0) := by rw [Hw0.out]; exact two_below w _ _
  have HC : Hid (∀ W, Below w0.heap.size w0 W → W.cell? ⟨w.heap.size, 0, none⟩ = some (.int .i64 (n : Int)) ∧ W.cell? ⟨w.heap.size, 1, none⟩ = some u ∧ W.cell? ⟨w.heap.size + 1, 0, none⟩ = some (.int .i64 (n : Int)) ∧ W.cell? ⟨w.heap.size + 1, 1, none⟩ = some v) := by rw [Hw0.out]; exact two_sqs n n u v w
  have HA : Hid (∀ W, Below w0.heap.size w0 W → ∀ r c : Nat, r < n → c < n → Calls Try.prog 21 #[.agg #[.int .i64 (n : Int), u], .int .i64 (r : Int), .int .i64 (c : Int)] W fun e w' => e = .returned (.int .i64 (sq n L r c : Int)) ∧ Below W.heap.size W w') := fun W b r c hr hc => At_any n L u W (hu.below (Below.next HB0.out b)) G1 r c hr hc
  have HM : Hid (∀ W, Below w0.heap.size w0 W → ∀ r c : Nat, r < n → c < n → Calls Try.prog 21 #[.agg #[.int .i64 (n : Int), v], .int .i64 (r : Int), .int .i64 (c : Int)] W fun e w' => e = .returned (.int .i64 (sq n M r c : Int)) ∧ Below W.heap.size W w') := fun W b r c hr hc => At_any n M v W (hv.below (Below.next HB0.out b)) G2 r c hr hc
  have HLT : Hid (∀ a b, a < n → b < n → sq n L a b < n) := G1.lat.lt
  have HF : Hid (∀ i, i < n → f i < n) := hf
  have HQ : Hid (rnB n (sq n L) (sq n M) f = q) := hq
  obtain ⟨a, off, cap, rfl, ha, hcell⟩ := hp.form (pl_len n f) (by omega)
  have HP : Hid (∀ m W, m < n → Below w0.heap.size w0 W → W.cell? ⟨a, off + m, none⟩ = some (.int .i64 (f m : Int))) := fun m W hm b => by
    have := ((Below.next HB0.out b).cell (p := ⟨a, off + m, none⟩) ha).trans (hcell m hm)
    rw [pl_at f hm] at this
    exact this
  generalize sq n L = s at *
  generalize sq n M = t at *
  obtain ⟨ua, uc, rfl, _⟩ := id hu
  obtain ⟨va, vc, rfl, _⟩ := id hv
  generalize L.length = ul at *
  generalize M.length = vl at *
  obtain ⟨x0, x1, x2, x3⟩ := HC.out _ (Below.refl _ _)
  rw [Hw0.out] at x0 x1 x2 x3
  clear hu hv G1 G2 hf hq hp hcell
  go_enter Try.func28, Try.ntmps28
  go_wp2
  go_loopw [7] (fun i wr => ∃ x : Nat, i = .int .i64 (x : Int) ∧ x ≤ n ∧ Hid (∀ x' y, x' < x → y < n → t (f x') (f y) = f (s x' y)) ∧ Below w0.heap.size w0 wr) (fun i _ => (n - intOf i).toNat)
  case atStart => exact ⟨0, rfl, by omega, (show ∀ x' y, x' < 0 → _ from fun x' y h => by omega), by rw [Hw0.out]; exact Below.refl _ _⟩
  case round =>
    clear x0 x1 x2 x3
    obtain ⟨x, rfl, hx, HR, hB⟩ := hrel
    obtain ⟨x0, x1, x2, x3⟩ := HC.out _ hB
    by_cases hlt : x < n
    · have hdx : decide ((x : Int) < (n : Int)) = true := by simp; omega
      go_wp2
      go_loopw [8] (fun j wr => ∃ y : Nat, j = .int .i64 (y : Int) ∧ y ≤ n ∧ Hid (∀ y', y' < y → t (f x) (f y') = f (s x y')) ∧ Below w0.heap.size w0 wr) (fun j _ => (n - intOf j).toNat)
      case atStart => exact ⟨0, rfl, by omega, (show ∀ y, y < 0 → _ from fun y h => by omega), hB⟩
      case round =>
        clear x0 x1 x2 x3 hB
        obtain ⟨y, rfl, hy, HY, hB⟩ := hrel
        obtain ⟨x0, x1, x2, x3⟩ := HC.out _ hB
        by_cases hly : y < n
        · have hdy : decide ((y : Int) < (n : Int)) = true := by simp; omega
          have C1 := HA.out _ hB x y hlt hly
          have C2 := fun W (b : Below w0.heap.size w0 W) => HM.out W b (f x) (f y) (HF.out x hlt) (HF.out y hly)
          obtain ⟨z, Hz⟩ : ∃ z, Hid (s x y = z) := ⟨_, rfl⟩
          have hzl : z < n := by rw [← Hz.out]; exact HLT.out x y hlt hly
          rw [Hz.out] at C1
          have hxi : (x : Int) < (n : Int) := by omega
          have hyi : (y : Int) < (n : Int) := by omega
          have hzi : (z : Int) < (n : Int) := by omega
          have HFT : Hid (((t (f x) (f y) : Nat) : Int) = ((f z : Nat) : Int) → ∀ y', y' < y + 1 → t (f x) (f y') = f (s x y')) := fun e y' hy' => by
            by_cases k : y' = y
            · subst k; rw [Hz.out]; omega
            · exact HY.out y' (by omega)
          have HFF : Hid (((t (f x) (f y) : Nat) : Int) ≠ ((f z : Nat) : Int) → q = false) := fun e => by
            cases q with
            | false => rfl
            | true => exact (e (by rw [rn_iff.1 HQ.out x y hlt hly, Hz.out])).elim
          obtain ⟨X, HX⟩ : ∃ X : Int, Hid (((t (f x) (f y) : Nat) : Int) = X) := ⟨_, rfl⟩
          obtain ⟨A, HAA⟩ : ∃ X : Int, Hid (((f x : Nat) : Int) = X) := ⟨_, rfl⟩
          obtain ⟨B, HBB⟩ : ∃ X : Int, Hid (((f y : Nat) : Int) = X) := ⟨_, rfl⟩
          obtain ⟨D, HDD⟩ : ∃ X : Int, Hid (((f z : Nat) : Int) = X) := ⟨_, rfl⟩
          rw [HX.out] at C2 HFT HFF
          rw [HAA.out, HBB.out] at C2
          rw [HDD.out] at HFT HFF
          have HPX : Hid (∀ W, Below w0.heap.size w0 W → W.cell? ⟨a, off + x, none⟩ = some (.int .i64 A) ∧ W.cell? ⟨a, off + y, none⟩ = some (.int .i64 B) ∧ W.cell? ⟨a, off + z, none⟩ = some (.int .i64 D)) := fun W b => by
            rw [← HAA.out, ← HBB.out, ← HDD.out]
            exact ⟨HP.out x W hlt b, HP.out y W hly b, HP.out z W hzl b⟩
          clear HY
          go_wp2_with (go_at_call 21; refine C1.mono ?_; rintro e wc ⟨rfl, c1⟩; have hB1 := Below.next hB c1; clear C1)
          have HS : Hid (∀ w', Below wc.heap.size wc w' → w'.cell? ⟨a, off + x, none⟩ = some (.int .i64 A) ∧ w'.cell? ⟨a, off + y, none⟩ = some (.int .i64 B) ∧ w'.rangeAt (w.heap.size + 1) 0 [.int .i64 (n : Int), .slice va vl vc]) := fun w' b' => by
            obtain ⟨p1, p2, p3⟩ := HPX.out _ (Below.next hB1 b')
            obtain ⟨_, _, r2, r3⟩ := HC.out _ (Below.next hB1 b')
            exact ⟨p1, p2, range_two _ _ _ _ r2 r3⟩
          refine wp_region_noPanic ?_
          refine wp_region_held_drew (S := fun w' => w'.cell? ⟨a, off + x, none⟩ = some (.int .i64 A) ∧ w'.cell? ⟨a, off + y, none⟩ = some (.int .i64 B) ∧ w'.rangeAt (w.heap.size + 1) 0 [.int .i64 (n : Int), .slice va vl vc]) (by kernel_rfl) (HS.out _ (Below.refl _ wc).drew) (fun hSx => ?_)
          have d0 : Below wc.heap.size wc wc.drew := (Below.refl _ wc).drew
          refine wpAnyH_take (i := 0) (v := .agg #[.int .i64 (n : Int), .slice va vl vc]) rfl (by kernel_rfl) (by kernel_rfl) (by kernel_rfl) (fun _ _ _ h => h) (yieldsIf_load_mid (by rfl) 24 _ rfl (w.heap.size + 1) 0 rfl [.int .i64 (n : Int), .slice va vl vc] _ (fun _ h => h.2.2) Try.underlying24 rfl inf24) hSx ?_
          try simp only [Act.put, List.setIfInBounds_toArray]
          refine wpAnyH_take (i := 1) (v := .slice (some ⟨a, off, none⟩) n cap) rfl (by kernel_rfl) (by kernel_rfl) (by kernel_rfl) (fun _ _ _ h => h) (Or.inl ⟨by rfl, fun w' hSw => by (try dsimp only at hSw); obtain ⟨hs0, hs1, hs2⟩ := hSw; go_simp⟩) hSx ?_
          try simp only [Act.put]
          refine wpAnyH_take (i := 2) (v := .int .i64 (x : Int)) rfl (by kernel_rfl) (by kernel_rfl) (by kernel_rfl) (fun _ _ _ h => h) (Or.inl ⟨by rfl, fun w' hSw => by (try dsimp only at hSw); obtain ⟨hs0, hs1, hs2⟩ := hSw; go_simp⟩) hSx ?_
          try simp only [Act.put]
          refine wpAnyH_take (i := 3) (v := .pointer (some ⟨a, off + x, none⟩)) rfl (by kernel_rfl) (by kernel_rfl) (by kernel_rfl) (fun _ _ _ h => h) (Or.inl ⟨by rfl, fun w' hSw => by (try dsimp only at hSw); obtain ⟨hs0, hs1, hs2⟩ := hSw; go_simp⟩) hSx ?_
          try simp only [Act.put]
          refine wpAnyH_take (i := 4) (v := .int .i64 A) rfl (by kernel_rfl) (by kernel_rfl) (by kernel_rfl) (fun _ _ _ h => h) (Or.inl ⟨by rfl, fun w' hSw => by (try dsimp only at hSw); obtain ⟨hs0, hs1, hs2⟩ := hSw; go_simp⟩) hSx ?_
          try simp only [Act.put]
          refine wpAnyH_take (i := 5) (v := .slice (some ⟨a, off, none⟩) n cap) rfl (by kernel_rfl) (by kernel_rfl) (by kernel_rfl) (fun _ _ _ h => h) (Or.inl ⟨by rfl, fun w' hSw => by (try dsimp only at hSw); obtain ⟨hs0, hs1, hs2⟩ := hSw; go_simp⟩) hSx ?_
          try simp only [Act.put]
          refine wpAnyH_take (i := 6) (v := .int .i64 (y : Int)) rfl (by kernel_rfl) (by kernel_rfl) (by kernel_rfl) (fun _ _ _ h => h) (Or.inl ⟨by rfl, fun w' hSw => by (try dsimp only at hSw); obtain ⟨hs0, hs1, hs2⟩ := hSw; go_simp⟩) hSx ?_
          try simp only [Act.put]
          refine wpAnyH_take (i := 7) (v := .pointer (some ⟨a, off + y, none⟩)) rfl (by kernel_rfl) (by kernel_rfl) (by kernel_rfl) (fun _ _ _ h => h) (Or.inl ⟨by rfl, fun w' hSw => by (try dsimp only at hSw); obtain ⟨hs0, hs1, hs2⟩ := hSw; go_simp⟩) hSx ?_
          try simp only [Act.put]
          refine wpAnyH_take (i := 8) (v := .int .i64 B) rfl (by kernel_rfl) (by kernel_rfl) (by kernel_rfl) (fun _ _ _ h => h) (Or.inl ⟨by rfl, fun w' hSw => by (try dsimp only at hSw); obtain ⟨hs0, hs1, hs2⟩ := hSw; go_simp⟩) hSx ?_
          try simp only [Act.put]
          refine wpAnyH_ready (rs := [9]) (by kernel_rfl) (by simp) ?_
          refine AllReadyH.cons rfl (fun J hJ => ?_) AllReadyH.nil
          go_simp
          refine (C2 _ (Below.next hB1 d0)).mono ?_
          rintro e w1 ⟨rfl, b1⟩
          have d1 := Below.next d0 b1
          go_wp2_with fail
          refine hJ.out _ _ (HS.out _ d1) (fun hSx => ?_)
          clear hJ J
          try simp only [Act.put, List.setIfInBounds_toArray, List.set_cons_zero, List.set_cons_succ]
          refine wpAnyH_take (i := 10) (v := .int .i64 X) rfl (by kernel_rfl) (by kernel_rfl) (by kernel_rfl) (fun _ _ _ h => h) (Or.inl ⟨by rfl, fun w' hSw => by (try dsimp only at hSw); obtain ⟨hs0, hs1, hs2⟩ := hSw; go_simp⟩) hSx ?_
          try simp only [Act.put, List.setIfInBounds_toArray]
          refine wpAnyH_done (by kernel_rfl) ?_ _
          refine NoPanic.normal ?_
          go_simp
          have hBB := Below.next hB1 d1
          obtain ⟨_, _, p3⟩ := HPX.out _ hBB
          by_cases he : X = D
          · have hne : (X != D) = false := by simp [he]
            have HR2 := HFT.out he
            have HR3 : Hid (∀ y', y' < y + 1 → t (f x) (f y') = f (s x y')) := HR2
            clear he HR2 HFT HFF
            go_wp2
            go_roundw
            case rel => exact ⟨y + 1, by go_num, by omega, HR3, hBB⟩
            case measure => simp [intOf]; omega
          · have hne : (X != D) = true := bne_iff_ne.2 he
            obtain rfl : q = false := HFF.out he
            clear he HFT HFF
            go_wp2
            go_ret
            exact ⟨rfl, Below.next HB0.out hBB⟩
        · have hdy : decide ((y : Int) < (n : Int)) = false := by simp; omega
          obtain rfl : y = n := by omega
          have HR2 : Hid (∀ x' y', x' < x + 1 → y' < y → t (f x') (f y') = f (s x' y')) := fun x' y' hx' hy' => by
            by_cases e : x' = x
            · subst e; exact HY.out y' hy'
            · exact HR.out x' y' (by omega) hy'
          go_wp2
          go_roundw
          case rel => exact ⟨x + 1, by go_num, by omega, HR2, hB⟩
          case measure => simp [intOf]; omega
    · have hdx : decide ((x : Int) < (n : Int)) = false := by simp; omega
      obtain rfl : x = n := by omega
      obtain rfl : q = true := by rw [← HQ.out]; exact rn_iff.2 fun x' y hx' hy => HR.out x' y hx' hy
      go_wp2
      go_ret
      exact ⟨rfl, Below.next HB0.out hB⟩
end Go.Proofs.Ytncnaaohihmjnaa
