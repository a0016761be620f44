/- The walk of the document's SpectrumOf. -/
import Derived.Test.YtioggiapkkeloaaDoorCB2
namespace Go.Proofs.YtioggiapkkeloaaDoor
open Go.RowKit

/-- The sum on its way. -/
def spS (l : List Int) (a k : Nat) : Int := sm k fun x => sg2 (wt (a &&& x)) * tg (tf l) x
theorem spS_full {n a : Nat} (l : List Int) (hn : n ≤ 8) (ha : a < 2 ^ n) : spS l a (2 ^ n) = spF n l a := (spF_sum l hn ha).symm
theorem spS_succ (l : List Int) (a k : Nat) : spS l a (k + 1) = spS l a k + sg2 (wt (a &&& k)) * tg (tf l) k := rfl
theorem sp_term {t : Int} {g : Nat} (ht : t = 0 ∨ t = 1) : sg2 g * (1 - 2 * t) = if ((g : Int) + t) % 2 = 0 then 1 else -1 := by
  unfold sg2
  rcases ht with rfl | rfl <;> rcases Nat.mod_two_eq_zero_or_one g with h | h
  · rw [if_pos h, if_pos (by omega)]; rfl
  · rw [if_neg (by omega), if_neg (by omega)]; rfl
  · rw [if_pos h, if_neg (by omega)]; rfl
  · rw [if_neg (by omega), if_pos (by omega)]; rfl
set_option maxRecDepth 100000 in
set_option maxHeartbeats 8000000 in
theorem SpectrumOf_any (n : Nat) (l : List Int) (v : Value) (w : World) (hv : Sl w v l) (G : GoodT n l) :
    Calls Tryd.prog 17 #[v] w fun e w' => (∃ y, e = .returned y ∧ w'.ownsRow w.heap.size 3 1 y (2 ^ n) (vi (spL n l))) ∧ Below w.heap.size w w' := by
  obtain ⟨i3, hi3, hz0, hz1, hz2⟩ := info3
  obtain ⟨p1, p2⟩ := pow256 G.le
  have hlen := G.len
  have HF : Hid (∀ u, u < 2 ^ n → spS l u (2 ^ n) = spF n l u) := fun u hu => spS_full l G.le hu
  have HB : Hid (∀ x, x < 2 ^ n → tf l x = 0 ∨ tf l x = 1) := G.bit
  obtain ⟨f, Hf⟩ : ∃ f, Hid (spF n l = f) := ⟨_, rfl⟩
  have HA : Hid (spL n l = (List.range (2 ^ n)).map f) := by show _ = _; unfold spL; rw [Hf.out]
  rw [HA.out]
  rw [Hf.out] at HF
  obtain ⟨z, Hz⟩ : ∃ z : Nat, Hid (2 ^ n = z) := ⟨_, rfl⟩
  rw [Hz.out] at p1 p2 hlen HF HB ⊢
  obtain ⟨b, off, cap, rfl, hb, hcell⟩ := hv.form hlen p1
  have HC : Hid (∀ j, j < z → w.cell? ⟨b, off + j, none⟩ = some (.int .i64 (tf l j))) := hcell
  have HW : Hid (∀ a x W, a < z → x < z → Calls Tryd.prog 32 #[.int .i64 ((a &&& x : Nat) : Int)] W fun e w' => e = .returned (.int .i64 (wt (a &&& x) : Int)) ∧ w' = W) := fun a x W ha hx => Weight_any (a &&& x) W (by have : a &&& x ≤ a := Nat.and_le_left; omega)
  clear hv hcell G hlen HA
  go_enter Tryd.func17, Tryd.ntmps17
  go_wp2
  go_loopw [3, 4] (fun ov uv wr => ∃ (u : Nat), uv = .int .i64 (u : Int) ∧ u ≤ z ∧ wr.ownsRow w.heap.size 3 1 ov u (vi ((List.range u).map f)) ∧ Below w.heap.size w wr) (fun _ uv _ => (z - intOf uv).toNat)
  case atStart => exact ⟨0, rfl, by omega, World.ownsRow_nil _ _ _ _, Below.refl _ _⟩
  case round =>
    obtain ⟨u, rfl, hu, hW, hB⟩ := hrel
    by_cases hlt : u < z
    · have hdu : decide ((u : Int) < (z : Int)) = true := by simp; omega
      obtain ⟨w1, hw1⟩ : ∃ w1 : World, w1 = wr := ⟨_, rfl⟩
      subst hw1
      go_wp2
      go_loopw [5, 6] (fun sv xv wr => ∃ (x : Nat) (X : Int), xv = .int .i64 (x : Int) ∧ x ≤ z ∧ sv = .int .i64 X ∧ Hid (spS l u x = X) ∧ -(x : Int) ≤ X ∧ X ≤ x ∧ wr = w1) (fun _ xv _ => (z - intOf xv).toNat)
      case atStart => exact ⟨0, 0, rfl, by omega, rfl, (rfl : spS l u 0 = 0), by omega, by omega, rfl⟩
      case round =>
        obtain ⟨x, X, rfl, hx, rfl, HX, hX0, hX1, hw⟩ := hrel
        replace hw := hw.symm
        subst hw
        by_cases hlx : x < z
        · have hdx : decide ((x : Int) < (z : Int)) = true := by simp; omega
          have hand := andS (a := u) (b := x) (by omega) (by omega)
          have hxz : (x : Int) < (z : Int) := by omega
          have cx := (hB.cell (p := ⟨b, off + x, none⟩) hb).trans (HC.out x hlx)
          have hbt := HB.out x hlx
          have C := HW.out u x w1 hlt hlx
          have hs := spS_succ l u x
          have hg8 := wt_le (u &&& x)
          rw [HX.out] at hs
          obtain ⟨q, Hq⟩ : ∃ q, Hid (u &&& x = q) := ⟨_, rfl⟩
          rw [Hq.out] at hand C hs hg8
          obtain ⟨g, Hg⟩ : ∃ g, Hid (wt q = g) := ⟨_, rfl⟩
          rw [Hg.out] at C hs hg8
          obtain ⟨y, Hy⟩ : ∃ y, Hid (tf l x = y) := ⟨_, rfl⟩
          have htg : tg (tf l) x = 1 - 2 * y := by unfold tg; rw [Hy.out]
          rw [Hy.out] at cx hbt
          rw [htg, sp_term hbt] at hs
          have HS : Hid (spS l u (x + 1) = X + if ((g : Int) + y) % 2 = 0 then 1 else -1) := hs
          have hb2 : 0 ≤ y ∧ y ≤ 1 := by omega
          obtain ⟨hb3, hb4⟩ := hb2
          obtain ⟨gy, hgy⟩ : ∃ q, (g : Int) + y = q := ⟨_, rfl⟩
          rw [hgy] at HS
          obtain ⟨r, Hr⟩ : ∃ r, Hid (gy % 2 = r) := ⟨_, rfl⟩
          have r1 : gy % 2 = r := Hr.out
          have r2 : gy.tmod 2 = r := by rw [Int.tmod_eq_emod_of_nonneg (by omega)]; exact r1
          have g1 : 0 ≤ gy := by omega
          have g2 : gy ≤ 9 := by omega
          have hr0 : 0 ≤ r := by omega
          have hr1 : r ≤ 1 := by omega
          rw [r1] at HS
          clear hs hbt htg HX
          by_cases e : r = 0
          · have eq : (r == 0) = true := by simp [e]
            have HS2 : Hid (spS l u (x + 1) = X + 1) := by show _ = _; rw [HS.out, if_pos e]
            clear e HS
            go_wp2_with (go_at_call 32; refine C.mono ?_; rintro e w2 ⟨rfl, hw⟩; replace hw := hw.symm; subst hw; clear C)
            go_roundw
            case rel => exact ⟨x + 1, X + 1, by go_num, by omega, by go_num, HS2, by omega, by omega, trivial⟩
            case measure => simp [intOf]; omega
          · have eq : (r == 0) = false := by simp [e]
            have HS2 : Hid (spS l u (x + 1) = X - 1) := by show _ = _; rw [HS.out, if_neg e]; omega
            clear e HS
            go_wp2_with (go_at_call 32; refine C.mono ?_; rintro e w2 ⟨rfl, hw⟩; replace hw := hw.symm; subst hw; clear C)
            go_roundw
            case rel => exact ⟨x + 1, X - 1, by go_num, by omega, by go_num, HS2, by omega, by omega, trivial⟩
            case measure => simp [intOf]; omega
        · have hdx : decide ((x : Int) < (z : Int)) = false := by simp; omega
          have hf : X = f u := by rw [← HF.out u hlt, ← HX.out, show x = z by omega]
          have HVS : Hid (vi ((List.range (u + 1)).map f) = vi ((List.range u).map f) ++ [.int .i64 X]) := by show _ = _; rw [vi_snoc, ← hf]
          obtain ⟨oa, oc, rfl⟩ := own_slice hW
          obtain ⟨fl, Hfl⟩ : ∃ fl, Hid (vi ((List.range u).map f) = fl) := ⟨_, rfl⟩
          rw [Hfl.out] at hW HVS
          have hsz := hB.size
          clear hf HX
          go_wp2_with (first
            | (at_builtin; refine wpList_append_own _ rfl _ _ 22 rfl w.heap.size 3 i3 (.int .i64 0) 1 8 und22 hi3 hz0 hz1 hz2 rfl (by decide) _ u fl rfl (hW.alloc _) ⟨w1.heap.size, 0, none⟩ 1 1 [.int .i64 X] rfl rfl ?c1 ?c2 ?c3 ?c4 ?c5 ?_)
            | go_in)
          case c1 =>
            intro j u hj
            match j, hj with
            | 0, hj => simp at hj; subst hj; simp [Addr.add]
          case c2 => intro u hu; simp at hu; subst hu; rfl
          case c3 => unfold maxLen; omega
          case c4 => omega
          case c5 => simp; omega
          intro v' w2 hown' hgrow _
          have hB2 : Below w.heap.size w w2 := (hB.alloc (by omega) (.cells #[.int .i64 X] 3)).grown hgrow (by simp; omega) (fun k hk => (hW.lt k hk).1)
          rw [← HVS.out] at hown'
          go_wp2
          go_roundw
          case rel => exact ⟨u + 1, by go_num, by omega, hown', hB2⟩
          case measure => simp [intOf]; omega
    · have hdu : decide ((u : Int) < (z : Int)) = false := by simp; omega
      obtain rfl : u = z := by omega
      go_wp2
      go_ret
      exact ⟨⟨_, rfl, hW⟩, hB⟩
end Go.Proofs.YtioggiapkkeloaaDoor
