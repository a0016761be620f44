/- The walk of the document's FarOf. -/
import Derived.Test.YtioggiapkkeloaaDoorCB3
namespace Go.Proofs.YtioggiapkkeloaaDoor
open Go.RowKit

/-- From how many the sum is unlike, of those below k. -/
def cnS (l : List Int) (a : Nat) : Nat → Nat
  | 0 => 0
  | k + 1 => cnS l a k + if ((wt (a &&& k) % 2 : Nat) : Int) ≠ tf l k then 1 else 0
theorem cnS_le (l : List Int) (a : Nat) : ∀ k, cnS l a k ≤ k
  | 0 => Nat.le_refl _
  | k + 1 => by
    have := cnS_le l a k
    rw [cnS]; split <;> omega
theorem cnS_sp {l : List Int} {a : Nat} : ∀ {k : Nat}, (∀ x, x < k → tf l x = 0 ∨ tf l x = 1) → spS l a k = k - 2 * (cnS l a k : Int)
  | 0, _ => by simp [spS, sm, cnS]
  | k + 1, h => by
    rw [spS_succ, cnS_sp fun x hx => h x (by omega), cnS]
    have ht := h k (by omega)
    have e : tg (tf l) k = 1 - 2 * tf l k := rfl
    rw [e, sp_term ht]
    rcases ht with e | e <;> rw [e] <;> rcases Nat.mod_two_eq_zero_or_one (wt (a &&& k)) with g | g <;> rw [g]
    · rw [if_pos (by omega), if_neg (by simp)]; omega
    · rw [if_neg (by omega), if_pos (by simp)]; omega
    · rw [if_neg (by omega), if_pos (by simp)]; omega
    · rw [if_pos (by omega), if_neg (by simp)]; omega
/-- What was found so far. -/
def BsI (N : Nat) (c : Nat → Nat) (a b : Nat) : Prop := b ≤ N ∧ (∀ x, x < a → b ≤ c x ∧ b + c x ≤ N) ∧ (b = N ∨ ∃ x, x < a ∧ (b = c x ∨ b + c x = N))
theorem BsI.start (N : Nat) (c : Nat → Nat) : BsI N c 0 N := ⟨Nat.le_refl _, fun x h => by omega, .inl rfl⟩
theorem min_one {c b b1 : Nat} (e1 : b1 = if c < b then c else b) : b1 ≤ b ∧ b1 ≤ c ∧ (b1 = b ∨ b1 = c) := by
  by_cases x : c < b
  · rw [if_pos x] at e1; omega
  · rw [if_neg x] at e1; omega
theorem min_two {N c b1 b2 : Nat} (hc : c ≤ N) (e2 : b2 = if N - c < b1 then N - c else b1) : b2 ≤ b1 ∧ b2 + c ≤ N ∧ (b2 = b1 ∨ b2 + c = N) := by
  by_cases x : N - c < b1
  · rw [if_pos x] at e2; omega
  · rw [if_neg x] at e2; omega
theorem BsI.step {N a b : Nat} {c : Nat → Nat} (h : BsI N c a b) (hc : c a ≤ N) (b1 b2 : Nat) (e1 : b1 = if c a < b then c a else b) (e2 : b2 = if N - c a < b1 then N - c a else b1) : BsI N c (a + 1) b2 := by
  obtain ⟨h1, h2, h3⟩ := h
  obtain ⟨k1, k2, k3⟩ := min_one e1
  obtain ⟨l1, l2, l3⟩ := min_two hc e2
  clear e1 e2
  refine ⟨by omega, fun x hx => ?_, ?_⟩
  · by_cases e : x = a
    · subst e; omega
    · have := h2 x (by omega); omega
  · rcases l3 with e | e
    · rcases k3 with f | f
      · rcases h3 with g | ⟨x, hx, g⟩
        · exact .inl (by omega)
        · exact .inr ⟨x, by omega, by omega⟩
      · exact .inr ⟨a, by omega, .inl (by omega)⟩
    · exact .inr ⟨a, by omega, .inr (by omega)⟩
theorem BsI.far {N b : Nat} {c : Nat → Nat} {S : Nat → Int} (h : BsI N c N b) (hN : 1 ≤ N) (hS : ∀ a, a < N → S a = N - 2 * (c a : Int)) : FarIs N S b := by
  obtain ⟨h1, h2, h3⟩ := h
  refine ⟨fun a ha => ?_, ?_⟩
  · have := h2 a ha
    rw [hS a ha]; omega
  · rcases h3 with e | ⟨x, hx, e⟩
    · have := h2 0 (by omega)
      omega
    · refine ⟨x, hx, ?_⟩
      rw [hS x hx]
      rcases e with e | e
      · exact .inl (by omega)
      · exact .inr (by omega)
set_option maxRecDepth 100000 in
set_option maxHeartbeats 8000000 in
theorem FarOf_any (n : Nat) (l : List Int) (v : Value) (w : World) (hv : Sl w v l) (G : GoodT n l) :
    Calls Tryd.prog 22 #[v] w fun e w' => (∃ f : Nat, e = .returned (.int .i64 (f : Int)) ∧ FarIs (2 ^ n) (spF n l) f) ∧ w' = w := by
  obtain ⟨p1, p2⟩ := pow256 G.le
  have hlen := G.len
  have HB : Hid (∀ x, x < 2 ^ n → tf l x = 0 ∨ tf l x = 1) := G.bit
  have HE : Hid (∀ b, BsI (2 ^ n) (fun a => cnS l a (2 ^ n)) (2 ^ n) b → FarIs (2 ^ n) (spF n l) b) := fun b h => h.far p1 fun a ha => by
    rw [← spS_full l G.le ha, cnS_sp G.bit]
  generalize spF n l = S at *
  obtain ⟨z, Hz⟩ : ∃ z : Nat, Hid (2 ^ n = z) := ⟨_, rfl⟩
  rw [Hz.out] at p1 p2 hlen HB HE ⊢
  obtain ⟨b, off, cap, rfl, hb, hcell⟩ := hv.form hlen p1
  have HC : Hid (∀ j, j < z → w.cell? ⟨b, off + j, none⟩ = some (.int .i64 (tf l j))) := hcell
  have HW : Hid (∀ a x W, a < z → x < z → Calls Tryd.prog 32 #[.int .i64 ((a &&& x : Nat) : Int)] W fun e w' => e = .returned (.int .i64 (wt (a &&& x) : Int)) ∧ w' = W) := fun a x W ha hx => Weight_any (a &&& x) W (by have : a &&& x ≤ a := Nat.and_le_left; omega)
  clear hv hcell G hlen
  go_enter Tryd.func22, Tryd.ntmps22
  go_wp2
  go_loopw [3, 4] (fun mv uv wr => ∃ (u m : Nat), uv = .int .i64 (u : Int) ∧ u ≤ z ∧ mv = .int .i64 (m : Int) ∧ m ≤ z ∧ Hid (BsI z (fun a => cnS l a z) u m) ∧ wr = w) (fun _ uv _ => (z - intOf uv).toNat)
  case atStart => exact ⟨0, z, rfl, by omega, rfl, by omega, BsI.start _ _, rfl⟩
  case round =>
    obtain ⟨u, m, rfl, hu, rfl, hm, HI, hw⟩ := hrel
    replace hw := hw.symm
    subst hw
    by_cases hlt : u < z
    · have hdu : decide ((u : Int) < (z : Int)) = true := by simp; omega
      go_wp2
      go_loopw [5, 6] (fun sv xv wr => ∃ (x X : Nat), xv = .int .i64 (x : Int) ∧ x ≤ z ∧ sv = .int .i64 (X : Int) ∧ Hid (cnS l u x = X) ∧ X ≤ x ∧ wr = w) (fun _ xv _ => (z - intOf xv).toNat)
      case atStart => exact ⟨0, 0, rfl, by omega, rfl, (rfl : cnS l u 0 = 0), by omega, rfl⟩
      case round =>
        obtain ⟨x, X, rfl, hx, rfl, HX, hX1, hw⟩ := hrel
        replace hw := hw.symm
        subst hw
        by_cases hlx : x < z
        · have hdx : decide ((x : Int) < (z : Int)) = true := by simp; omega
          have hand := andS (a := u) (b := x) (by omega) (by omega)
          have hxz : (x : Int) < (z : Int) := by omega
          have cx := HC.out x hlx
          have hbt := HB.out x hlx
          have C := HW.out u x w hlt hlx
          have hs : cnS l u (x + 1) = cnS l u x + if ((wt (u &&& x) % 2 : Nat) : Int) ≠ tf l x then 1 else 0 := rfl
          have hg8 := wt_le (u &&& x)
          rw [HX.out] at hs
          obtain ⟨q, Hq⟩ : ∃ q, Hid (u &&& x = q) := ⟨_, rfl⟩
          rw [Hq.out] at hand C hs hg8
          obtain ⟨g, Hg⟩ : ∃ g, Hid (wt q = g) := ⟨_, rfl⟩
          rw [Hg.out] at C hs hg8
          obtain ⟨y, Hy⟩ : ∃ y, Hid (tf l x = y) := ⟨_, rfl⟩
          rw [Hy.out] at cx hbt hs
          obtain ⟨r, Hr⟩ : ∃ r, Hid (g % 2 = r) := ⟨_, rfl⟩
          have r1 : (g : Int) % 2 = (r : Int) := by rw [← Hr.out]; simp
          have r2 : (g : Int).tmod 2 = (r : Int) := by rw [Int.tmod_eq_emod_of_nonneg (by omega)]; exact r1
          rw [Hr.out] at hs
          have hr9 : r ≤ 1 := by rw [← Hr.out]; omega
          have HS : Hid (cnS l u (x + 1) = X + if ((r : Nat) : Int) ≠ y then 1 else 0) := hs
          clear hs hbt HX
          by_cases e : (r : Int) = y
          · have eq : ((r : Int) != y) = false := by simp [e]
            have HS2 : Hid (cnS l u (x + 1) = X) := by show _ = _; rw [HS.out, if_neg (fun k => k e), Nat.add_zero]
            clear e HS
            go_wp2_with (go_at_call 32; refine C.mono ?_; rintro e w2 ⟨rfl, hw⟩; replace hw := hw.symm; subst hw; clear C)
            go_roundw
            case rel => exact ⟨x + 1, X, by go_num, by omega, by go_num, HS2, by omega, trivial⟩
            case measure => simp [intOf]; omega
          · have eq : ((r : Int) != y) = true := by simp [e]
            have HS2 : Hid (cnS l u (x + 1) = X + 1) := by show _ = _; rw [HS.out, if_pos e]
            clear e HS
            go_wp2_with (go_at_call 32; refine C.mono ?_; rintro e w2 ⟨rfl, hw⟩; replace hw := hw.symm; subst hw; clear C)
            go_roundw
            case rel => exact ⟨x + 1, X + 1, by go_num, by omega, by go_num, HS2, by omega, trivial⟩
            case measure => simp [intOf]; omega
        · have hdx : decide ((x : Int) < (z : Int)) = false := by simp; omega
          have hXz : X ≤ z := by omega
          have hc : cnS l u z = X := by rw [← HX.out, show x = z by omega]
          have hsub : (z : Int) - (X : Int) = ((z - X : Nat) : Int) := by omega
          obtain ⟨d, Hd⟩ : ∃ d, Hid (z - X = d) := ⟨_, rfl⟩
          rw [Hd.out] at hsub
          have HST : Hid (∀ b1 b2 : Nat, b1 = (if X < m then X else m) → b2 = (if d < b1 then d else b1) → BsI z (fun a => cnS l a z) (u + 1) b2) := fun b1 b2 e1 e2 => HI.out.step (by show cnS l u z ≤ z; omega) b1 b2 (by show b1 = if cnS l u z < m then cnS l u z else m; rw [hc]; exact e1) (by show b2 = if z - cnS l u z < b1 then z - cnS l u z else b1; rw [hc, Hd.out]; exact e2)
          have hdz : d ≤ z := by rw [← Hd.out]; omega
          clear hc HX HI
          by_cases c1 : X < m
          · have dc : decide ((X : Int) < (m : Int)) = true := by simp; omega
            have dc' : decide (X < m) = true := by simp; omega
            by_cases c2 : d < X
            · have dd : decide ((d : Int) < (X : Int)) = true := by simp; omega
              have dd' : decide (d < X) = true := by simp; omega
              have HI2 := HST.out X d (by rw [if_pos c1]) (by rw [if_pos c2])
              have HI3 : Hid _ := HI2
              clear HI2 HST c1 c2
              go_wp2
              go_roundw
              case rel => exact ⟨u + 1, d, by go_num, by omega, by go_num, hdz, HI3, trivial⟩
              case measure => simp [intOf]; omega
            · have dd : decide ((d : Int) < (X : Int)) = false := by simp; omega
              have dd' : decide (d < X) = false := by simp; omega
              have HI2 := HST.out X X (by rw [if_pos c1]) (by rw [if_neg c2])
              have HI3 : Hid _ := HI2
              clear HI2 HST c1 c2
              go_wp2
              go_roundw
              case rel => exact ⟨u + 1, X, by go_num, by omega, by go_num, hXz, HI3, trivial⟩
              case measure => simp [intOf]; omega
          · have dc : decide ((X : Int) < (m : Int)) = false := by simp; omega
            have dc' : decide (X < m) = false := by simp; omega
            by_cases c2 : d < m
            · have dd : decide ((d : Int) < (m : Int)) = true := by simp; omega
              have dd' : decide (d < m) = true := by simp; omega
              have HI2 := HST.out m d (by rw [if_neg c1]) (by rw [if_pos c2])
              have HI3 : Hid _ := HI2
              clear HI2 HST c1 c2
              go_wp2
              go_roundw
              case rel => exact ⟨u + 1, d, by go_num, by omega, by go_num, hdz, HI3, trivial⟩
              case measure => simp [intOf]; omega
            · have dd : decide ((d : Int) < (m : Int)) = false := by simp; omega
              have dd' : decide (d < m) = false := by simp; omega
              have HI2 := HST.out m m (by rw [if_neg c1]) (by rw [if_neg c2])
              have HI3 : Hid _ := HI2
              clear HI2 HST c1 c2
              go_wp2
              go_roundw
              case rel => exact ⟨u + 1, m, by go_num, by omega, by go_num, hm, HI3, trivial⟩
              case measure => simp [intOf]; omega
    · have hdu : decide ((u : Int) < (z : Int)) = false := by simp; omega
      obtain rfl : u = z := by omega
      have hF := HE.out m HI.out
      have HF : Hid (FarIs u S m) := hF
      clear hF
      go_wp2
      go_ret
      exact ⟨⟨m, rfl, HF.out⟩, rfl⟩
end Go.Proofs.YtioggiapkkeloaaDoor
