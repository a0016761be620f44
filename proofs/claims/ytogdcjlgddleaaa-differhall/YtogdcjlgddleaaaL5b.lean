/- The law DifferHall. -/
import Derived.Test.YtogdcjlgddleaaaL5
namespace Go.Proofs.Ytogdcjlgddleaaa
open Go.RowKit Go.Maps

set_option maxRecDepth 100000 in
set_option maxHeartbeats 8000000 in
theorem Hall_early (p : Int) (u : Value) (w : World) (n z : Nat) (hz : z ≠ 0) (hu : ∃ a c, u = .slice a n c)
    (H9 : Hid (∀ W, Below w.heap.size w W → Calls Try.prog 9 #[.int .i64 p, u] W fun e w' => (∃ l : Int, e = .returned (.tuple #[.int .i64 l, .int .i64 (z : Int)])) ∧ Below W.heap.size W w')) :
    Calls Try.prog 5 #[.int .i64 p, u] w fun e w' => e = .returned (.bool true) ∧ Below w.heap.size w w' := by
  have H14 : Hid (∀ W, Calls Try.prog 14 #[] W fun e w' => e = .returned (.bool true) ∧ Below W.heap.size W w') := fun W => FactD_any W
  obtain ⟨a, ca, rfl⟩ := hu
  have hz1 : ¬ (z : Int) = 0 := by omega
  have hz2 : ((z : Int) != 0) = true := by simpa using hz
  go_enter Try.func5, Try.ntmps5
  go_wp2_with (first
    | (go_at_call 14; refine (H14.out _).mono ?_; rintro e w1 ⟨rfl, hb⟩; clear H14; have HB1 : Hid (Below w.heap.size w w1) := hb; clear hb)
    | (go_at_call 9; refine (H9.out _ HB1.out).mono ?_; rintro e w2 ⟨⟨l, rfl⟩, hb⟩; clear H9; have HB2 : Hid (Below w.heap.size w w2) := Below.next HB1.out hb; clear hb)
    | go_in)
  go_ret
  exact ⟨rfl, HB2.out⟩
set_option maxRecDepth 100000 in
set_option maxHeartbeats 8000000 in
theorem Hall_one (p : Int) (u : Value) (w : World) (n : Nat) (hp : p < 2) (hu : ∃ a c, u = .slice a n c)
    (H9 : Hid (∀ W, Below w.heap.size w W → Calls Try.prog 9 #[.int .i64 p, u] W fun e w' => (∃ l : Int, e = .returned (.tuple #[.int .i64 l, .int .i64 0])) ∧ Below W.heap.size W w')) :
    Calls Try.prog 5 #[.int .i64 p, u] w fun e w' => e = .returned (.bool true) ∧ Below w.heap.size w w' := by
  have H14 : Hid (∀ W, Calls Try.prog 14 #[] W fun e w' => e = .returned (.bool true) ∧ Below W.heap.size W w') := fun W => FactD_any W
  obtain ⟨a, ca, rfl⟩ := hu
  have hd : decide (p < 2) = true := decide_eq_true hp
  go_enter Try.func5, Try.ntmps5
  go_wp2_with (first
    | (go_at_call 14; refine (H14.out _).mono ?_; rintro e w1 ⟨rfl, hb⟩; clear H14; have HB1 : Hid (Below w.heap.size w w1) := hb; clear hb)
    | (go_at_call 9; refine (H9.out _ HB1.out).mono ?_; rintro e w2 ⟨⟨l, rfl⟩, hb⟩; clear H9; have HB2 : Hid (Below w.heap.size w w2) := Below.next HB1.out hb; clear hb)
    | go_in)
  go_ret
  exact ⟨rfl, HB2.out⟩
set_option maxRecDepth 100000 in
set_option maxHeartbeats 8000000 in
theorem Hall_ok (v : Nat) (D : List Nat) (u : Value) (w : World) (hG : GoodS v D) (hu : Sl w u (D.map Int.ofNat)) (h2 : 2 ≤ v) (hlv : lvB v D = true) :
    Calls Try.prog 5 #[.int .i64 (v : Int), u] w fun e w' => e = .returned (.bool true) ∧ Below w.heap.size w w' := by
  have H14 : Hid (∀ W, Calls Try.prog 14 #[] W fun e w' => e = .returned (.bool true) ∧ Below W.heap.size W w') := fun W => FactD_any W
  have H9 : Hid (∀ W, Below w.heap.size w W → Calls Try.prog 9 #[.int .i64 (v : Int), u] W fun e w' => e = .returned (.tuple #[.int .i64 (dfN v D 1 : Int), .int .i64 0]) ∧ Below W.heap.size W w') := fun W h => by
    have := Level_main' v D u W hG (hu.below h)
    rw [show lvL v D = dfN v D 1 from if_pos hlv, show lvE v D = 0 from if_pos hlv] at this
    exact this
  have H10 : Hid (∀ W, Below w.heap.size w W → Calls Try.prog 10 #[.int .i64 (v : Int), u] W fun e w' => ∃ x, e = .returned (.tuple #[x, .int .i64 0]) ∧ ORow w' W.heap.size x (muL v D) ∧ Below W.heap.size W w') := fun W h => Mul_main' v D u W hG (hu.below h)
  have hL := lvB_lev (by omega) hG.pts hlv
  have hle := lev_le h2 hG hL
  have h60 := hG.le
  have hlen := hG.len
  have HH : Hid (∀ p n, D.length = dfN v D 1 + n → 0 < n → PrN p → dfN v D 1 < p → n % p = 0 → v % p ≠ 0 → p % v ∈ muL v D) := fun p n h1 h3 h4 h5 h6 h7 => hall_mu h2 hG hL h1 h3 h4 h5 h6 h7
  have H17 : Hid (∀ (q : Int) (W : World), Calls Try.prog 17 #[.int .i64 q] W fun e w' => PrAns q e ∧ w' = W) := fun q W => IsPrimeD_any q W
  have H18 : Hid (∀ (q : Nat) (x : Value) (W : World), q ∈ muL v D → ORow W 0 x (muL v D) → Calls Try.prog 18 #[x, .int .i64 (q : Int)] W fun e w' => e = .returned (.bool true) ∧ w' = W) := fun q x W hq hx =>
    Lies_any (muL v D) q true x W hx.sl (by have := muL_len v D; omega) (List.contains_iff_mem.2 hq)
  obtain ⟨a, ca, rfl, _⟩ := sl_at hu
  obtain ⟨l, Hl⟩ : ∃ l, Hid (dfN v D 1 = l) := ⟨_, rfl⟩
  rw [Hl.out] at hle HH H9
  obtain ⟨n, hn⟩ : ∃ n, D.length = l + n := ⟨D.length - l, by omega⟩
  have HH2 : Hid (∀ p, 0 < n → PrN p → l < p → n % p = 0 → v % p ≠ 0 → p % v ∈ muL v D) := fun p => HH.out p n hn
  have hni : (D.length : Int) - (l : Int) = (n : Int) := by omega
  generalize muL v D = M at *
  obtain ⟨kk, Hkk⟩ : ∃ kk, Hid (D.length = kk) := ⟨_, rfl⟩
  rw [Hkk.out] at hni hle hlen hn ⊢
  rw [Hkk.out] at H9 H10
  have hd2 : decide ((v : Int) < 2) = false := by simp; omega
  have hv0 : (v : Int) ≠ 0 := by omega
  have hw4 : ¬ v = 0 := by omega
  have hl60 : l + n ≤ 60 := by omega
  clear hu hG hlv hL HH hn hle hlen
  go_enter Try.func5, Try.ntmps5
  go_wp2_with (first
    | (go_at_call 14; refine (H14.out _).mono ?_; rintro e w1 ⟨rfl, hb⟩; clear H14; have HB1 : Hid (Below w.heap.size w w1) := hb; clear hb)
    | (go_at_call 9; refine (H9.out _ HB1.out).mono ?_; rintro e w2 ⟨rfl, hb⟩; clear H9; have HB2 : Hid (Below w.heap.size w w2) := Below.next HB1.out hb; clear hb)
    | (go_at_call 10; refine (H10.out _ HB2.out).mono ?_; rintro e w3 ⟨x, rfl, hx, hb⟩; clear H10; have HX3 : Hid (ORow w3 0 x M) := own_low hx (Nat.zero_le _); have HB3 : Hid (Below w.heap.size w w3) := Below.next HB2.out hb; clear hb hx)
    | go_in)
  go_loopw [10] (fun pv wr => ∃ p : Nat, pv = .int .i64 (p : Int) ∧ l + 1 ≤ p ∧ p ≤ 200 ∧ wr = w3) (fun pv _ => (n + 1 - intOf pv).toNat)
  case atStart => exact ⟨l + 1, by go_num, by omega, by omega, rfl⟩
  case round =>
    obtain ⟨p, rfl, hp1, hp2, rfl⟩ := hrel
    by_cases hlt : p ≤ n
    · have hdi : decide ((p : Int) ≤ (n : Int)) = true := by simp; omega
      have hii : (p : Int) ≤ (n : Int) := by omega
      have hpn : (p : Int) ≠ 0 := by omega
      have hp0 : ¬ p = 0 := by omega
      have C17 := H17.out (p : Int) wr
      have hm := HH2.out p (by omega)
      obtain ⟨r1, Hr1⟩ : ∃ r, Hid (n % p = r) := ⟨_, rfl⟩
      obtain ⟨r2, Hr2⟩ : ∃ r, Hid (v % p = r) := ⟨_, rfl⟩
      obtain ⟨r3, Hr3⟩ : ∃ r, Hid (p % v = r) := ⟨_, rfl⟩
      rw [Hr1.out, Hr2.out, Hr3.out] at hm
      have m1 : (n : Int) % (p : Int) = (r1 : Int) := by rw [← Hr1.out]; simp
      have m2 : (v : Int) % (p : Int) = (r2 : Int) := by rw [← Hr2.out]; simp
      have m3 : (p : Int) % (v : Int) = (r3 : Int) := by rw [← Hr3.out]; simp
      have m1' : (n : Int).tmod (p : Int) = (r1 : Int) := by rw [Int.tmod_eq_emod_of_nonneg (by omega)]; exact m1
      have m2' : (v : Int).tmod (p : Int) = (r2 : Int) := by rw [Int.tmod_eq_emod_of_nonneg (by omega)]; exact m2
      have m3' : (p : Int).tmod (v : Int) = (r3 : Int) := by rw [Int.tmod_eq_emod_of_nonneg (by omega)]; exact m3
      have hw1 := Nat.mod_lt n (show 0 < p by omega)
      have hw2 := Nat.mod_lt v (show 0 < p by omega)
      have hw3 := Nat.mod_lt p (show 0 < v by omega)
      rw [Hr1.out] at hw1
      rw [Hr2.out] at hw2
      rw [Hr3.out] at hw3
      by_cases e1 : r1 = 0
      · by_cases e2 : r2 = 0
        · subst e1
          subst e2
          clear hm HH2 H18 H17
          go_wp2_with (first
            | (go_at_call 17; refine C17.mono ?_; rintro e w4 ⟨⟨b, rfl, hb⟩, rfl⟩; clear C17 hb; cases b)
            | go_in)
          · go_roundw
            case rel => exact ⟨p + 1, by go_num, by omega, by omega, by first | rfl | trivial⟩
            case measure => simp [intOf]; omega
          · go_wp2
            go_roundw
            case rel => exact ⟨p + 1, by go_num, by omega, by omega, by first | rfl | trivial⟩
            case measure => simp [intOf]; omega
        · subst e1
          have e3 : ¬ (r2 : Int) = 0 := by omega
          have e4 : ((r2 : Int) == 0) = false := by simpa using e3
          have HM : Hid (PrN p → r3 ∈ M) := fun h => hm h (by omega) rfl e2
          clear hm HH2 H17
          go_wp2_with (first
            | (go_at_call 17; refine C17.mono ?_; rintro e w4 ⟨⟨b, rfl, hb⟩, rfl⟩; clear C17; have Hb : Hid (b = true → ∃ q : Nat, (p : Int) = q ∧ PrN q) := hb; clear hb; cases b))
          · go_roundw
            case rel => exact ⟨p + 1, by go_num, by omega, by omega, by first | rfl | trivial⟩
            case measure => simp [intOf]; omega
          · obtain ⟨p', ep, hpp⟩ := Hb.out (by first | rfl | trivial)
            obtain rfl : p = p' := by omega
            have C18 := H18.out r3 x w4 (HM.out hpp) HX3.out
            clear hpp Hb HM H18 ep
            refine C18.mono ?_
            rintro e w5 ⟨rfl, rfl⟩
            clear C18
            go_wp2
            go_roundw
            case rel => exact ⟨p + 1, by go_num, by omega, by omega, by first | rfl | trivial⟩
            case measure => simp [intOf]; omega
      · have e3 : ¬ (r1 : Int) = 0 := by omega
        have e4 : ((r1 : Int) != 0) = true := by simpa using e3
        clear hm HH2 H18 H17
        go_wp2_with (first
          | (go_at_call 17; refine C17.mono ?_; rintro e w4 ⟨⟨b, rfl, hb⟩, rfl⟩; clear C17 hb; cases b)
          | go_in)
        · go_roundw
          case rel => exact ⟨p + 1, by go_num, by omega, by omega, by first | rfl | trivial⟩
          case measure => simp [intOf]; omega
        · go_wp2
          go_roundw
          case rel => exact ⟨p + 1, by go_num, by omega, by omega, by first | rfl | trivial⟩
          case measure => simp [intOf]; omega
    · have hdi : decide ((p : Int) ≤ (n : Int)) = false := by simp; omega
      have hii : ¬ (p : Int) ≤ (n : Int) := by omega
      go_wp2
      go_ret
      exact ⟨rfl, HB3.out⟩
theorem Hall_law (p : Int) (b : List Int) (u : Value) (w : World) (hu : Sl w u b) (hbl : b.length ≤ maxLen) :
    Calls Try.prog 5 #[.int .i64 p, u] w fun e w' => e = .returned (.bool true) ∧ Below w.heap.size w w' := by
  have hform : ∃ a c, u = .slice a b.length c := by obtain ⟨a, c, rfl, _⟩ := hu; exact ⟨a, c, rfl⟩
  by_cases hz : sF p b = 0
  · obtain ⟨v, D, rfl, rfl, hG⟩ := sF_good hz
    rcases lvE_cases v D with ⟨h1, _, h3⟩ | h4
    · by_cases h2 : 2 ≤ v
      · exact Hall_ok v D u w hG hu h2 h1
      · refine Hall_one (v : Int) u w _ (by omega) hform fun W hW => (Level_main' v D u W hG (hu.below hW)).mono ?_
        rintro e w' ⟨rfl, hb⟩
        exact ⟨⟨_, by rw [h3]; rfl⟩, hb⟩
    · refine Hall_early (v : Int) u w _ 4 (by omega) hform fun W hW => (Level_main' v D u W hG (hu.below hW)).mono ?_
      rintro e w' ⟨rfl, hb⟩
      exact ⟨⟨_, by rw [h4]⟩, hb⟩
  · refine Hall_early p u w _ _ hz hform fun W hW => (Level_bad' p b u W _ hz hform (CheckS_any p b u W (hu.below hW) hbl)).mono ?_
    rintro e w' ⟨rfl, hb⟩
    exact ⟨⟨_, rfl⟩, hb⟩

end Go.Proofs.Ytogdcjlgddleaaa
