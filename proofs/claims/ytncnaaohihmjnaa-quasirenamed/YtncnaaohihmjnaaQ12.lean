/- The walk of names. -/
import Derived.Test.YtncnaaohihmjnaaQ11
namespace Go.Proofs.Ytncnaaohihmjnaa
open Go.RowKit

/-- What is found: the first names, or none. -/
def NamesIs (n : Nat) (s t : Nat → Nat → Nat) (x : Value) (b : Bool) (w : World) : Prop := (∃ k, alK n s t = some k ∧ b = true ∧ Sl w x (pl n (un n k))) ∨ (alK n s t = none ∧ b = false ∧ x = .slice none 0 0)
theorem sl_len {w : World} {v : Value} {l : List Int} {n : Nat} (h : Sl w v l) (hn : l.length = n) : ∃ a c, v = .slice a n c := by
  obtain ⟨a, c, rfl, _⟩ := h
  exact ⟨a, c, by rw [hn]⟩
theorem fac_six {n : Nat} (h : n ≤ 6) : fac n ≤ 720 := fac_mono h
set_option maxHeartbeats 8000000 in
theorem names_any (n : Nat) (s t : Nat → Nat → Nat) (u v : Value) (w : World) (h1 : 1 ≤ n) (hn : n ≤ 6) (hs : ∀ a b, a < n → b < n → s a b < n) (hS : Teller u n n s w) (hT : Teller v n n t w) :
    Calls Try.prog 42 #[.int .i64 (n : Int), u, v] w fun e w' => (∃ x b, e = .returned (.tuple #[x, .bool b]) ∧ NamesIs n s t x b w') ∧ Below w.heap.size w w' := by
  obtain ⟨h, lc, rfl⟩ := hS.form
  obtain ⟨g, lb, rfl⟩ := hT.form
  have HS : Hid (Teller (.func (.func h) #[] lc) n n s w) := hS
  have HT : Hid (Teller (.func (.func g) #[] lb) n n t w) := hT
  have HLT : Hid (∀ a b, a < n → b < n → s a b < n) := hs
  have HBX : ∀ a b, Bx ((w.alloc (.cells #[.func (.func h) #[] lc] a)).alloc (.cells #[.func (.func g) #[] lb] b)) w.heap.size (.func (.func h) #[] lc) ∧ Bx ((w.alloc (.cells #[.func (.func h) #[] lc] a)).alloc (.cells #[.func (.func g) #[] lb] b)) (w.heap.size + 1) (.func (.func g) #[] lb) := fun a b => bx_two w _ _ a b
  obtain ⟨Z, hZ⟩ : ∃ Z, Z = fac n := ⟨_, rfl⟩
  have HZ : Hid (Z = fac n) := hZ
  have hZ7 : Z ≤ 720 := by rw [hZ]; exact fac_six hn
  have U1 : Hid (∀ k W, k < Z → Calls Try.prog 61 #[.int .i64 (n : Int), .int .i64 (k : Int)] W fun e w' => ∃ x, e = .returned (.tuple #[x, .int .i64 0]) ∧ Sl w' x (pl n (un n k)) ∧ Below W.heap.size W w') := fun k W hk => by
    have := Unrank_ok n k W (by omega) (by rw [← HZ.out]; exact hk)
    rw [unr_pl] at this
    exact this
  have U2 : Hid (∀ W, Calls Try.prog 61 #[.int .i64 (n : Int), .int .i64 (Z : Int)] W fun e w' => e = .returned (.tuple #[.slice none 0 0, .int .i64 1]) ∧ Below W.heap.size W w') := fun W => Unrank_k n Z W (by omega) (.inr (by rw [HZ.out]; omega))
  have A : Hid (∀ k W q a b c, k < Z → Below w.heap.size w W → Sl W q (pl n (un n k)) → Bx W a (.func (.func g) #[] lb) → Bx W b q → Bx W c (.func (.func h) #[] lc) → Calls Try.prog 53 #[.int .i64 (n : Int), .func (.func 62) #[] #[.pointer (some ⟨a, 0, none⟩), .pointer (some ⟨b, 0, none⟩), .pointer (some ⟨c, 0, none⟩)]] W fun e w' => e = .returned (.bool (rnB n s t (un n k))) ∧ Below W.heap.size W w') := fun k W q a b c hk bW hq ha hb hc =>
    alwaysOfTwo_any n _ _ _ _ (by omega) ⟨62, _, rfl, e62, fun W' hB x y hx hy => names1_any n a b c x y s t (un n k) _ _ q W W' HLT.out (un_pm (by rw [← HZ.out]; exact hk)).lt (HS.out.below bW) (HT.out.below bW) hq hB (ha.below hB) (hb.below hB) (hc.below hB) hx hy⟩ rfl
  have HN : Hid (∀ r, r ≤ Z → (∀ k, k < r → rnB n s t (un n k) = false) → (r = Z → alK n s t = none) ∧ (r < Z → rnB n s t (un n r) = true → alK n s t = some r)) := fun r hr hk => ⟨fun e => by
    subst e
    unfold alK
    rw [← HZ.out]
    exact fst_none hk, fun hlt e => by
    unfold alK
    rw [← HZ.out]
    exact fst_at hlt e hk⟩
  clear hS hT hs hZ HZ HS HT HLT
  go_enter Try.func42, Try.ntmps42
  go_wp2
  go_loopw [8] (fun i wr => ∃ r : Nat, i = .int .i64 (r : Int) ∧ r ≤ Z ∧ Hid (∀ k, k < r → rnB n s t (un n k) = false) ∧ Bx wr w.heap.size (.func (.func h) #[] lc) ∧ Bx wr (w.heap.size + 1) (.func (.func g) #[] lb) ∧ Below w.heap.size w wr) (fun i _ => (Z + 1 - intOf i).toNat)
  case atStart => exact ⟨0, rfl, by omega, (show ∀ k, k < 0 → _ from fun k h => by omega), (HBX _ _).1, (HBX _ _).2, two_below w _ _⟩
  case round =>
    clear HBX
    obtain ⟨r, rfl, hr, HR, B1, B2, hB⟩ := hrel
    by_cases hlt : r < Z
    · have D1 := U1.out r wr hlt
      have hfix := (HN.out r hr HR.out).2 hlt
      cases hq : rnB n s t (un n r) with
      | true =>
        have HAL : Hid (alK n s t = some r) := hfix hq
        clear hfix
        go_wp2_with (first
          | (go_at_call 61; refine D1.mono ?_; rintro e w1 ⟨x, rfl, hx, b1⟩; have HX : Hid (Sl w1 x (pl n (un n r))) := hx; obtain ⟨xa, xc, rfl⟩ := sl_len hx (pl_len n _); clear hx; have hB1 := Below.next hB b1; have E := fun ty => A.out r (w1.alloc (.cells #[.slice xa n xc] ty)) _ (w.heap.size + 1) w1.heap.size w.heap.size hlt (Below.next hB1 (balloc w1 _)) (HX.out.alloc _) ((B2.below b1).below (balloc w1 _)) (bx_new w1 _ ty) ((B1.below b1).below (balloc w1 _)); rw [hq] at E; clear D1)
          | (go_at_call 53; refine (E _).mono ?_; rintro e w2 ⟨rfl, b2⟩; have hB2 := Below.next (Below.next hB1 (balloc w1 _)) b2; have hxl := ((bx_new w1 (.slice xa n xc) _).below b2).2; have HX2 := (HX.out.alloc (.cells #[.slice xa n xc] 22)).below b2))
        go_ret2
        exact ⟨⟨_, _, rfl, .inl ⟨r, HAL.out, rfl, HX2⟩⟩, hB2⟩
      | false =>
        have HR2 : Hid (∀ k, k < r + 1 → rnB n s t (un n k) = false) := fun k hk => by
          by_cases e : k = r
          · subst e; exact hq
          · exact HR.out k (by omega)
        clear hfix
        go_wp2_with (first
          | (go_at_call 61; refine D1.mono ?_; rintro e w1 ⟨x, rfl, hx, b1⟩; have HX : Hid (Sl w1 x (pl n (un n r))) := hx; obtain ⟨xa, xc, rfl⟩ := sl_len hx (pl_len n _); clear hx; have hB1 := Below.next hB b1; have E := fun ty => A.out r (w1.alloc (.cells #[.slice xa n xc] ty)) _ (w.heap.size + 1) w1.heap.size w.heap.size hlt (Below.next hB1 (balloc w1 _)) (HX.out.alloc _) ((B2.below b1).below (balloc w1 _)) (bx_new w1 _ ty) ((B1.below b1).below (balloc w1 _)); rw [hq] at E; clear D1)
          | (go_at_call 53; refine (E _).mono ?_; rintro e w2 ⟨rfl, b2⟩; have hB2 := Below.next (Below.next hB1 (balloc w1 _)) b2; have P1 := ((B1.below b1).below (balloc w1 _)).below b2; have P2 := ((B2.below b1).below (balloc w1 _)).below b2))
        go_roundw
        case rel => exact ⟨r + 1, by go_num, by omega, HR2, P1, P2, hB2⟩
        case measure => simp [intOf]; omega
    · obtain rfl : r = Z := by omega
      have HAL : Hid (alK n s t = none) := (HN.out r hr HR.out).1 rfl
      have D1 := U2.out wr
      go_wp2_with (go_at_call 61; refine D1.mono ?_; rintro e w1 ⟨rfl, b1⟩; have hB1 := Below.next hB b1)
      go_ret2
      exact ⟨⟨_, _, rfl, .inr ⟨HAL.out, rfl, rfl⟩⟩, Below.next hB1 (balloc w1 _)⟩
end Go.Proofs.Ytncnaaohihmjnaa
