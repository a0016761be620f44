/- The walks of Paley and of the document's PaleyOf. -/
import Derived.Test.YtlmjlffipinjiabDoorW10
import Derived.Test.YtlmjlffipinjiabDoorW24
import Derived.Test.YtlmjlffipinjiabDoorS3
import Derived.Test.YtlmjlffipinjiabDoorS5
/- Paley's sets: what the kernel reckons. -/
namespace Go.Proofs.YtlmjlffipinjiabDoor
open Go.RowKit

/-- The squares but 0. -/
def paL (p : Nat) : List Nat := (List.range p).filter fun x => decide (1 ≤ x) && (List.range p).any fun y => decide (1 ≤ y) && (y * y % p == x)
theorem pal_all : ∀ p : Fin 61, (Fd.isPrimeB ((p.val : Nat) : Int) && p.val % 4 == 3) = true → Fd.sqTo p.val 1 (Fd.monL [0]) (p.val ^ 1) = (paL p.val).map Int.ofNat := by decide +kernel
theorem pal_lev : ∀ p : Fin 61, (Fd.isPrimeB ((p.val : Nat) : Int) && p.val % 4 == 3) = true → lvB p.val (paL p.val) = true ∧ dfN p.val (paL p.val) 1 = (p.val - 3) / 4 ∧ (paL p.val).length = (p.val - 1) / 2 := by decide +kernel
theorem pal_ord : ∀ p : Fin 61, Fd.ordZ ((p.val : Nat) : Int) 1 = if Fd.isPrimeB ((p.val : Nat) : Int) = true then ((p.val : Nat) : Int) else 0 := by decide +kernel
theorem pal_good {p : Nat} (h1 : 1 ≤ p) (h : p ≤ 60) : GoodS p (paL p) := ⟨h1, h, List.pairwise_lt_range.sublist List.filter_sublist, fun _ hx => List.mem_range.1 (List.mem_filter.1 hx).1⟩
theorem least_one {P : Nat} {q d z : Int} {l : List Int} (h60 : P ≤ 60) (hp : Fd.isPrimeB (P : Int) = true) (h : Fd.LeastIs (P : Int) 1 q d l z) : q = P ∧ d = 1 ∧ l = [0] ∧ z = 0 := by
  have ho := pal_ord ⟨P, by omega⟩
  rw [if_pos hp] at ho
  have hp0 : (P : Int) ≠ 0 := fun e => by rw [e] at hp; exact absurd hp (by decide)
  have hord : Fd.ordZ (P : Int) 1 = (P : Int) := ho
  have hg : ∀ P : Nat, Fd.goodAt P 1 0 := fun P e h1 h2 => by omega
  rcases h with ⟨h, _⟩ | ⟨P', K', e1, e2, h0, ⟨n, hn, hgn, hm, rfl, rfl, rfl, rfl⟩ | ⟨hno, _⟩⟩
  · rw [hord] at h; exact absurd h hp0
  · obtain rfl : P = P' := by omega
    obtain rfl : K' = 1 := by omega
    obtain rfl : n = 0 := by
      rcases Nat.eq_zero_or_pos n with e | e
      · exact e
      · exact absurd (hg P) (hm 0 e)
    refine ⟨rfl, rfl, ?_, rfl⟩
    simp [Fd.digL, Fd.digF, List.range_succ]
  · obtain rfl : P = P' := by omega
    obtain rfl : K' = 1 := by omega
    exact absurd (hg P) (hno 0 (by rw [Nat.pow_one]; omega))
theorem least_none {P : Nat} {q d z : Int} {l : List Int} (h60 : P ≤ 60) (hp : Fd.isPrimeB (P : Int) = false) (h : Fd.LeastIs (P : Int) 1 q d l z) : q = 0 ∧ d = 0 ∧ l = [] ∧ z = 1 := by
  have ho := pal_ord ⟨P, by omega⟩
  rw [if_neg (by rw [hp]; simp)] at ho
  have hord : Fd.ordZ (P : Int) 1 = 0 := ho
  rcases h with ⟨_, rfl, rfl, rfl, rfl⟩ | ⟨_, _, _, _, h0, _⟩
  · exact ⟨rfl, rfl, rfl, rfl⟩
  · exact absurd hord h0

end Go.Proofs.YtlmjlffipinjiabDoor

namespace Go.Proofs.YtlmjlffipinjiabDoor
open Go.RowKit

theorem fault_low {P : Nat} (h60 : P ≤ 60) (hp : Fd.isPrimeB (P : Int) = true) : Fd.FaultIs (P : Int) 1 [0] 0 := by
  have ho : Fd.ordZ (P : Int) 1 = _ := pal_ord ⟨P, by omega⟩
  rw [if_pos hp] at ho
  have hp0 : (P : Int) ≠ 0 := fun e => by rw [e] at hp; exact absurd hp (by decide)
  refine .inr (.inr (.inr (.inr ⟨by rw [ho]; exact hp0, rfl, ?_, ?_, rfl⟩)))
  · intro j hj
    have : j = 0 := by simpa using hj
    subst this
    simp
    omega
  · intro e h1 h2
    simp at h2
    omega
theorem Sq_low (P : Nat) (v : Value) (w : World) (h60 : P ≤ 60) (hp : Fd.isPrimeB (P : Int) = true) (h4 : P % 4 = 3) (hT : Fd.Tab w) (hl : Sl w v [0]) :
    Calls Tryd.prog 20 #[.agg #[.int .i64 (P : Int), .int .i64 1, v]] w fun e w' => ∃ x, e = .returned (.tuple #[x, .int .i64 0]) ∧ Sl w' x ((paL P).map Int.ofNat) ∧ Below w.heap.size w w' := by
  refine (Fd.Squares_any (P : Int) 1 [0] v w hT hl (by decide)).mono ?_
  rintro e w' ⟨u, s, z, rfl, hs, hF, _, h0, hb⟩
  obtain rfl := hF.one (fault_low h60 hp)
  have e1 := h0.out rfl
  rw [Int.toNat_natCast] at e1
  have e2 := pal_all ⟨P, by omega⟩ (by rw [Bool.and_eq_true]; exact ⟨hp, by simpa using h4⟩)
  refine ⟨u, rfl, ?_, hb⟩
  rw [← show Fd.sqTo P 1 (Fd.monL [0]) (P ^ 1) = (paL P).map Int.ofNat from e2]
  rw [← show s = Fd.sqTo P 1 (Fd.monL [0]) (P ^ 1) from e1]
  exact hs
set_option maxRecDepth 100000 in
set_option maxHeartbeats 4000000 in
theorem Paley_far (p : Int) (w : World) (h : p < 1 ∨ 60 < p) : Calls Tryd.prog 6 #[.int .i64 p] w fun e w' => e = .returned (.tuple #[.slice none 0 0, .int .i64 1]) ∧ Below w.heap.size w w' := by
  by_cases h1 : p < 1
  · have d1 : decide (p < 1) = true := decide_eq_true h1
    clear h h1
    go_enter Tryd.func6, Tryd.ntmps6
    go_wp2
    go_ret2
    exact ⟨rfl, Below.refl _ _⟩
  · have d1 : decide (p < 1) = false := decide_eq_false h1
    have h2 : 60 < p := by omega
    have d2 : decide (60 < p) = true := decide_eq_true h2
    clear h h1 h2
    go_enter Tryd.func6, Tryd.ntmps6
    go_wp2
    go_ret2
    exact ⟨rfl, Below.refl _ _⟩
set_option maxRecDepth 100000 in
set_option maxHeartbeats 4000000 in
theorem Paley_none (P : Nat) (w : World) (hT : Fd.Tab w) (h1 : 1 ≤ P) (h60 : P ≤ 60) (h : Fd.isPrimeB (P : Int) = false ∨ P % 4 ≠ 3) : Calls Tryd.prog 6 #[.int .i64 (P : Int)] w fun e w' => e = .returned (.tuple #[.slice none 0 0, .int .i64 4]) ∧ Below w.heap.size w w' := by
  have d1 : decide ((P : Int) < 1) = false := by simp; omega
  have d2 : decide (60 < (P : Int)) = false := by simp; omega
  cases hp : Fd.isPrimeB (P : Int)
  · have C : Hid (Calls Tryd.prog 14 #[.int .i64 (P : Int), .int .i64 1] w fun e w' => ∃ v, e = .returned (.tuple #[.agg #[.int .i64 0, .int .i64 0, v], .int .i64 1]) ∧ (∃ a n c, v = .slice a n c) ∧ Below w.heap.size w w') := (Fd.least_any (P : Int) 1 w hT).mono (by
      rintro e w' ⟨q, d, v, l, z, rfl, hs, hL, hb⟩
      obtain ⟨rfl, rfl, rfl, rfl⟩ := least_none h60 hp hL
      obtain ⟨a, c, rfl, _⟩ := hs
      exact ⟨_, rfl, ⟨_, _, _, rfl⟩, hb⟩)
    clear h hp hT
    go_enter Tryd.func6, Tryd.ntmps6
    go_wp2_with (first
      | (go_at_call 14; refine C.out.mono ?_; rintro e w1 ⟨v, rfl, ⟨a, n, c, rfl⟩, hb⟩; clear C)
      | go_in)
    go_ret2
    exact ⟨rfl, Below.next hb (balloc _ _)⟩
  · have h4 : P % 4 ≠ 3 := by
      rcases h with h | h
      · rw [hp] at h; cases h
      · exact h
    have C : Hid (Calls Tryd.prog 14 #[.int .i64 (P : Int), .int .i64 1] w fun e w' => ∃ v, e = .returned (.tuple #[.agg #[.int .i64 (P : Int), .int .i64 1, v], .int .i64 0]) ∧ (∃ a n c, v = .slice a n c) ∧ Below w.heap.size w w') := (Fd.least_any (P : Int) 1 w hT).mono (by
      rintro e w' ⟨q, d, v, l, z, rfl, hs, hL, hb⟩
      obtain ⟨rfl, rfl, rfl, rfl⟩ := least_one h60 hp hL
      obtain ⟨a, c, rfl, _⟩ := hs
      exact ⟨_, rfl, ⟨_, _, _, rfl⟩, hb⟩)
    obtain ⟨r, Hr⟩ : ∃ r, Hid (P % 4 = r) := ⟨_, rfl⟩
    have m1 : (P : Int) % 4 = (r : Int) := by rw [← Hr.out]; simp
    have m2 : (P : Int).tmod 4 = (r : Int) := by rw [Int.tmod_eq_emod_of_nonneg (by omega)]; exact m1
    have e1 : ¬ (r : Int) = 3 := by have := Hr.out; omega
    have e2 : ((r : Int) != 3) = true := by simpa using e1
    clear h hp h4 hT
    go_enter Tryd.func6, Tryd.ntmps6
    go_wp2_with (first
      | (go_at_call 14; refine C.out.mono ?_; rintro e w1 ⟨v, rfl, ⟨a, n, c, rfl⟩, hb⟩; clear C)
      | go_in)
    go_ret2
    exact ⟨rfl, Below.next hb (balloc _ _)⟩
set_option maxRecDepth 100000 in
set_option maxHeartbeats 4000000 in
theorem Paley_ok (P : Nat) (w : World) (hT : Fd.Tab w) (h1 : 1 ≤ P) (h60 : P ≤ 60) (hp : Fd.isPrimeB (P : Int) = true) (h4 : P % 4 = 3) : Calls Tryd.prog 6 #[.int .i64 (P : Int)] w fun e w' => ∃ x, e = .returned (.tuple #[x, .int .i64 0]) ∧ Sl w' x ((paL P).map Int.ofNat) ∧ Below w.heap.size w w' := by
  have d1 : decide ((P : Int) < 1) = false := by simp; omega
  have d2 : decide (60 < (P : Int)) = false := by simp; omega
  have C : Hid (Calls Tryd.prog 14 #[.int .i64 (P : Int), .int .i64 1] w fun e w' => ∃ v, e = .returned (.tuple #[.agg #[.int .i64 (P : Int), .int .i64 1, v], .int .i64 0]) ∧ Sl w' v [0] ∧ Below w.heap.size w w') := (Fd.least_any (P : Int) 1 w hT).mono (by
    rintro e w' ⟨q, d, v, l, z, rfl, hs, hL, hb⟩
    obtain ⟨rfl, rfl, rfl, rfl⟩ := least_one h60 hp hL
    exact ⟨_, rfl, hs, hb⟩)
  have HS : Hid (∀ (v : Value) (W : World), Below w.heap.size w W → Sl W v [0] → Calls Tryd.prog 20 #[.agg #[.int .i64 (P : Int), .int .i64 1, v]] W fun e w' => ∃ x, e = .returned (.tuple #[x, .int .i64 0]) ∧ Sl w' x ((paL P).map Int.ofNat) ∧ Below W.heap.size W w') := fun v W b hl => Sq_low P v W h60 hp h4 (hT.below b) hl
  have m1 : (P : Int) % 4 = 3 := by omega
  have m2 : (P : Int).tmod 4 = 3 := by rw [Int.tmod_eq_emod_of_nonneg (by omega)]; exact m1
  generalize (paL P).map Int.ofNat = L at *
  clear hp h4 hT
  go_enter Tryd.func6, Tryd.ntmps6
  go_wp2_with (first
    | (go_at_call 14; refine C.out.mono ?_; rintro e w1 ⟨v, rfl, hv, hb⟩; clear C; have C2 := HS.out v (w1.alloc (.cells #[.int .i64 (P : Int), .int .i64 1, v] 24)) (Below.next hb (balloc _ _)) (hv.below (balloc _ _)); have HB1 : Hid (Below w.heap.size w (w1.alloc (.cells #[.int .i64 (P : Int), .int .i64 1, v] 24))) := Below.next hb (balloc _ _); obtain ⟨va, vc, hve, _⟩ := hv; subst hve; have hFc := (Fd.FB.made w1 (P : Int) 1 (.slice va 1 vc)).cells; clear HS hb)
    | (go_at_call 20; refine C2.mono ?_; rintro e w2 ⟨x, rfl, hx, hb⟩; clear C2; have HX : Hid (Sl w2 x L) := hx; have HB2 : Hid (Below w.heap.size w w2) := Below.next HB1.out hb; clear hb hx)
    | go_in)
  go_ret2
  exact ⟨x, rfl, HX.out, HB2.out⟩

end Go.Proofs.YtlmjlffipinjiabDoor
