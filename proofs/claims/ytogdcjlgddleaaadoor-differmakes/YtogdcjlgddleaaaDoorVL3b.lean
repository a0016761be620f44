/- The law DifferMakes. -/
import Derived.Test.YtogdcjlgddleaaaDoorW10
import Derived.Test.YtogdcjlgddleaaaDoorW16
import Derived.Test.YtogdcjlgddleaaaDoorS3
import Derived.Test.YtogdcjlgddleaaaDoorS5
import Derived.Test.YtogdcjlgddleaaaDoorV4
import Derived.Test.YtogdcjlgddleaaaDoorV8
import Derived.Test.YtogdcjlgddleaaaDoorDDe
/- The walk of the document's PaleyOf. -/
/- Paley's sets: what the kernel reckons. -/
namespace Go.Proofs.YtogdcjlgddleaaaDoor
open Go.RowKit

/-- The squares but 0. -/
def paL (p : Nat) : List Nat := (List.range p).filter fun x => decide (1 ≤ x) && (List.range p).any fun y => decide (1 ≤ y) && (y * y % p == x)
theorem pal_all : ∀ p : Fin 61, (Fd.isPrimeB ((p.val : Nat) : Int) && p.val % 4 == 3) = true → Fd.sqTo p.val 1 (Fd.monL [0]) (p.val ^ 1) = (paL p.val).map Int.ofNat := by decide +kernel
theorem pal_lev : ∀ p : Fin 61, (Fd.isPrimeB ((p.val : Nat) : Int) && p.val % 4 == 3) = true → lvB p.val (paL p.val) = true ∧ dfN p.val (paL p.val) 1 = (p.val - 3) / 4 ∧ (paL p.val).length = (p.val - 1) / 2 := by decide +kernel
theorem pal_ord : ∀ p : Fin 61, Fd.ordZ ((p.val : Nat) : Int) 1 = if Fd.isPrimeB ((p.val : Nat) : Int) = true then ((p.val : Nat) : Int) else 0 := by decide +kernel
theorem pal_good {p : Nat} (h1 : 1 ≤ p) (h : p ≤ 60) : GoodS p (paL p) := ⟨h1, h, List.pairwise_lt_range.sublist List.filter_sublist, fun _ hx => List.mem_range.1 (List.mem_filter.1 hx).1⟩
theorem least_one {P : Nat} {q d z : Int} {l : List Int} (h60 : P ≤ 60) (hp : Fd.isPrimeB (P : Int) = true) (h : Fd.LeastIs (P : Int) 1 q d l z) : q = P ∧ d = 1 ∧ l = [0] ∧ z = 0 := by
  have ho := pal_ord ⟨P, by omega⟩
  rw [if_pos hp] at ho
  have hp0 : (P : Int) ≠ 0 := fun e => by rw [e] at hp; exact absurd hp (by decide)
  have hord : Fd.ordZ (P : Int) 1 = (P : Int) := ho
  have hg : ∀ P : Nat, Fd.goodAt P 1 0 := fun P e h1 h2 => by omega
  rcases h with ⟨h, _⟩ | ⟨P', K', e1, e2, h0, ⟨n, hn, hgn, hm, rfl, rfl, rfl, rfl⟩ | ⟨hno, _⟩⟩
  · rw [hord] at h; exact absurd h hp0
  · obtain rfl : P = P' := by omega
    obtain rfl : K' = 1 := by omega
    obtain rfl : n = 0 := by
      rcases Nat.eq_zero_or_pos n with e | e
      · exact e
      · exact absurd (hg P) (hm 0 e)
    refine ⟨rfl, rfl, ?_, rfl⟩
    simp [Fd.digL, Fd.digF, List.range_succ]
  · obtain rfl : P = P' := by omega
    obtain rfl : K' = 1 := by omega
    exact absurd (hg P) (hno 0 (by rw [Nat.pow_one]; omega))
theorem least_none {P : Nat} {q d z : Int} {l : List Int} (h60 : P ≤ 60) (hp : Fd.isPrimeB (P : Int) = false) (h : Fd.LeastIs (P : Int) 1 q d l z) : q = 0 ∧ d = 0 ∧ l = [] ∧ z = 1 := by
  have ho := pal_ord ⟨P, by omega⟩
  rw [if_neg (by rw [hp]; simp)] at ho
  have hord : Fd.ordZ (P : Int) 1 = 0 := ho
  rcases h with ⟨_, rfl, rfl, rfl, rfl⟩ | ⟨_, _, _, _, h0, _⟩
  · exact ⟨rfl, rfl, rfl, rfl⟩
  · exact absurd hord h0

end Go.Proofs.YtogdcjlgddleaaaDoor

/- The walks of Paley and of the document's PaleyOf. -/
namespace Go.Proofs.YtogdcjlgddleaaaDoor
open Go.RowKit

theorem fault_low {P : Nat} (h60 : P ≤ 60) (hp : Fd.isPrimeB (P : Int) = true) : Fd.FaultIs (P : Int) 1 [0] 0 := by
  have ho : Fd.ordZ (P : Int) 1 = _ := pal_ord ⟨P, by omega⟩
  rw [if_pos hp] at ho
  have hp0 : (P : Int) ≠ 0 := fun e => by rw [e] at hp; exact absurd hp (by decide)
  refine .inr (.inr (.inr (.inr ⟨by rw [ho]; exact hp0, rfl, ?_, ?_, rfl⟩)))
  · intro j hj
    have : j = 0 := by simpa using hj
    subst this
    simp
    omega
  · intro e h1 h2
    simp at h2
    omega
theorem Sq_low (P : Nat) (v : Value) (w : World) (h60 : P ≤ 60) (hp : Fd.isPrimeB (P : Int) = true) (h4 : P % 4 = 3) (hT : Fd.Tab w) (hl : Sl w v [0]) :
    Calls Tryd.prog 22 #[.agg #[.int .i64 (P : Int), .int .i64 1, v]] w fun e w' => ∃ x, e = .returned (.tuple #[x, .int .i64 0]) ∧ Sl w' x ((paL P).map Int.ofNat) ∧ Below w.heap.size w w' := by
  refine (Fd.Squares_any (P : Int) 1 [0] v w hT hl (by decide)).mono ?_
  rintro e w' ⟨u, s, z, rfl, hs, hF, _, h0, hb⟩
  obtain rfl := hF.one (fault_low h60 hp)
  have e1 := h0.out rfl
  rw [Int.toNat_natCast] at e1
  have e2 := pal_all ⟨P, by omega⟩ (by rw [Bool.and_eq_true]; exact ⟨hp, by simpa using h4⟩)
  refine ⟨u, rfl, ?_, hb⟩
  rw [← show Fd.sqTo P 1 (Fd.monL [0]) (P ^ 1) = (paL P).map Int.ofNat from e2]
  rw [← show s = Fd.sqTo P 1 (Fd.monL [0]) (P ^ 1) from e1]
  exact hs
set_option maxHeartbeats 4000000 in
theorem Paley_far (p : Int) (w : World) (h : p < 1 ∨ 60 < p) : Calls Tryd.prog 9 #[.int .i64 p] w fun e w' => e = .returned (.tuple #[.slice none 0 0, .int .i64 1]) ∧ Below w.heap.size w w' := by
  by_cases h1 : p < 1
  · have d1 : decide (p < 1) = true := decide_eq_true h1
    clear h h1
    go_enter Tryd.func9, Tryd.ntmps9
    go_wp2
    go_ret2
    exact ⟨rfl, Below.refl _ _⟩
  · have d1 : decide (p < 1) = false := decide_eq_false h1
    have h2 : 60 < p := by omega
    have d2 : decide (60 < p) = true := decide_eq_true h2
    clear h h1 h2
    go_enter Tryd.func9, Tryd.ntmps9
    go_wp2
    go_ret2
    exact ⟨rfl, Below.refl _ _⟩
set_option maxRecDepth 100000 in
set_option maxHeartbeats 4000000 in
theorem Paley_none (P : Nat) (w : World) (hT : Fd.Tab w) (h1 : 1 ≤ P) (h60 : P ≤ 60) (h : Fd.isPrimeB (P : Int) = false ∨ P % 4 ≠ 3) : Calls Tryd.prog 9 #[.int .i64 (P : Int)] w fun e w' => e = .returned (.tuple #[.slice none 0 0, .int .i64 4]) ∧ Below w.heap.size w w' := by
  have d1 : decide ((P : Int) < 1) = false := by simp; omega
  have d2 : decide (60 < (P : Int)) = false := by simp; omega
  cases hp : Fd.isPrimeB (P : Int)
  · have C : Hid (Calls Tryd.prog 21 #[.int .i64 (P : Int), .int .i64 1] w fun e w' => ∃ v, e = .returned (.tuple #[.agg #[.int .i64 0, .int .i64 0, v], .int .i64 1]) ∧ (∃ a n c, v = .slice a n c) ∧ Below w.heap.size w w') := (Fd.least_any (P : Int) 1 w hT).mono (by
      rintro e w' ⟨q, d, v, l, z, rfl, hs, hL, hb⟩
      obtain ⟨rfl, rfl, rfl, rfl⟩ := least_none h60 hp hL
      obtain ⟨a, c, rfl, _⟩ := hs
      exact ⟨_, rfl, ⟨_, _, _, rfl⟩, hb⟩)
    clear h hp hT
    go_enter Tryd.func9, Tryd.ntmps9
    go_wp2_with (first
      | (go_at_call 21; refine C.out.mono ?_; rintro e w1 ⟨v, rfl, ⟨a, n, c, rfl⟩, hb⟩; clear C)
      | go_in)
    go_ret2
    exact ⟨rfl, Below.next hb (balloc _ _)⟩
  · have h4 : P % 4 ≠ 3 := by
      rcases h with h | h
      · rw [hp] at h; cases h
      · exact h
    have C : Hid (Calls Tryd.prog 21 #[.int .i64 (P : Int), .int .i64 1] w fun e w' => ∃ v, e = .returned (.tuple #[.agg #[.int .i64 (P : Int), .int .i64 1, v], .int .i64 0]) ∧ (∃ a n c, v = .slice a n c) ∧ Below w.heap.size w w') := (Fd.least_any (P : Int) 1 w hT).mono (by
      rintro e w' ⟨q, d, v, l, z, rfl, hs, hL, hb⟩
      obtain ⟨rfl, rfl, rfl, rfl⟩ := least_one h60 hp hL
      obtain ⟨a, c, rfl, _⟩ := hs
      exact ⟨_, rfl, ⟨_, _, _, rfl⟩, hb⟩)
    obtain ⟨r, Hr⟩ : ∃ r, Hid (P % 4 = r) := ⟨_, rfl⟩
    have m1 : (P : Int) % 4 = (r : Int) := by rw [← Hr.out]; simp
    have m2 : (P : Int).tmod 4 = (r : Int) := by rw [Int.tmod_eq_emod_of_nonneg (by omega)]; exact m1
    have e1 : ¬ (r : Int) = 3 := by have := Hr.out; omega
    have e2 : ((r : Int) != 3) = true := by simpa using e1
    clear h hp h4 hT
    go_enter Tryd.func9, Tryd.ntmps9
    go_wp2_with (first
      | (go_at_call 21; refine C.out.mono ?_; rintro e w1 ⟨v, rfl, ⟨a, n, c, rfl⟩, hb⟩; clear C)
      | go_in)
    go_ret2
    exact ⟨rfl, Below.next hb (balloc _ _)⟩
set_option maxRecDepth 100000 in
set_option maxHeartbeats 4000000 in
theorem Paley_ok (P : Nat) (w : World) (hT : Fd.Tab w) (h1 : 1 ≤ P) (h60 : P ≤ 60) (hp : Fd.isPrimeB (P : Int) = true) (h4 : P % 4 = 3) : Calls Tryd.prog 9 #[.int .i64 (P : Int)] w fun e w' => ∃ x, e = .returned (.tuple #[x, .int .i64 0]) ∧ Sl w' x ((paL P).map Int.ofNat) ∧ Below w.heap.size w w' := by
  have d1 : decide ((P : Int) < 1) = false := by simp; omega
  have d2 : decide (60 < (P : Int)) = false := by simp; omega
  have C : Hid (Calls Tryd.prog 21 #[.int .i64 (P : Int), .int .i64 1] w fun e w' => ∃ v, e = .returned (.tuple #[.agg #[.int .i64 (P : Int), .int .i64 1, v], .int .i64 0]) ∧ Sl w' v [0] ∧ Below w.heap.size w w') := (Fd.least_any (P : Int) 1 w hT).mono (by
    rintro e w' ⟨q, d, v, l, z, rfl, hs, hL, hb⟩
    obtain ⟨rfl, rfl, rfl, rfl⟩ := least_one h60 hp hL
    exact ⟨_, rfl, hs, hb⟩)
  have HS : Hid (∀ (v : Value) (W : World), Below w.heap.size w W → Sl W v [0] → Calls Tryd.prog 22 #[.agg #[.int .i64 (P : Int), .int .i64 1, v]] W fun e w' => ∃ x, e = .returned (.tuple #[x, .int .i64 0]) ∧ Sl w' x ((paL P).map Int.ofNat) ∧ Below W.heap.size W w') := fun v W b hl => Sq_low P v W h60 hp h4 (hT.below b) hl
  have m1 : (P : Int) % 4 = 3 := by omega
  have m2 : (P : Int).tmod 4 = 3 := by rw [Int.tmod_eq_emod_of_nonneg (by omega)]; exact m1
  generalize (paL P).map Int.ofNat = L at *
  clear hp h4 hT
  go_enter Tryd.func9, Tryd.ntmps9
  go_wp2_with (first
    | (go_at_call 21; refine C.out.mono ?_; rintro e w1 ⟨v, rfl, hv, hb⟩; clear C; have C2 := HS.out v (w1.alloc (.cells #[.int .i64 (P : Int), .int .i64 1, v] 24)) (Below.next hb (balloc _ _)) (hv.below (balloc _ _)); have HB1 : Hid (Below w.heap.size w (w1.alloc (.cells #[.int .i64 (P : Int), .int .i64 1, v] 24))) := Below.next hb (balloc _ _); obtain ⟨va, vc, hve, _⟩ := hv; subst hve; have hFc := (Fd.FB.made w1 (P : Int) 1 (.slice va 1 vc)).cells; clear HS hb)
    | (go_at_call 22; refine C2.mono ?_; rintro e w2 ⟨x, rfl, hx, hb⟩; clear C2; have HX : Hid (Sl w2 x L) := hx; have HB2 : Hid (Below w.heap.size w w2) := Below.next HB1.out hb; clear hb hx)
    | go_in)
  go_ret2
  exact ⟨x, rfl, HX.out, HB2.out⟩

end Go.Proofs.YtogdcjlgddleaaaDoor

namespace Go.Proofs.YtogdcjlgddleaaaDoor
open Go.RowKit

/-- Is a number a square of one of the first k? -/
def sqA (p x k : Nat) : Bool := (List.range k).any fun y => decide (1 ≤ y) && (y * y % p == x)
theorem sqA_one (p x : Nat) : sqA p x 1 = false := by simp [sqA, List.range_succ]
theorem sqA_up {p x k : Nat} (hk : 1 ≤ k) : sqA p x (k + 1) = (sqA p x k || (k * k % p == x)) := by
  unfold sqA
  rw [List.range_succ, List.any_append]
  simp [hk]
theorem sqA_mono {p x k : Nat} (hk : k ≤ p) (h : sqA p x k = true) : sqA p x p = true := by
  unfold sqA at h ⊢
  obtain ⟨s, hs, e⟩ := List.any_eq_true.1 h
  exact List.any_eq_true.2 ⟨s, List.mem_range.2 (Nat.lt_of_lt_of_le (List.mem_range.1 hs) hk), e⟩
def paT (p k : Nat) : List Nat := (List.range k).filter fun x => decide (1 ≤ x) && sqA p x p
theorem paT_all (p : Nat) : paT p p = paL p := rfl
theorem paT_one (p : Nat) : paT p 1 = [] := by simp [paT, List.range_succ]
theorem paT_up {p k : Nat} (hk : 1 ≤ k) : paT p (k + 1) = paT p k ++ if sqA p k p = true then [k] else [] := by
  unfold paT
  rw [ran_up]
  congr 1
  simp [hk]
theorem paT_len (p k : Nat) : (paT p k).length ≤ k := Nat.le_trans (List.length_filter_le _ _) (by simp)
set_option maxHeartbeats 4000000 in
theorem PaleyOf_far (p : Int) (w : World) (h : p < 1 ∨ 60 < p) : Calls Tryd.prog 10 #[.int .i64 p] w fun e w' => e = .returned (.tuple #[.slice none 0 0, .int .i64 1]) ∧ Below w.heap.size w w' := by
  by_cases h1 : p < 1
  · have d1 : decide (p < 1) = true := decide_eq_true h1
    clear h h1
    go_enter Tryd.func10, Tryd.ntmps10
    go_wp2
    go_ret2
    exact ⟨rfl, Below.refl _ _⟩
  · have d1 : decide (p < 1) = false := decide_eq_false h1
    have h2 : 60 < p := by omega
    have d2 : decide (60 < p) = true := decide_eq_true h2
    clear h h1 h2
    go_enter Tryd.func10, Tryd.ntmps10
    go_wp2
    go_ret2
    exact ⟨rfl, Below.refl _ _⟩
set_option maxHeartbeats 4000000 in
theorem PaleyOf_none (P : Nat) (w : World) (h1 : 1 ≤ P) (h60 : P ≤ 60) (h : Fd.isPrimeB (P : Int) = false ∨ P % 4 ≠ 3) : Calls Tryd.prog 10 #[.int .i64 (P : Int)] w fun e w' => e = .returned (.tuple #[.slice none 0 0, .int .i64 4]) ∧ Below w.heap.size w w' := by
  have d1 : decide ((P : Int) < 1) = false := by simp; omega
  have d2 : decide (60 < (P : Int)) = false := by simp; omega
  have C : Hid (Calls Tryd.prog 23 #[.int .i64 (P : Int)] w fun e w' => e = .returned (.bool (Fd.isPrimeB (P : Int))) ∧ w' = w) := Fd.isPrimeRef_any (P : Int) w (by omega)
  cases hp : Fd.isPrimeB (P : Int)
  · rw [hp] at C
    clear h hp
    go_enter Tryd.func10, Tryd.ntmps10
    go_wp2_with (first
      | (go_at_call 23; refine C.out.mono ?_; rintro e w1 ⟨rfl, rfl⟩; clear C)
      | go_in)
    go_ret2
    exact ⟨rfl, Below.refl _ _⟩
  · rw [hp] at C
    have h4 : P % 4 ≠ 3 := by
      rcases h with h | h
      · rw [hp] at h; cases h
      · exact h
    obtain ⟨r, Hr⟩ : ∃ r, Hid (P % 4 = r) := ⟨_, rfl⟩
    have m1 : (P : Int) % 4 = (r : Int) := by rw [← Hr.out]; simp
    have m2 : (P : Int).tmod 4 = (r : Int) := by rw [Int.tmod_eq_emod_of_nonneg (by omega)]; exact m1
    have e1 : ¬ (r : Int) = 3 := by have := Hr.out; omega
    have e2 : ((r : Int) != 3) = true := by simpa using e1
    clear h hp h4
    go_enter Tryd.func10, Tryd.ntmps10
    go_wp2_with (first
      | (go_at_call 23; refine C.out.mono ?_; rintro e w1 ⟨rfl, rfl⟩; clear C)
      | go_in)
    go_ret2
    exact ⟨rfl, Below.refl _ _⟩
set_option maxRecDepth 100000 in
set_option maxHeartbeats 8000000 in
theorem PaleyOf_ok (P : Nat) (w : World) (h1 : 1 ≤ P) (h60 : P ≤ 60) (hp : Fd.isPrimeB (P : Int) = true) (h4 : P % 4 = 3) : Calls Tryd.prog 10 #[.int .i64 (P : Int)] w fun e w' => ∃ x, e = .returned (.tuple #[x, .int .i64 0]) ∧ ORow w' w.heap.size x (paL P) ∧ Below w.heap.size w w' := by
  have d1 : decide ((P : Int) < 1) = false := by simp; omega
  have d2 : decide (60 < (P : Int)) = false := by simp; omega
  have C : Hid (Calls Tryd.prog 23 #[.int .i64 (P : Int)] w fun e w' => e = .returned (.bool true) ∧ w' = w) := by
    have := Fd.isPrimeRef_any (P : Int) w (by omega)
    rw [hp] at this
    exact this
  have m1 : (P : Int) % 4 = 3 := by omega
  have m2 : (P : Int).tmod 4 = 3 := by rw [Int.tmod_eq_emod_of_nonneg (by omega)]; exact m1
  have HU : Hid (∀ k, 1 ≤ k → paT P (k + 1) = paT P k ++ if sqA P k P = true then [k] else []) := fun k h => paT_up h
  have HL : Hid (∀ k, (paT P k).length ≤ k) := paT_len P
  have H1 : Hid (paT P 1 = []) := paT_one P
  have HA : Hid (paT P P = paL P) := paT_all P
  have HM0 : Hid (∀ x, sqA P x 1 = false) := sqA_one P
  have HMu : Hid (∀ x k, 1 ≤ k → sqA P x (k + 1) = (sqA P x k || (k * k % P == x))) := fun x k h => sqA_up h
  have HMm : Hid (∀ x k, k ≤ P → sqA P x k = true → sqA P x P = true) := fun x k h1 h2 => sqA_mono h1 h2
  obtain ⟨R, HR⟩ : ∃ R, Hid (paL P = R) := ⟨_, rfl⟩
  rw [HR.out] at HA ⊢
  obtain ⟨i3, hi3, hz0, hz1, hz2⟩ := info3
  obtain ⟨g, Hg⟩ : ∃ g, Hid (w.heap.size = g) := ⟨_, rfl⟩
  rw [Hg.out]
  have hgw : w.heap.size = g := Hg.out
  have hv0 : (P : Int) ≠ 0 := by omega
  have hw4 : ¬ P = 0 := by omega
  clear hp h4
  go_enter Tryd.func10, Tryd.ntmps10
  go_wp2_with (first
    | (go_at_call 23; refine C.out.mono ?_; rintro e w1 ⟨rfl, rfl⟩; clear C)
    | go_in)
  go_loopw [5, 6] (fun ov tv wr => ∃ t : Nat, tv = .int .i64 (t : Int) ∧ 1 ≤ t ∧ (t ≤ P ∨ t = 1) ∧ ORow wr g ov (paT P t) ∧ Below g w1 wr) (fun _ tv _ => (P - intOf tv).toNat)
  case atStart => exact ⟨1, rfl, by omega, .inr rfl, by rw [H1.out]; exact World.ownsRow_nil _ _ _ _, by rw [← hgw]; exact Below.refl _ _⟩
  case round =>
    clear H1 m1 m2
    obtain ⟨t, rfl, ht1, htv, hown, hB⟩ := hrel
    have hgs : g ≤ wr.heap.size := by rw [← hgw]; exact hB.size
    by_cases hlt : t < P
    · have hdi : decide ((t : Int) < (P : Int)) = true := by simp; omega
      have hii : (t : Int) < (P : Int) := by omega
      have hU := HU.out t ht1
      have hL := HL.out t
      obtain ⟨l, Hl⟩ : ∃ l, Hid (paT P t = l) := ⟨_, rfl⟩
      rw [Hl.out] at hU hL hown
      obtain ⟨A, HAA⟩ : ∃ A : Nat → Bool, Hid (∀ k, sqA P t k = A k) := ⟨fun k => sqA P t k, fun _ => rfl⟩
      have HM0' : Hid (A 1 = false) := by show _ = _; rw [← HAA.out]; exact HM0.out t
      have HMu' : Hid (∀ k, 1 ≤ k → A (k + 1) = (A k || (k * k % P == t))) := fun k h => by rw [← HAA.out, ← HAA.out]; exact HMu.out t k h
      have HMm' : Hid (∀ k, k ≤ P → A k = true → A P = true) := fun k h1 h2 => by rw [← HAA.out] at h2 ⊢; exact HMm.out t k h1 h2
      rw [HAA.out] at hU
      have HUU : Hid (paT P (t + 1) = l ++ if A P = true then [t] else []) := hU
      unfold ORow at hown
      obtain ⟨oa, oc, rfl⟩ := own_form hown
      clear hU HU HL HA Hl HM0 HMu HMm HAA
      go_wp2
      go_loopw [7, 8] (fun bv sv wr' => ∃ (s : Nat) (b : Bool), sv = .int .i64 (s : Int) ∧ bv = .bool b ∧ 1 ≤ s ∧ (s ≤ P ∨ s = 1) ∧ Hid (A s = b) ∧ wr' = wr) (fun _ sv _ => (P - intOf sv).toNat)
      case atStart => exact ⟨1, false, rfl, rfl, by omega, .inr rfl, HM0', rfl⟩
      case round =>
        clear HM0'
        obtain ⟨s, b, rfl, rfl, hs1, hs, HAs, rfl⟩ := hrel
        by_cases hin : s < P ∧ b = false
        · obtain ⟨hsv, rfl⟩ := hin
          have hds : decide ((s : Int) < (P : Int)) = true := by simp; omega
          have hsi : (s : Int) < (P : Int) := by omega
          have hA1 := HMu'.out s hs1
          rw [HAs.out, Bool.false_or] at hA1
          obtain ⟨m, hm⟩ : ∃ m, s * s = m := ⟨_, rfl⟩
          have hmi : (s : Int) * (s : Int) = (m : Int) := by rw [← hm]; simp
          have hmb : m ≤ 60 * 60 := by rw [← hm]; exact Nat.mul_le_mul (by omega) (by omega)
          rw [hm] at hA1
          obtain ⟨r, Hr⟩ : ∃ r, Hid (m % P = r) := ⟨_, rfl⟩
          have m1 : (m : Int) % (P : Int) = (r : Int) := by rw [← Hr.out]; simp
          have m2 : (m : Int).tmod (P : Int) = (r : Int) := by rw [Int.tmod_eq_emod_of_nonneg (by omega)]; exact m1
          rw [Hr.out] at hA1
          have hq : ((r : Int) == (t : Int)) = (r == t) := by rw [Bool.eq_iff_iff]; simp; omega
          obtain ⟨q, Hq⟩ : ∃ q, Hid ((r == t) = q) := ⟨_, rfl⟩
          rw [Hq.out] at hA1 hq
          have HA1 : Hid (A (s + 1) = q) := hA1
          clear hA1 HMu' HMm' HUU HAs hm
          go_wp2
          go_roundw
          case rel => exact ⟨s + 1, q, by go_num, by first | rfl | simp [hq], by omega, .inl (by omega), HA1, by first | rfl | trivial⟩
          case measure => simp [intOf]; omega
        · have hsP : s ≤ P := by omega
          have hfin : A P = b := by
            cases hb : b
            · have : ¬ s < P := fun h => hin ⟨h, hb⟩
              obtain rfl : s = P := by omega
              rw [HAs.out, hb]
            · exact HMm'.out s hsP (by rw [HAs.out, hb])
          rw [hfin] at HUU
          have hout : ¬ s < P ∨ (s < P ∧ b = true) := by
            by_cases h : s < P
            · refine .inr ⟨h, ?_⟩
              cases b
              · exact (hin ⟨h, rfl⟩).elim
              · rfl
            · exact .inl h
          clear hin hfin HMu' HMm' HAs
          cases b
          · have hds2 : ¬ s < P := by
              rcases hout with h | ⟨_, h⟩
              · exact h
              · cases h
            have hds : decide ((s : Int) < (P : Int)) = false := by simp; omega
            have hds3 : ¬ (s : Int) < (P : Int) := by omega
            have HU1 : Hid (paT P (t + 1) = l) := by show _ = _; rw [HUU.out]; simp
            clear hout HUU
            go_wp2
            go_roundw
            case rel => exact ⟨t + 1, by go_num, by omega, .inl (by omega), by rw [HU1.out]; exact hown, hB⟩
            case measure => simp [intOf]; omega
          · have HU1 : Hid (paT P (t + 1) = l ++ [t]) := by show _ = _; rw [HUU.out]; simp
            clear HUU
            rcases hout with hds2 | ⟨hds2, _⟩
            · have hds : decide ((s : Int) < (P : Int)) = false := by simp; omega
              have hds3 : ¬ (s : Int) < (P : Int) := by omega
              go_wp2_with (first
                | (at_builtin; refine wpList_append_own _ rfl _ _ 22 rfl g 3 i3 (.int .i64 0) 1 8 und22 hi3 hz0 hz1 hz2 rfl (by decide) _ _ _ rfl (hown.alloc _) ⟨wr.heap.size, 0, none⟩ 1 1 [.int .i64 (t : Int)] rfl rfl (fun j u hj => by (match j, hj with | 0, hj => simp at hj; subst hj; simp [Addr.add])) (fun u hu => by (simp at hu; subst hu; rfl)) (by (unfold maxLen; omega)) (by omega) (by (simp; omega)) ?_; intro v' w4 hown' hgrow _)
                | go_in)
              have hb4 : Below g w1 w4 := (hB.alloc (by omega) _).grown hgrow (by simp; omega) (fun k hk => (hown.lt k hk).1)
              have hown4 : w4.ownsRow g 3 1 v' (l.length + 1) (((l ++ [t]).map Int.ofNat).map (Value.int .i64)) := by simpa using hown'
              have hown5 : ORow w4 g v' (paT P (t + 1)) := by
                rw [HU1.out]
                unfold ORow
                rw [List.length_append]
                exact hown4
              clear hown' hown4 hgrow hown hB
              go_roundw
              case rel => exact ⟨t + 1, by go_num, by omega, .inl (by omega), hown5, hb4⟩
              case measure => simp [intOf]; omega
            · have hds : decide ((s : Int) < (P : Int)) = true := by simp; omega
              have hds3 : (s : Int) < (P : Int) := by omega
              go_wp2_with (first
                | (at_builtin; refine wpList_append_own _ rfl _ _ 22 rfl g 3 i3 (.int .i64 0) 1 8 und22 hi3 hz0 hz1 hz2 rfl (by decide) _ _ _ rfl (hown.alloc _) ⟨wr.heap.size, 0, none⟩ 1 1 [.int .i64 (t : Int)] rfl rfl (fun j u hj => by (match j, hj with | 0, hj => simp at hj; subst hj; simp [Addr.add])) (fun u hu => by (simp at hu; subst hu; rfl)) (by (unfold maxLen; omega)) (by omega) (by (simp; omega)) ?_; intro v' w4 hown' hgrow _)
                | go_in)
              have hb4 : Below g w1 w4 := (hB.alloc (by omega) _).grown hgrow (by simp; omega) (fun k hk => (hown.lt k hk).1)
              have hown4 : w4.ownsRow g 3 1 v' (l.length + 1) (((l ++ [t]).map Int.ofNat).map (Value.int .i64)) := by simpa using hown'
              have hown5 : ORow w4 g v' (paT P (t + 1)) := by
                rw [HU1.out]
                unfold ORow
                rw [List.length_append]
                exact hown4
              clear hown' hown4 hgrow hown hB
              go_roundw
              case rel => exact ⟨t + 1, by go_num, by omega, .inl (by omega), hown5, hb4⟩
              case measure => simp [intOf]; omega
    · have hdi : decide ((t : Int) < (P : Int)) = false := by simp; omega
      obtain rfl : t = P := by omega
      rw [HA.out] at hown
      go_wp2
      go_ret2
      exact ⟨_, rfl, hown, hB⟩

end Go.Proofs.YtogdcjlgddleaaaDoor

/- The walk of the document's SingerOf. -/
/- The walk of Singer. -/
/- The walk of traceless. -/
namespace Go.Proofs.YtogdcjlgddleaaaDoor
open Go.RowKit

set_option maxRecDepth 100000 in
set_option maxHeartbeats 8000000 in
theorem traceless_any (P K n : Nat) (l : List Int) (v : Value) (w : World) (hT : Fd.Tab w) (hl : Sl w v l) (hG : Fd.GoodF P K l) (hn : n ≤ 60) :
    Calls Tryd.prog 26 #[.agg #[.int .i64 (P : Int), .int .i64 (K : Int), v], .int .i64 (n : Int)] w fun e w' => ∃ (R : Nat) (x : Value), e = .returned x ∧ Fd.RootIs P K (Fd.monL l) R ∧ ORow w' w.heap.size x (sgL P K (Fd.monL l) R n) ∧ Below w.heap.size w w' := by
  have hll : l.length ≤ maxLen := by rw [hG.len]; have := hG.le6; unfold maxLen; omega
  have HR : Hid (∀ W, Below w.heap.size w W → Calls Tryd.prog 41 #[.agg #[.int .i64 (P : Int), .int .i64 (K : Int), v]] W fun e w' => ∃ R : Nat, e = .returned (.tuple #[.int .i64 (R : Int), .int .i64 0]) ∧ Fd.RootIs P K (Fd.monL l) R ∧ Below W.heap.size W w') := fun W b => RootG P K l v W (hT.below b) (hl.below b) hG
  have HP : Hid (∀ (R i : Nat) (W : World), Fd.RootIs P K (Fd.monL l) R → i ≤ 60 → Below w.heap.size w W → Calls Tryd.prog 42 #[.agg #[.int .i64 (P : Int), .int .i64 (K : Int), v], .int .i64 (R : Int), .int .i64 (i : Int)] W fun e w' => e = .returned (.tuple #[.int .i64 (Fd.powQ P K (Fd.monL l) R i : Int), .int .i64 0]) ∧ Below W.heap.size W w') := fun R i W hR hi b =>
    Fd.PowG P K R (i : Int) l v W (hT.below b) (hl.below b) hll hG (good_root hG hR) (by omega) (by omega) _ (by show _ = _; rw [Int.toNat_natCast])
  have HTr : Hid (∀ (R i : Nat) (W : World), Below w.heap.size w W → Calls Tryd.prog 43 #[.agg #[.int .i64 (P : Int), .int .i64 (K : Int), v], .int .i64 (Fd.powQ P K (Fd.monL l) R i : Int)] W fun e w' => e = .returned (.tuple #[.int .i64 (Fd.trQ P K (Fd.monL l) K 0 (Fd.powQ P K (Fd.monL l) R i) : Int), .int .i64 0]) ∧ Below W.heap.size W w') := fun R i W b => by
    refine (Fd.TraceG P K (Fd.powQ P K (Fd.monL l) R i) l v W (hT.below b) (hl.below b) hll hG (Fd.powQ_lt hG.field.toRing1 R i)).mono ?_
    rintro e w' ⟨t, rfl, ht, hb⟩
    rw [ht.out]
    exact ⟨rfl, hb⟩
  obtain ⟨A, HA⟩ : ∃ A : Nat → Nat → Nat, Hid (∀ R i, Fd.powQ P K (Fd.monL l) R i = A R i) := ⟨fun R i => Fd.powQ P K (Fd.monL l) R i, fun _ _ => rfl⟩
  obtain ⟨B, HB⟩ : ∃ B : Nat → Nat → Nat, Hid (∀ R i, Fd.trQ P K (Fd.monL l) K 0 (Fd.powQ P K (Fd.monL l) R i) = B R i) := ⟨fun R i => Fd.trQ P K (Fd.monL l) K 0 (Fd.powQ P K (Fd.monL l) R i), fun _ _ => rfl⟩
  have HP2 : Hid (∀ (R i : Nat) (W : World), Fd.RootIs P K (Fd.monL l) R → i ≤ 60 → Below w.heap.size w W → Calls Tryd.prog 42 #[.agg #[.int .i64 (P : Int), .int .i64 (K : Int), v], .int .i64 (R : Int), .int .i64 (i : Int)] W fun e w' => e = .returned (.tuple #[.int .i64 (A R i : Int), .int .i64 0]) ∧ Below W.heap.size W w') := fun R i W hR hi b => by rw [← HA.out]; exact HP.out R i W hR hi b
  have HT2 : Hid (∀ (R i : Nat) (W : World), Below w.heap.size w W → Calls Tryd.prog 43 #[.agg #[.int .i64 (P : Int), .int .i64 (K : Int), v], .int .i64 (A R i : Int)] W fun e w' => e = .returned (.tuple #[.int .i64 (B R i : Int), .int .i64 0]) ∧ Below W.heap.size W w') := fun R i W b => by rw [← HA.out, ← HB.out]; exact HTr.out R i W b
  obtain ⟨F, HF⟩ : ∃ F : Nat → Nat → List Nat, Hid (∀ R k, sgL P K (Fd.monL l) R k = F R k) := ⟨fun R k => sgL P K (Fd.monL l) R k, fun _ _ => rfl⟩
  have HU : Hid (∀ R k, F R (k + 1) = F R k ++ if (B R k == 0) = true then [k] else []) := fun R k => by rw [← HF.out, ← HF.out, ← HB.out]; exact ran_up _ k
  have HLn : Hid (∀ R k, (F R k).length ≤ k) := fun R k => by rw [← HF.out]; exact Nat.le_trans (List.length_filter_le _ _) (by simp)
  have HF0 : Hid (∀ R, F R 0 = []) := fun R => by rw [← HF.out]; rfl
  have HFin : Hid (∀ R, F R n = sgL P K (Fd.monL l) R n) := fun R => by rw [HF.out]
  obtain ⟨a, c, rfl, _⟩ := id hl
  obtain ⟨i3, hi3, hz0, hz1, hz2⟩ := info3
  have hF0 := Fd.FB.made w (P : Int) (K : Int) (.slice a l.length c)
  have hb0 := balloc w (.cells #[.int .i64 (P : Int), .int .i64 (K : Int), .slice a l.length c] 24)
  obtain ⟨W0, HW0⟩ : ∃ W0, Hid (w.alloc (.cells #[.int .i64 (P : Int), .int .i64 (K : Int), .slice a l.length c] 24) = W0) := ⟨_, rfl⟩
  obtain ⟨s1, Hs1⟩ : ∃ s1, Hid (w.heap.size + 1 = s1) := ⟨_, rfl⟩
  have hsz : W0.heap.size = s1 := by rw [← HW0.out, ← Hs1.out]; simp
  have hFc := hF0.cells
  have HFB : Hid (∀ W, Below s1 W0 W → Fd.FB W w.heap.size P K (.slice a l.length c)) := fun W b => by rw [HW0.out] at hF0; exact hF0.below (by rw [hsz]; exact b)
  have HBW : Hid (∀ W, Below s1 W0 W → Below w.heap.size w W) := fun W b => by rw [HW0.out] at hb0; exact hb0.trans (b.mono (by have := Hs1.out; omega))
  generalize l.length = ln at *
  have hsl : w.heap.size ≤ s1 := by have := Hs1.out; omega
  clear hF0 hb0 hG hT hl hll HP HTr HA HB HF
  go_enter Tryd.func26, Tryd.ntmps26
  go_wp2_with fail
  rw [HW0.out]
  refine (HR.out W0 (HBW.out _ (Below.refl _ _))).mono ?_
  rintro e w1 ⟨R, rfl, hRt, hb1⟩
  have hB1 : Below s1 W0 w1 := by rw [hsz] at hb1; exact hb1
  have HRt : Hid (Fd.RootIs P K (Fd.monL l) R) := hRt
  clear HR hFc hb1 hRt
  go_wp2
  go_loopw [7, 19] (fun ov iv wr => ∃ i : Nat, iv = .int .i64 (i : Int) ∧ i ≤ n ∧ ORow wr s1 ov (F R i) ∧ Below s1 W0 wr) (fun _ iv _ => (n - intOf iv).toNat)
  case atStart => exact ⟨0, rfl, by omega, by rw [HF0.out]; exact World.ownsRow_nil _ _ _ _, hB1⟩
  case round =>
    clear hB1 HF0
    obtain ⟨i, rfl, hi, hown, hB⟩ := hrel
    have hgs : s1 ≤ wr.heap.size := by rw [← hsz]; exact hB.size
    by_cases hlt : i < n
    · have hii : (i : Int) < n := by omega
      have hdec : decide ((i : Int) < n) = true := by simp; omega
      have C2 := HP2.out R i wr HRt.out (by omega) (HBW.out _ hB)
      have HT3 : Hid (∀ W, Below w.heap.size w W → Calls Tryd.prog 43 #[.agg #[.int .i64 (P : Int), .int .i64 (K : Int), .slice a ln c], .int .i64 (A R i : Int)] W fun e w' => e = .returned (.tuple #[.int .i64 (B R i : Int), .int .i64 0]) ∧ Below W.heap.size W w') := HT2.out R i
      have hU := HU.out R i
      have hL := HLn.out R i
      have hFc := (HFB.out _ hB).cells
      obtain ⟨ar, Har⟩ : ∃ ar, Hid (A R i = ar) := ⟨_, rfl⟩
      obtain ⟨br, Hbr⟩ : ∃ br, Hid (B R i = br) := ⟨_, rfl⟩
      obtain ⟨ll, Hll⟩ : ∃ ll, Hid (F R i = ll) := ⟨_, rfl⟩
      rw [Har.out] at C2 HT3
      rw [Hbr.out] at HT3 hU
      rw [Hll.out] at hU hL hown
      unfold ORow at hown
      obtain ⟨oa, oc, rfl⟩ := own_form hown
      have HUU : Hid (F R (i + 1) = ll ++ if (br == 0) = true then [i] else []) := hU
      clear hU HP2 HT2 HU HLn HFin
      go_wp2_with fail
      refine C2.mono ?_
      rintro e w2 ⟨rfl, hb2⟩
      have hB2 : Below s1 W0 w2 := hB.trans (hb2.mono hgs)
      have hown2 := own_keep hown fun b _ hb => hb2.block b hb
      have C3 := HT3.out _ (HBW.out _ hB2)
      have hgs2 : s1 ≤ w2.heap.size := by rw [← hsz]; exact hB2.size
      clear C2 HT3 hFc hb2 hown hB
      have hFc := (HFB.out _ hB2).cells
      go_wp2_with fail
      refine C3.mono ?_
      rintro e w3 ⟨rfl, hb3⟩
      have hB3 : Below s1 W0 w3 := hB2.trans (hb3.mono hgs2)
      have hown3 := own_keep hown2 fun b _ hb => hb3.block b hb
      have hgs3 : s1 ≤ w3.heap.size := by rw [← hsz]; exact hB3.size
      clear C3 hFc hb3 hown2 hB2
      by_cases hbr : br = 0
      · subst hbr
        have HU1 : Hid (F R (i + 1) = ll ++ [i]) := by show _ = _; rw [HUU.out]; simp
        clear HUU
        go_wp2_with (first
          | (at_builtin; refine wpList_append_own _ rfl _ _ 22 rfl s1 3 i3 (.int .i64 0) 1 8 und22 hi3 hz0 hz1 hz2 rfl (by decide) _ _ _ rfl (hown3.alloc _) ⟨w3.heap.size, 0, none⟩ 1 1 [.int .i64 (i : Int)] rfl rfl (fun j u hj => by (match j, hj with | 0, hj => simp at hj; subst hj; simp [Addr.add])) (fun u hu => by (simp at hu; subst hu; rfl)) (by (unfold maxLen; omega)) (by omega) (by (simp; omega)) ?_; intro v' w4 hown' hgrow _)
          | go_in)
        have hb4 : Below s1 W0 w4 := (hB3.alloc (by omega) _).grown hgrow (by simp; omega) (fun k hk => (hown3.lt k hk).1)
        have hown4 : w4.ownsRow s1 3 1 v' (ll.length + 1) (((ll ++ [i]).map Int.ofNat).map (Value.int .i64)) := by simpa using hown'
        have hown5 : ORow w4 s1 v' (F R (i + 1)) := by
          rw [HU1.out]
          unfold ORow
          rw [List.length_append]
          exact hown4
        clear hown' hown4 hgrow hown3 hB3
        go_roundw
        case rel => exact ⟨i + 1, by go_num, by omega, hown5, hb4⟩
        case measure => simp [intOf]; omega
      · have e1 : ¬ (br : Int) = 0 := by omega
        have e2 : ((br : Int) == 0) = false := by simpa using e1
        have HU1 : Hid (F R (i + 1) = ll) := by show _ = _; rw [HUU.out]; simp [hbr]
        clear HUU
        go_wp2
        go_roundw
        case rel => exact ⟨i + 1, by go_num, by omega, by rw [HU1.out]; exact hown3, hB3⟩
        case measure => simp [intOf]; omega
    · have hdec : decide ((i : Int) < n) = false := by simp; omega
      obtain rfl : i = n := by omega
      rw [HFin.out] at hown
      go_wp2
      go_ret
      exact ⟨R, _, rfl, HRt.out, own_low hown hsl, HBW.out _ hB⟩

end Go.Proofs.YtogdcjlgddleaaaDoor

namespace Go.Proofs.YtogdcjlgddleaaaDoor
open Go.RowKit

theorem CheckF (p k z : Int) (l : List Int) (v : Value) (w : World) (hT : Fd.Tab w) (hl : Sl w v l) (hll : l.length ≤ maxLen) (hF : Fd.FaultIs p k l z) :
    Calls Tryd.prog 24 #[.agg #[.int .i64 p, .int .i64 k, v]] w fun e w' => e = .returned (.int .i64 z) ∧ Below w.heap.size w w' := by
  refine (Fd.Check_any p k l v w hT hl hll).mono ?_
  rintro e w' ⟨z', rfl, h, hb⟩
  rw [h.one hF]
  exact ⟨rfl, hb⟩
set_option maxRecDepth 100000 in
set_option maxHeartbeats 4000000 in
theorem Singer_bad (p k z : Int) (l : List Int) (v : Value) (w : World) (hT : Fd.Tab w) (hl : Sl w v l) (hll : l.length ≤ maxLen) (hF : Fd.FaultIs p k l z) (hz : z ≠ 0) :
    Calls Tryd.prog 12 #[.agg #[.int .i64 p, .int .i64 k, v]] w fun e w' => e = .returned (.tuple #[.int .i64 0, .slice none 0 0, .int .i64 z]) ∧ Below w.heap.size w w' := by
  obtain ⟨a, c, rfl, _⟩ := id hl
  have hb0 := balloc w (.cells #[.int .i64 p, .int .i64 k, .slice a l.length c] 24)
  have C := CheckF p k z l _ _ (hT.below hb0) (hl.below hb0) hll hF
  have hFc := (Fd.FB.made w p k (.slice a l.length c)).cells
  generalize l.length = ln at *
  have hz2 : (z != 0) = true := by simpa using hz
  clear hT hl hll hF
  go_enter Tryd.func12, Tryd.ntmps12
  go_wp2_with (first
    | (go_at_call 24; refine C.mono ?_; rintro e w1 ⟨rfl, hb⟩; clear C; have HB : Hid (Below w.heap.size w w1) := Below.next hb0 hb; clear hb hb0 hFc)
    | go_in)
  go_ret3
  exact ⟨rfl, HB.out⟩
set_option maxRecDepth 100000 in
set_option maxHeartbeats 4000000 in
theorem Singer_none (P K : Nat) (l : List Int) (v : Value) (w : World) (hT : Fd.Tab w) (hl : Sl w v l) (hll : l.length ≤ maxLen) (hG : Fd.GoodF P K l) (hK : K < 3) :
    Calls Tryd.prog 12 #[.agg #[.int .i64 (P : Int), .int .i64 (K : Int), v]] w fun e w' => e = .returned (.tuple #[.int .i64 0, .slice none 0 0, .int .i64 4]) ∧ Below w.heap.size w w' := by
  obtain ⟨a, c, rfl, _⟩ := id hl
  have hb0 := balloc w (.cells #[.int .i64 (P : Int), .int .i64 (K : Int), .slice a l.length c] 24)
  have C := CheckF P K 0 l _ _ (hT.below hb0) (hl.below hb0) hll hG.fault
  have hF0 := Fd.FB.made w (P : Int) (K : Int) (.slice a l.length c)
  have hFc := hF0.cells
  generalize l.length = ln at *
  have d1 : decide ((K : Int) < 3) = true := by simp; omega
  have d2 : (K : Int) < 3 := by omega
  clear hT hl hll hG
  go_enter Tryd.func12, Tryd.ntmps12
  go_wp2_with (first
    | (go_at_call 24; refine C.mono ?_; rintro e w1 ⟨rfl, hb⟩; clear C; have HB : Hid (Below w.heap.size w w1) := Below.next hb0 hb; clear hFc; have hFc := (hF0.below hb).cells; clear hb hb0 hF0)
    | go_in)
  go_ret3
  exact ⟨rfl, HB.out⟩
set_option maxRecDepth 100000 in
set_option maxHeartbeats 4000000 in
theorem Singer_full (P K : Nat) (l : List Int) (v : Value) (w : World) (hT : Fd.Tab w) (hl : Sl w v l) (hll : l.length ≤ maxLen) (hG : Fd.GoodF P K l) (hK : 3 ≤ K) (hr : 60 < rep P K) :
    Calls Tryd.prog 12 #[.agg #[.int .i64 (P : Int), .int .i64 (K : Int), v]] w fun e w' => e = .returned (.tuple #[.int .i64 0, .slice none 0 0, .int .i64 3]) ∧ Below w.heap.size w w' := by
  obtain ⟨a, c, rfl, _⟩ := id hl
  have hb0 := balloc w (.cells #[.int .i64 (P : Int), .int .i64 (K : Int), .slice a l.length c] 24)
  have C := CheckF P K 0 l _ _ (hT.below hb0) (hl.below hb0) hll hG.fault
  have HD : Hid (∀ W, Calls Tryd.prog 25 #[.agg #[.int .i64 (P : Int), .int .i64 (K : Int), .slice a l.length c]] W fun e w' => e = .returned (.int .i64 (rep P K : Int)) ∧ Below W.heap.size W w') := fun W => directions_any P K _ W hG.field.two hG.le61 hG.le6 hG.le64 ⟨_, _, _, rfl⟩
  have hF0 := Fd.FB.made w (P : Int) (K : Int) (.slice a l.length c)
  have hFc := hF0.cells
  generalize l.length = ln at *
  generalize rep P K = r at *
  have d1 : decide ((K : Int) < 3) = false := by simp; omega
  have d2 : ¬ (K : Int) < 3 := by omega
  have d3 : decide (60 < (r : Int)) = true := by simp; omega
  have d4 : 60 < (r : Int) := by omega
  clear hT hl hll hG
  go_enter Tryd.func12, Tryd.ntmps12
  go_wp2_with (first
    | (go_at_call 24; refine C.mono ?_; rintro e w1 ⟨rfl, hb⟩; clear C; have HB : Hid (Below w.heap.size w w1) := Below.next hb0 hb; clear hFc; have hF1 := hF0.below hb; have hFc := hF1.cells; clear hb hb0 hF0)
    | (go_at_call 25; refine (HD.out _).mono ?_; rintro e w2 ⟨rfl, hb⟩; clear HD; have HB2 : Hid (Below w.heap.size w w2) := Below.next HB.out hb; clear hb hFc hF1)
    | go_in)
  go_ret3
  exact ⟨rfl, HB2.out⟩
set_option maxRecDepth 100000 in
set_option maxHeartbeats 4000000 in
theorem Singer_ok (P K : Nat) (l : List Int) (v : Value) (w : World) (hT : Fd.Tab w) (hl : Sl w v l) (hll : l.length ≤ maxLen) (hG : Fd.GoodF P K l) (hK : 3 ≤ K) (hr : rep P K ≤ 60) :
    Calls Tryd.prog 12 #[.agg #[.int .i64 (P : Int), .int .i64 (K : Int), v]] w fun e w' => ∃ (R : Nat) (x : Value), e = .returned (.tuple #[.int .i64 (rep P K : Int), x, .int .i64 0]) ∧ Fd.RootIs P K (Fd.monL l) R ∧ ORow w' 0 x (sgL P K (Fd.monL l) R (rep P K)) ∧ Below w.heap.size w w' := by
  obtain ⟨a, c, rfl, _⟩ := id hl
  have hb0 := balloc w (.cells #[.int .i64 (P : Int), .int .i64 (K : Int), .slice a l.length c] 24)
  have C := CheckF P K 0 l _ _ (hT.below hb0) (hl.below hb0) hll hG.fault
  have HD : Hid (∀ W, Calls Tryd.prog 25 #[.agg #[.int .i64 (P : Int), .int .i64 (K : Int), .slice a l.length c]] W fun e w' => e = .returned (.int .i64 (rep P K : Int)) ∧ Below W.heap.size W w') := fun W => directions_any P K _ W hG.field.two hG.le61 hG.le6 hG.le64 ⟨_, _, _, rfl⟩
  have HL : Hid (∀ W, Below w.heap.size w W → Calls Tryd.prog 26 #[.agg #[.int .i64 (P : Int), .int .i64 (K : Int), .slice a l.length c], .int .i64 (rep P K : Int)] W fun e w' => ∃ (R : Nat) (x : Value), e = .returned x ∧ Fd.RootIs P K (Fd.monL l) R ∧ ORow w' W.heap.size x (sgL P K (Fd.monL l) R (rep P K)) ∧ Below W.heap.size W w') := fun W b => traceless_any P K (rep P K) l _ W (hT.below b) (hl.below b) hG hr
  have hF0 := Fd.FB.made w (P : Int) (K : Int) (.slice a l.length c)
  have hFc := hF0.cells
  generalize l.length = ln at *
  obtain ⟨r, Hr⟩ : ∃ r, Hid (rep P K = r) := ⟨_, rfl⟩
  rw [Hr.out] at HD HL hr ⊢
  have d1 : decide ((K : Int) < 3) = false := by simp; omega
  have d2 : ¬ (K : Int) < 3 := by omega
  have d3 : decide (60 < (r : Int)) = false := by simp; omega
  have d4 : ¬ 60 < (r : Int) := by omega
  clear hT hl hll hG
  go_enter Tryd.func12, Tryd.ntmps12
  go_wp2_with (first
    | (go_at_call 24; refine C.mono ?_; rintro e w1 ⟨rfl, hb⟩; clear C; have HB : Hid (Below w.heap.size w w1) := Below.next hb0 hb; clear hFc; have hF1 := hF0.below hb; have hFc := hF1.cells; clear hb hb0 hF0)
    | (go_at_call 25; refine (HD.out _).mono ?_; rintro e w2 ⟨rfl, hb⟩; clear HD; have HB2 : Hid (Below w.heap.size w w2) := Below.next HB.out hb; clear hFc; have hF2 := hF1.below hb; have hFc := hF2.cells; clear hb hF1)
    | (go_at_call 26; refine (HL.out _ HB2.out).mono ?_; rintro e w3 ⟨R, x, rfl, hR, hx, hb⟩; clear HL; have HB3 : Hid (Below w.heap.size w w3) := Below.next HB2.out hb; have HX : Hid (Fd.RootIs P K (Fd.monL l) R ∧ ORow w3 0 x (sgL P K (Fd.monL l) R r)) := ⟨hR, own_low hx (Nat.zero_le _)⟩; clear hb hFc hF2 hR hx)
    | go_in)
  go_ret3
  exact ⟨R, x, rfl, HX.out.1, HX.out.2, HB3.out⟩

end Go.Proofs.YtogdcjlgddleaaaDoor

namespace Go.Proofs.YtogdcjlgddleaaaDoor
open Go.RowKit

theorem FaultF (p k z : Int) (l : List Int) (v : Value) (w : World) (hl : Sl w v l) (hF : Fd.FaultIs p k l z) :
    Calls Tryd.prog 27 #[.agg #[.int .i64 p, .int .i64 k, v]] w fun e w' => e = .returned (.int .i64 z) ∧ Below w.heap.size w w' := by
  refine (Fd.fault_any p k l v w hl).mono ?_
  rintro e w' ⟨z', rfl, h, hb⟩
  rw [h.one hF]
  exact ⟨rfl, hb⟩
theorem SizeF (P K : Nat) (l : List Int) (v : Value) (w : World) (hG : Fd.GoodF P K l) :
    Calls Tryd.prog 28 #[.agg #[.int .i64 (P : Int), .int .i64 (K : Int), v]] w fun e w' => e = .returned (.int .i64 ((P ^ K : Nat) : Int)) ∧ Below w.heap.size w w' := by
  refine (Fd.size_any (P : Int) K v w).mono ?_
  rintro e w' ⟨rfl, hb⟩
  rw [hG.ord]
  exact ⟨rfl, hb⟩
set_option maxRecDepth 100000 in
set_option maxHeartbeats 4000000 in
theorem SingerOf_bad (p k z : Int) (l : List Int) (v : Value) (w : World) (hl : Sl w v l) (hF : Fd.FaultIs p k l z) (hz : z ≠ 0) :
    Calls Tryd.prog 13 #[.agg #[.int .i64 p, .int .i64 k, v]] w fun e w' => e = .returned (.tuple #[.int .i64 0, .slice none 0 0, .int .i64 z]) ∧ Below w.heap.size w w' := by
  obtain ⟨a, c, rfl, _⟩ := id hl
  have hb0 := balloc w (.cells #[.int .i64 p, .int .i64 k, .slice a l.length c] 24)
  have C := FaultF p k z l _ _ (hl.below hb0) hF
  have hFc := (Fd.FB.made w p k (.slice a l.length c)).cells
  generalize l.length = ln at *
  have hz2 : (z != 0) = true := by simpa using hz
  clear hl hF
  go_enter Tryd.func13, Tryd.ntmps13
  go_wp2_with (first
    | (go_at_call 27; refine C.mono ?_; rintro e w1 ⟨rfl, hb⟩; clear C; have HB : Hid (Below w.heap.size w w1) := Below.next hb0 hb; clear hb hb0 hFc)
    | go_in)
  go_ret3
  exact ⟨rfl, HB.out⟩
set_option maxRecDepth 100000 in
set_option maxHeartbeats 4000000 in
theorem SingerOf_none (P K : Nat) (l : List Int) (v : Value) (w : World) (hl : Sl w v l) (hG : Fd.GoodF P K l) (hK : K < 3) :
    Calls Tryd.prog 13 #[.agg #[.int .i64 (P : Int), .int .i64 (K : Int), v]] w fun e w' => e = .returned (.tuple #[.int .i64 0, .slice none 0 0, .int .i64 4]) ∧ Below w.heap.size w w' := by
  obtain ⟨a, c, rfl, _⟩ := id hl
  have hb0 := balloc w (.cells #[.int .i64 (P : Int), .int .i64 (K : Int), .slice a l.length c] 24)
  have C := FaultF P K 0 l _ _ (hl.below hb0) hG.fault
  have hF0 := Fd.FB.made w (P : Int) (K : Int) (.slice a l.length c)
  have hFc := hF0.cells
  generalize l.length = ln at *
  have d1 : decide ((K : Int) < 3) = true := by simp; omega
  have d2 : (K : Int) < 3 := by omega
  clear hl hG
  go_enter Tryd.func13, Tryd.ntmps13
  go_wp2_with (first
    | (go_at_call 27; refine C.mono ?_; rintro e w1 ⟨rfl, hb⟩; clear C; have HB : Hid (Below w.heap.size w w1) := Below.next hb0 hb; clear hFc; have hFc := (hF0.below hb).cells; clear hb hb0 hF0)
    | go_in)
  go_ret3
  exact ⟨rfl, HB.out⟩
theorem rep_int {P K : Nat} (hP : 2 ≤ P) : (((P ^ K : Nat) : Int) - 1).tdiv ((P : Int) - 1) = (rep P K : Int) := by
  have h1 : 1 ≤ P ^ K := Nat.pow_pos (by omega)
  rw [show ((P ^ K : Nat) : Int) - 1 = ((P ^ K - 1 : Nat) : Int) by omega, show (P : Int) - 1 = ((P - 1 : Nat) : Int) by omega, ← rep_div hP]
  rw [Int.tdiv_eq_ediv_of_nonneg (by omega)]
  rfl
set_option maxRecDepth 100000 in
set_option maxHeartbeats 4000000 in
theorem SingerOf_full (P K : Nat) (l : List Int) (v : Value) (w : World) (hl : Sl w v l) (hG : Fd.GoodF P K l) (hK : 3 ≤ K) (hr : 60 < rep P K) :
    Calls Tryd.prog 13 #[.agg #[.int .i64 (P : Int), .int .i64 (K : Int), v]] w fun e w' => e = .returned (.tuple #[.int .i64 0, .slice none 0 0, .int .i64 3]) ∧ Below w.heap.size w w' := by
  have hP := hG.field.two
  have hP' := hG.le61
  have hq := rep_int (K := K) hP
  have hq' : (((P ^ K : Nat) : Int) - 1) / ((P : Int) - 1) = (rep P K : Int) := by rw [← hq, Int.tdiv_eq_ediv_of_nonneg (by have : 1 ≤ P ^ K := Nat.pow_pos (by omega); omega)]
  have hr63 := rep_le hP hG.le64
  have h64 := hG.le64
  have hq1 : 1 ≤ P ^ K := Nat.pow_pos (by omega)
  obtain ⟨a, c, rfl, _⟩ := id hl
  have hb0 := balloc w (.cells #[.int .i64 (P : Int), .int .i64 (K : Int), .slice a l.length c] 24)
  have C := FaultF P K 0 l _ _ (hl.below hb0) hG.fault
  have HD : Hid (∀ W, Calls Tryd.prog 28 #[.agg #[.int .i64 (P : Int), .int .i64 (K : Int), .slice a l.length c]] W fun e w' => e = .returned (.int .i64 ((P ^ K : Nat) : Int)) ∧ Below W.heap.size W w') := fun W => SizeF P K l _ W hG
  have hF0 := Fd.FB.made w (P : Int) (K : Int) (.slice a l.length c)
  have hFc := hF0.cells
  generalize l.length = ln at *
  generalize rep P K = r at *
  generalize P ^ K = Q at *
  have d1 : decide ((K : Int) < 3) = false := by simp; omega
  have d2 : ¬ (K : Int) < 3 := by omega
  have d3 : decide (60 < (r : Int)) = true := by simp; omega
  have d4 : 60 < (r : Int) := by omega
  have d5 : (P : Int) - 1 ≠ 0 := by omega
  have d6 : ¬ (P : Int) - 1 = 0 := by omega
  clear hl hG
  go_enter Tryd.func13, Tryd.ntmps13
  go_wp2_with fail
  refine C.mono ?_
  rintro e w1 ⟨rfl, hb⟩
  clear C hFc
  have HB : Hid (Below w.heap.size w w1) := Below.next hb0 hb
  have hF1 := hF0.below hb
  have hFc := hF1.cells
  clear hb hb0 hF0
  go_wp2_with fail
  refine (HD.out w1).mono ?_
  rintro e w2 ⟨rfl, hb⟩
  clear HD hFc
  have HB2 : Hid (Below w.heap.size w w2) := Below.next HB.out hb
  have hFc := (hF1.below hb).cells
  clear hb hF1
  go_wp2
  go_ret3
  exact ⟨rfl, HB2.out⟩
set_option maxRecDepth 100000 in
set_option maxHeartbeats 8000000 in
theorem SingerOf_ok (P K : Nat) (l : List Int) (v : Value) (w : World) (hl : Sl w v l) (hG : Fd.GoodF P K l) (hK : 3 ≤ K) (hr : rep P K ≤ 60) :
    Calls Tryd.prog 13 #[.agg #[.int .i64 (P : Int), .int .i64 (K : Int), v]] w fun e w' => ∃ (R : Nat) (x : Value), e = .returned (.tuple #[.int .i64 (rep P K : Int), x, .int .i64 0]) ∧ Fd.RootIs P K (Fd.monL l) R ∧ ORow w' 0 x (sgL P K (Fd.monL l) R (rep P K)) ∧ Below w.heap.size w w' := by
  have hP := hG.field.two
  have hP' := hG.le61
  have hq := rep_int (K := K) hP
  have hq' : (((P ^ K : Nat) : Int) - 1) / ((P : Int) - 1) = (rep P K : Int) := by rw [← hq, Int.tdiv_eq_ediv_of_nonneg (by have : 1 ≤ P ^ K := Nat.pow_pos (by omega); omega)]
  have h64 := hG.le64
  have hq1 : 1 ≤ P ^ K := Nat.pow_pos (by omega)
  have HRo : Hid (∀ W, Below w.heap.size w W → Calls Tryd.prog 29 #[.agg #[.int .i64 (P : Int), .int .i64 (K : Int), v]] W fun e w' => ∃ R : Nat, e = .returned (.int .i64 (R : Int)) ∧ Fd.RootIs P K (Fd.monL l) R ∧ Below W.heap.size W w') := fun W b => Fd.rootOf_any P K l v W (hl.below b) hG
  have HTr : Hid (∀ (R i : Nat) (W : World), Below w.heap.size w W → Calls Tryd.prog 30 #[.agg #[.int .i64 (P : Int), .int .i64 (K : Int), v], .int .i64 (Fd.powQ P K (Fd.monL l) R i : Int)] W fun e w' => e = .returned (.int .i64 (Fd.trQ P K (Fd.monL l) K 0 (Fd.powQ P K (Fd.monL l) R i) : Int)) ∧ Below W.heap.size W w') := fun R i W b => by
    refine (Fd.traceOf_any P K (Fd.powQ P K (Fd.monL l) R i) l v W (hl.below b) hG (Fd.powQ_lt hG.field.toRing1 R i)).mono ?_
    rintro e w' ⟨t, rfl, ht, hb⟩
    rw [ht.out]
    exact ⟨rfl, hb⟩
  have HTi : Hid (∀ (R i : Nat) (W : World), Fd.RootIs P K (Fd.monL l) R → Below w.heap.size w W → Calls Tryd.prog 31 #[.agg #[.int .i64 (P : Int), .int .i64 (K : Int), v], .int .i64 (Fd.powQ P K (Fd.monL l) R i : Int), .int .i64 (R : Int)] W fun e w' => e = .returned (.int .i64 (Fd.powQ P K (Fd.monL l) R (i + 1) : Int)) ∧ Below W.heap.size W w') := fun R i W hR b =>
    Fd.TimesG P K (Fd.powQ P K (Fd.monL l) R i) R l v W (hl.below b) hG (Fd.powQ_lt hG.field.toRing1 R i) (good_root hG hR) _ (by show _ = _; rw [Fd.mulQ_comm hG.field.toRing1]; rfl)
  have HA0 : Hid (∀ R, Fd.powQ P K (Fd.monL l) R 0 = 1) := fun _ => rfl
  obtain ⟨A, HA⟩ : ∃ A : Nat → Nat → Nat, Hid (∀ R i, Fd.powQ P K (Fd.monL l) R i = A R i) := ⟨fun R i => Fd.powQ P K (Fd.monL l) R i, fun _ _ => rfl⟩
  obtain ⟨B, HB⟩ : ∃ B : Nat → Nat → Nat, Hid (∀ R i, Fd.trQ P K (Fd.monL l) K 0 (Fd.powQ P K (Fd.monL l) R i) = B R i) := ⟨fun R i => Fd.trQ P K (Fd.monL l) K 0 (Fd.powQ P K (Fd.monL l) R i), fun _ _ => rfl⟩
  have HA02 : Hid (∀ R, A R 0 = 1) := fun R => by rw [← HA.out]; exact HA0.out R
  have HT2 : Hid (∀ (R i : Nat) (W : World), Below w.heap.size w W → Calls Tryd.prog 30 #[.agg #[.int .i64 (P : Int), .int .i64 (K : Int), v], .int .i64 (A R i : Int)] W fun e w' => e = .returned (.int .i64 (B R i : Int)) ∧ Below W.heap.size W w') := fun R i W b => by rw [← HA.out, ← HB.out]; exact HTr.out R i W b
  have HI2 : Hid (∀ (R i : Nat) (W : World), Fd.RootIs P K (Fd.monL l) R → Below w.heap.size w W → Calls Tryd.prog 31 #[.agg #[.int .i64 (P : Int), .int .i64 (K : Int), v], .int .i64 (A R i : Int), .int .i64 (R : Int)] W fun e w' => e = .returned (.int .i64 (A R (i + 1) : Int)) ∧ Below W.heap.size W w') := fun R i W hR b => by rw [← HA.out, ← HA.out]; exact HTi.out R i W hR b
  obtain ⟨F, HF⟩ : ∃ F : Nat → Nat → List Nat, Hid (∀ R k, sgL P K (Fd.monL l) R k = F R k) := ⟨fun R k => sgL P K (Fd.monL l) R k, fun _ _ => rfl⟩
  have HU : Hid (∀ R k, F R (k + 1) = F R k ++ if (B R k == 0) = true then [k] else []) := fun R k => by rw [← HF.out, ← HF.out, ← HB.out]; exact ran_up _ k
  have HLn : Hid (∀ R k, (F R k).length ≤ k) := fun R k => by rw [← HF.out]; exact Nat.le_trans (List.length_filter_le _ _) (by simp)
  have HF0 : Hid (∀ R, F R 0 = []) := fun R => by rw [← HF.out]; rfl
  obtain ⟨n, Hn⟩ : ∃ n, Hid (rep P K = n) := ⟨_, rfl⟩
  rw [Hn.out] at hq hq' hr ⊢
  have HFin : Hid (∀ R, F R n = sgL P K (Fd.monL l) R n) := fun R => by rw [HF.out]
  obtain ⟨a, c, rfl, _⟩ := id hl
  obtain ⟨i3, hi3, hz0, hz1, hz2⟩ := info3
  have hF0 := Fd.FB.made w (P : Int) (K : Int) (.slice a l.length c)
  have hb0 := balloc w (.cells #[.int .i64 (P : Int), .int .i64 (K : Int), .slice a l.length c] 24)
  have C := FaultF P K 0 l _ _ (hl.below hb0) hG.fault
  have HD : Hid (∀ W, Calls Tryd.prog 28 #[.agg #[.int .i64 (P : Int), .int .i64 (K : Int), .slice a l.length c]] W fun e w' => e = .returned (.int .i64 ((P ^ K : Nat) : Int)) ∧ Below W.heap.size W w') := fun W => SizeF P K l _ W hG
  obtain ⟨W0, HW0⟩ : ∃ W0, Hid (w.alloc (.cells #[.int .i64 (P : Int), .int .i64 (K : Int), .slice a l.length c] 24) = W0) := ⟨_, rfl⟩
  obtain ⟨s1, Hs1⟩ : ∃ s1, Hid (w.heap.size + 1 = s1) := ⟨_, rfl⟩
  have hsz : W0.heap.size = s1 := by rw [← HW0.out, ← Hs1.out]; simp
  have hFc := hF0.cells
  have HFB : Hid (∀ W, Below s1 W0 W → Fd.FB W w.heap.size P K (.slice a l.length c)) := fun W b => by rw [HW0.out] at hF0; exact hF0.below (by rw [hsz]; exact b)
  have HBW : Hid (∀ W, Below s1 W0 W → Below w.heap.size w W) := fun W b => by rw [HW0.out] at hb0; exact hb0.trans (b.mono (by have := Hs1.out; omega))
  rw [HW0.out] at C
  have HC : Hid (Calls Tryd.prog 27 #[.agg #[.int .i64 (P : Int), .int .i64 (K : Int), .slice a l.length c]] W0 fun e w' => e = .returned (.int .i64 0) ∧ Below W0.heap.size W0 w') := C
  generalize l.length = ln at *
  generalize P ^ K = Q at *
  have d1 : decide ((K : Int) < 3) = false := by simp; omega
  have d2 : ¬ (K : Int) < 3 := by omega
  have d3 : decide (60 < (n : Int)) = false := by simp; omega
  have d4 : ¬ 60 < (n : Int) := by omega
  have d5 : (P : Int) - 1 ≠ 0 := by omega
  have d6 : ¬ (P : Int) - 1 = 0 := by omega
  clear hF0 hb0 hG hl HTr HTi HA HB HF HA0 C
  go_enter Tryd.func13, Tryd.ntmps13
  go_wp2_with fail
  rw [HW0.out]
  refine HC.out.mono ?_
  rintro e w1 ⟨rfl, hb1⟩
  have hB1 : Below s1 W0 w1 := by rw [hsz] at hb1; exact hb1
  have hgs1 : s1 ≤ w1.heap.size := by rw [← hsz]; exact hB1.size
  clear HC hFc hb1
  have hFc := (HFB.out _ hB1).cells
  go_wp2_with fail
  refine (HD.out w1).mono ?_
  rintro e w2 ⟨rfl, hb2⟩
  have hB2 : Below s1 W0 w2 := hB1.trans (hb2.mono hgs1)
  have hgs2 : s1 ≤ w2.heap.size := by rw [← hsz]; exact hB2.size
  clear HD hFc hb2 hB1
  have hFc := (HFB.out _ hB2).cells
  go_wp2_with fail
  refine (HRo.out w2 (HBW.out _ hB2)).mono ?_
  rintro e w3 ⟨R, rfl, hRt, hb3⟩
  have hB3 : Below s1 W0 w3 := hB2.trans (hb3.mono hgs2)
  have HRt : Hid (Fd.RootIs P K (Fd.monL l) R) := hRt
  clear HRo hFc hb3 hRt hB2
  go_wp2
  go_loopw [9, 10, 11] (fun av ov iv wr => ∃ i : Nat, iv = .int .i64 (i : Int) ∧ av = .int .i64 (A R i : Int) ∧ i ≤ n ∧ ORow wr s1 ov (F R i) ∧ Below s1 W0 wr) (fun _ _ iv _ => (n - intOf iv).toNat)
  case atStart => exact ⟨0, rfl, by rw [HA02.out]; rfl, by omega, by rw [HF0.out]; exact World.ownsRow_nil _ _ _ _, hB3⟩
  case round =>
    clear hB3 HF0 HA02
    obtain ⟨i, rfl, rfl, hi, hown, hB⟩ := hrel
    have hgs : s1 ≤ wr.heap.size := by rw [← hsz]; exact hB.size
    by_cases hlt : i < n
    · have hii : (i : Int) < n := by omega
      have hdec : decide ((i : Int) < n) = true := by simp; omega
      have C2 := HT2.out R i wr (HBW.out _ hB)
      have HI3 : Hid (∀ W, Below w.heap.size w W → Calls Tryd.prog 31 #[.agg #[.int .i64 (P : Int), .int .i64 (K : Int), .slice a ln c], .int .i64 (A R i : Int), .int .i64 (R : Int)] W fun e w' => e = .returned (.int .i64 (A R (i + 1) : Int)) ∧ Below W.heap.size W w') := fun W b => HI2.out R i W HRt.out b
      have hU := HU.out R i
      have hL := HLn.out R i
      have hFc := (HFB.out _ hB).cells
      obtain ⟨ar, Har⟩ : ∃ ar, Hid (A R i = ar) := ⟨_, rfl⟩
      obtain ⟨az, Haz⟩ : ∃ az, Hid (A R (i + 1) = az) := ⟨_, rfl⟩
      obtain ⟨br, Hbr⟩ : ∃ br, Hid (B R i = br) := ⟨_, rfl⟩
      obtain ⟨ll, Hll⟩ : ∃ ll, Hid (F R i = ll) := ⟨_, rfl⟩
      rw [Har.out, Haz.out] at HI3
      rw [Har.out] at C2 ⊢
      rw [Hbr.out] at C2 hU
      rw [Hll.out] at hU hL hown
      unfold ORow at hown
      obtain ⟨oa, oc, rfl⟩ := own_form hown
      have HUU : Hid (F R (i + 1) = ll ++ if (br == 0) = true then [i] else []) := hU
      clear hU HT2 HI2 HU HLn HFin
      go_wp2_with fail
      refine C2.mono ?_
      rintro e w2 ⟨rfl, hb2⟩
      have hB2 : Below s1 W0 w2 := hB.trans (hb2.mono hgs)
      have hown2 := own_keep hown fun b _ hb => hb2.block b hb
      have hgs2 : s1 ≤ w2.heap.size := by rw [← hsz]; exact hB2.size
      clear C2 hFc hb2 hown hB
      by_cases hbr : br = 0
      · subst hbr
        have HU1 : Hid (F R (i + 1) = ll ++ [i]) := by show _ = _; rw [HUU.out]; simp
        clear HUU
        go_wp2_with (first
          | (at_builtin; refine wpList_append_own _ rfl _ _ 22 rfl s1 3 i3 (.int .i64 0) 1 8 und22 hi3 hz0 hz1 hz2 rfl (by decide) _ _ _ rfl (hown2.alloc _) ⟨w2.heap.size, 0, none⟩ 1 1 [.int .i64 (i : Int)] rfl rfl (fun j u hj => by (match j, hj with | 0, hj => simp at hj; subst hj; simp [Addr.add])) (fun u hu => by (simp at hu; subst hu; rfl)) (by (unfold maxLen; omega)) (by omega) (by (simp; omega)) ?_; intro v' w4 hown' hgrow _; have hb4 : Below s1 W0 w4 := (hB2.alloc (by omega) _).grown hgrow (by simp; omega) (fun k hk => (hown2.lt k hk).1); have hFc := (HFB.out _ hb4).cells; have C5 := HI3.out _ (HBW.out _ hb4))
          | (go_at_call 31; refine C5.mono ?_; rintro e w5 ⟨rfl, hb5⟩; clear C5 HI3)
          | go_in)
        have hown4 : w4.ownsRow s1 3 1 v' (ll.length + 1) (((ll ++ [i]).map Int.ofNat).map (Value.int .i64)) := by simpa using hown'
        have hown5 : ORow w4 s1 v' (F R (i + 1)) := by
          rw [HU1.out]
          unfold ORow
          rw [List.length_append]
          exact hown4
        have hg4 : s1 ≤ w4.heap.size := by rw [← hsz]; exact hb4.size
        have hown6 := hown5.below hb5
        have hB5 : Below s1 W0 w5 := hb4.trans (hb5.mono hg4)
        clear hown' hown4 hgrow hown2 hB2 hown5 hFc hb4 hb5
        go_roundw
        case rel => exact ⟨i + 1, by go_num, by rw [Haz.out], by omega, hown6, hB5⟩
        case measure => simp [intOf]; omega
      · have e1 : ¬ (br : Int) = 0 := by omega
        have e2 : ((br : Int) == 0) = false := by simpa using e1
        have HU1 : Hid (F R (i + 1) = ll) := by show _ = _; rw [HUU.out]; simp [hbr]
        have hFc := (HFB.out _ hB2).cells
        have C5 := HI3.out _ (HBW.out _ hB2)
        clear HUU HI3
        go_wp2_with (first
          | (go_at_call 31; refine C5.mono ?_; rintro e w5 ⟨rfl, hb5⟩; clear C5)
          | go_in)
        have hown6 : ORow w5 s1 (.slice oa ll.length oc) ll := own_keep hown2 fun b _ hb => hb5.block b hb
        have hB5 : Below s1 W0 w5 := hB2.trans (hb5.mono hgs2)
        clear hFc hown2 hB2
        go_roundw
        case rel => exact ⟨i + 1, by go_num, by rw [Haz.out], by omega, by rw [HU1.out]; exact hown6, hB5⟩
        case measure => simp [intOf]; omega
    · have hdec : decide ((i : Int) < n) = false := by simp; omega
      obtain rfl : i = n := by omega
      rw [HFin.out] at hown
      go_wp2
      go_ret3
      exact ⟨R, _, rfl, HRt.out, own_low hown (Nat.zero_le _), HBW.out _ hB⟩

end Go.Proofs.YtogdcjlgddleaaaDoor

/- The law DifferMakes. -/
namespace Go.Proofs.YtogdcjlgddleaaaDoor
open Go.RowKit Go.Maps

theorem ints_same (l : List Int) (x y : Value) (w : World) (hx : Sl w x l) (hy : Sl w y l) (hl : l.length ≤ maxLen) : Calls Tryd.prog 11 #[x, y] w fun e w' => e = .returned (.bool true) ∧ Below w.heap.size w w' := by
  refine (ints_any l l x y w hx hy hl hl).mono ?_
  rintro e w' ⟨b, rfl, h, hb⟩
  rw [h.2 rfl]
  exact ⟨rfl, hb⟩
theorem designs_same (p : Int) (ls : List (List Nat)) (v x : Value) (w : World) (hv : Rw w v (toZ ls)) (hx : Rw w x (toZ ls)) (hl : ls.length ≤ 60) (hll : ∀ l ∈ ls, l.length ≤ 60) :
    Calls Tryd.prog 8 #[.agg #[.int .i64 p, v], .agg #[.int .i64 p, x]] w fun e w' => e = .returned (.bool true) ∧ Below w.heap.size w w' := by
  have h1 : (toZ ls).length ≤ maxLen := by unfold maxLen toZ; rw [List.length_map]; omega
  have h2 : ∀ l ∈ toZ ls, l.length ≤ maxLen := fun l hl => by
    obtain ⟨b, hb, rfl⟩ := List.mem_map.1 hl
    have := hll b hb
    unfold maxLen
    rw [List.length_map]
    omega
  refine (Designs_any p p _ _ v x w hv hx h1 h1 h2 h2).mono ?_
  rintro e w' ⟨b, rfl, h, hb⟩
  rw [h.2 ⟨rfl, rfl⟩]
  exact ⟨rfl, hb⟩
theorem slNil (w : World) : Sl w (.slice none 0 0) [] := ⟨none, 0, rfl, fun j hj => by simp at hj⟩
set_option maxRecDepth 100000 in
set_option maxHeartbeats 16000000 in
theorem Makes_bad (v pp fp fk pz n sz : Int) (z bl : Nat) (u fv : Value) (pl : List Int) (ST : List Int → Prop) (w : World) (hz : z ≠ 0) (hu : ∃ a c, u = .slice a bl c) (hfv : ∃ a n c, fv = .slice a n c)
    (H5 : Hid (∀ W, Below w.heap.size w W → Calls Tryd.prog 5 #[.int .i64 v, u] W fun e w' => e = .returned (.int .i64 (z : Int)) ∧ Below W.heap.size W w'))
    (H6 : Hid (∀ W, Below w.heap.size w W → Calls Tryd.prog 6 #[.int .i64 v, u] W fun e w' => e = .returned (.tuple #[.agg #[.int .i64 0, .slice none 0 0], .int .i64 (z : Int)]) ∧ Below W.heap.size W w'))
    (H9 : Hid (∀ W, Below w.heap.size w W → Calls Tryd.prog 9 #[.int .i64 pp] W fun e w' => ∃ x, e = .returned (.tuple #[x, .int .i64 pz]) ∧ Sl w' x pl ∧ Below W.heap.size W w'))
    (H10 : Hid (∀ W, Below w.heap.size w W → Calls Tryd.prog 10 #[.int .i64 pp] W fun e w' => ∃ x, e = .returned (.tuple #[x, .int .i64 pz]) ∧ Sl w' x pl ∧ Below W.heap.size W w'))
    (HPl : Hid (pl.length ≤ maxLen))
    (H12 : Hid (∀ W, Below w.heap.size w W → Calls Tryd.prog 12 #[.agg #[.int .i64 fp, .int .i64 fk, fv]] W fun e w' => ∃ x sl, e = .returned (.tuple #[.int .i64 n, x, .int .i64 sz]) ∧ ST sl ∧ Sl w' x sl ∧ Below W.heap.size W w'))
    (H13 : Hid (∀ W, Below w.heap.size w W → Calls Tryd.prog 13 #[.agg #[.int .i64 fp, .int .i64 fk, fv]] W fun e w' => ∃ x sl, e = .returned (.tuple #[.int .i64 n, x, .int .i64 sz]) ∧ ST sl ∧ Sl w' x sl ∧ Below W.heap.size W w'))
    (HST : Hid (∀ l1 l2, ST l1 → ST l2 → l1 = l2 ∧ l1.length ≤ maxLen)) :
    Calls Tryd.prog 3 #[.int .i64 v, u, .int .i64 pp, .agg #[.int .i64 fp, .int .i64 fk, fv]] w fun e w' => e = .returned (.bool true) ∧ Below w.heap.size w w' := by
  obtain ⟨a, c, rfl⟩ := hu
  obtain ⟨fa, fn, fc, rfl⟩ := hfv
  have hz1 : ¬ (z : Int) = 0 := by omega
  have hz2 : ((z : Int) == 0) = false := by simpa using hz1
  have HF0 : Hid (Fd.FB (w.alloc (.cells #[.int .i64 fp, .int .i64 fk, .slice fa fn fc] 24)) w.heap.size fp fk (.slice fa fn fc)) := Fd.FB.made w fp fk _
  have HB0 : Hid (Below w.heap.size w (w.alloc (.cells #[.int .i64 fp, .int .i64 fk, .slice fa fn fc] 24))) := balloc _ _
  have H8 : Hid (∀ W, Calls Tryd.prog 8 #[.agg #[.int .i64 0, .slice none 0 0], .agg #[.int .i64 0, .slice none 0 0]] W fun e w' => e = .returned (.bool true) ∧ Below W.heap.size W w') := fun W => designs_same 0 [] _ _ W (OR.nil W 0).rw (OR.nil W 0).rw (by simp) (fun l hl => by simp at hl)
  have HDB : Hid (∀ (W0 : World), ((W0.alloc (.cells #[.int .i64 0, .slice none 0 0] 29)).alloc (.cells #[.int .i64 0, .slice none 0 0] 29)).cell? ⟨W0.heap.size, 0, none⟩ = some (.int .i64 0) ∧ ((W0.alloc (.cells #[.int .i64 0, .slice none 0 0] 29)).alloc (.cells #[.int .i64 0, .slice none 0 0] 29)).cell? ⟨W0.heap.size, 1, none⟩ = some (.slice none 0 0)) := fun W0 => des_box 0 (.slice none 0 0) W0 _ (balloc _ _)
  go_enter Tryd.func3, Tryd.ntmps3
  go_wp2_with (first
    | (go_at_call 5; refine (H5.out _ HB0.out).mono ?_; rintro e w1 ⟨rfl, hb⟩; clear H5; have HB1 : Hid (Below w.heap.size w w1) := Below.next HB0.out hb; have HF1 : Hid (Fd.FB w1 w.heap.size fp fk (.slice fa fn fc)) := HF0.out.below hb; clear hb HF0 HB0)
    | (go_at_call 6; refine (H6.out _ HB1.out).mono ?_; rintro e w2 ⟨rfl, hb⟩; clear H6; have HB2 : Hid (Below w.heap.size w w2) := Below.next HB1.out hb; have HF2 : Hid (Fd.FB w2 w.heap.size fp fk (.slice fa fn fc)) := HF1.out.below hb; obtain ⟨c0, c1⟩ := HDB.out w2; clear hb HF1 HB1 HDB)
    | (go_at_call 8; refine (H8.out _).mono ?_; rintro e w3 ⟨rfl, hb⟩; clear H8; have HB3 : Hid (Below w.heap.size w w3) := Below.next (Below.next (Below.next HB2.out (balloc _ _)) (balloc _ _)) hb; have HF3 : Hid (Fd.FB w3 w.heap.size fp fk (.slice fa fn fc)) := HF2.out.below (Below.next (Below.next (balloc _ _) (balloc _ _)) hb); have hFc := HF3.out.cells; clear hb HF2 HB2 c0 c1)
    | (go_at_call 9; refine (H9.out _ HB3.out).mono ?_; rintro e w4 ⟨x, rfl, hx, hb⟩; clear H9; have HB4 : Hid (Below w.heap.size w w4) := Below.next HB3.out hb; have HX : Hid (Sl w4 x pl) := hx; clear hFc; have HF4 : Hid (Fd.FB w4 w.heap.size fp fk (.slice fa fn fc)) := HF3.out.below hb; clear hb hx HF3 HB3)
    | (go_at_call 10; refine (H10.out _ HB4.out).mono ?_; rintro e w5 ⟨y, rfl, hy, hb⟩; clear H10; have HB5 : Hid (Below w.heap.size w w5) := Below.next HB4.out hb; have C11 := ints_same pl x y w5 (HX.out.below hb) hy HPl.out; have HF5 : Hid (Fd.FB w5 w.heap.size fp fk (.slice fa fn fc)) := HF4.out.below hb; clear hb hy HF4 HB4 HX)
    | (go_at_call 11; refine C11.mono ?_; rintro e w6 ⟨rfl, hb⟩; clear C11; have HB6 : Hid (Below w.heap.size w w6) := Below.next HB5.out hb; have HF6 : Hid (Fd.FB w6 w.heap.size fp fk (.slice fa fn fc)) := HF5.out.below hb; have hFc := HF6.out.cells; clear hb HF5 HB5)
    | (go_at_call 12; refine (H12.out _ HB6.out).mono ?_; rintro e w7 ⟨x2, sl1, rfl, hs1, hx2, hb⟩; clear H12; have HB7 : Hid (Below w.heap.size w w7) := Below.next HB6.out hb; have HX2 : Hid (ST sl1 ∧ Sl w7 x2 sl1) := ⟨hs1, hx2⟩; have HF7 : Hid (Fd.FB w7 w.heap.size fp fk (.slice fa fn fc)) := HF6.out.below hb; clear hFc; have hFc := HF7.out.cells; clear hb hx2 hs1 HF6 HB6)
    | (go_at_call 13; refine (H13.out _ HB7.out).mono ?_; rintro e w8 ⟨y2, sl2, rfl, hs2, hy2, hb⟩; clear H13; have HB8 : Hid (Below w.heap.size w w8) := Below.next HB7.out hb; obtain ⟨hse, hsl⟩ := HST.out sl1 sl2 HX2.out.1 hs2; subst hse; have C11b := ints_same sl1 x2 y2 w8 (HX2.out.2.below hb) hy2 hsl; clear hb hy2 hs2 HX2 HB7 hFc HF7 HST hsl)
    | (go_at_call 11; refine C11b.mono ?_; rintro e w9 ⟨rfl, hb⟩; clear C11b; have HB9 : Hid (Below w.heap.size w w9) := Below.next HB8.out hb; clear hb HB8)
    | go_in)
  go_ret
  exact ⟨by simp, HB9.out⟩
set_option maxRecDepth 100000 in
set_option maxHeartbeats 16000000 in
theorem Makes_ok (v pp fp fk pz n sz dp dz : Int) (bl : Nat) (rows : List (List Nat)) (u fv : Value) (pl : List Int) (ST : List Int → Prop) (w : World) (hu : ∃ a c, u = .slice a bl c) (hfv : ∃ a n c, fv = .slice a n c) (hrl : rows.length ≤ 60) (hrll : ∀ l ∈ rows, l.length ≤ 60)
    (H5 : Hid (∀ W, Below w.heap.size w W → Calls Tryd.prog 5 #[.int .i64 v, u] W fun e w' => e = .returned (.int .i64 0) ∧ Below W.heap.size W w'))
    (H6 : Hid (∀ W, Below w.heap.size w W → Calls Tryd.prog 6 #[.int .i64 v, u] W fun e w' => ∃ dv, e = .returned (.tuple #[.agg #[.int .i64 dp, dv], .int .i64 dz]) ∧ OR w' W.heap.size dv rows ∧ Below W.heap.size W w'))
    (H7 : Hid (∀ W, Below w.heap.size w W → Calls Tryd.prog 7 #[.int .i64 v, u] W fun e w' => ∃ dv, e = .returned (.tuple #[.agg #[.int .i64 dp, dv], .int .i64 dz]) ∧ OR w' W.heap.size dv rows ∧ Below W.heap.size W w'))
    (H9 : Hid (∀ W, Below w.heap.size w W → Calls Tryd.prog 9 #[.int .i64 pp] W fun e w' => ∃ x, e = .returned (.tuple #[x, .int .i64 pz]) ∧ Sl w' x pl ∧ Below W.heap.size W w'))
    (H10 : Hid (∀ W, Below w.heap.size w W → Calls Tryd.prog 10 #[.int .i64 pp] W fun e w' => ∃ x, e = .returned (.tuple #[x, .int .i64 pz]) ∧ Sl w' x pl ∧ Below W.heap.size W w'))
    (HPl : Hid (pl.length ≤ maxLen))
    (H12 : Hid (∀ W, Below w.heap.size w W → Calls Tryd.prog 12 #[.agg #[.int .i64 fp, .int .i64 fk, fv]] W fun e w' => ∃ x sl, e = .returned (.tuple #[.int .i64 n, x, .int .i64 sz]) ∧ ST sl ∧ Sl w' x sl ∧ Below W.heap.size W w'))
    (H13 : Hid (∀ W, Below w.heap.size w W → Calls Tryd.prog 13 #[.agg #[.int .i64 fp, .int .i64 fk, fv]] W fun e w' => ∃ x sl, e = .returned (.tuple #[.int .i64 n, x, .int .i64 sz]) ∧ ST sl ∧ Sl w' x sl ∧ Below W.heap.size W w'))
    (HST : Hid (∀ l1 l2, ST l1 → ST l2 → l1 = l2 ∧ l1.length ≤ maxLen)) :
    Calls Tryd.prog 3 #[.int .i64 v, u, .int .i64 pp, .agg #[.int .i64 fp, .int .i64 fk, fv]] w fun e w' => e = .returned (.bool true) ∧ Below w.heap.size w w' := by
  obtain ⟨a, c, rfl⟩ := hu
  obtain ⟨fa, fn, fc, rfl⟩ := hfv
  have HF0 : Hid (Fd.FB (w.alloc (.cells #[.int .i64 fp, .int .i64 fk, .slice fa fn fc] 24)) w.heap.size fp fk (.slice fa fn fc)) := Fd.FB.made w fp fk _
  have HB0 : Hid (Below w.heap.size w (w.alloc (.cells #[.int .i64 fp, .int .i64 fk, .slice fa fn fc] 24))) := balloc _ _
  have H8 : Hid (∀ (x y : Value) (W : World), OR W 0 x rows → OR W 0 y rows → Calls Tryd.prog 8 #[.agg #[.int .i64 dp, x], .agg #[.int .i64 dp, y]] W fun e w' => e = .returned (.bool true) ∧ Below W.heap.size W w') := fun x y W hx hy => designs_same dp rows x y W hx.rw hy.rw hrl hrll
  obtain ⟨rl, Hrl⟩ : ∃ rl, Hid (rows.length = rl) := ⟨_, rfl⟩
  clear hrl hrll
  go_enter Tryd.func3, Tryd.ntmps3
  go_wp2_with fail
  refine (H5.out _ HB0.out).mono ?_
  rintro e w1 ⟨rfl, hb⟩
  have HB1 : Hid (Below w.heap.size w w1) := Below.next HB0.out hb
  have HF1 : Hid (Fd.FB w1 w.heap.size fp fk (.slice fa fn fc)) := HF0.out.below hb
  clear H5 hb HF0 HB0
  go_wp2_with fail
  refine (H6.out _ HB1.out).mono ?_
  rintro e w2 ⟨dv, rfl, hdv, hb⟩
  have HB2 : Hid (Below w.heap.size w w2) := Below.next HB1.out hb
  have HF2 : Hid (Fd.FB w2 w.heap.size fp fk (.slice fa fn fc)) := HF1.out.below hb
  have HD2 : Hid (OR w2 0 dv rows) := or_low hdv (Nat.zero_le _)
  obtain ⟨da, dc, hde⟩ := hdv.cap
  rw [Hrl.out] at hde
  subst hde
  clear H6 hb HF1 HB1 hdv
  obtain ⟨b1, Hb1⟩ : ∃ b1, Hid (w2.heap.size = b1) := ⟨_, rfl⟩
  have hWw : w.heap.size < b1 := by rw [← Hb1.out]; exact HF2.out.lt
  have HX0 : Hid (∀ W, Below (b1 + 2) ((w2.alloc (.cells #[.int .i64 dp, .slice da rl dc] 29)).alloc (.cells #[.int .i64 0, .slice none 0 0] 29)) W → W.heap[b1]? = some (.cells #[.int .i64 dp, .slice da rl dc] 29 (0, 0)) ∧ W.heap[b1 + 1]? = some (.cells #[.int .i64 0, .slice none 0 0] 29 (0, 0)) ∧ Below b1 w2 W) := fun W b => by
    have e1 := heap_alloc_new w2 (.cells #[.int .i64 dp, .slice da rl dc] 29)
    have e2 := heap_alloc_new (w2.alloc (.cells #[.int .i64 dp, .slice da rl dc] 29)) (.cells #[.int .i64 0, .slice none 0 0] 29)
    rw [World.size_alloc, Hb1.out] at e2
    have e3 := (balloc (w2.alloc (.cells #[.int .i64 dp, .slice da rl dc] 29)) (.cells #[.int .i64 0, .slice none 0 0] 29)).block w2.heap.size (by simp)
    rw [Hb1.out] at e1 e3
    refine ⟨(b.block b1 (by omega)).trans (e3.trans e1), (b.block (b1 + 1) (by omega)).trans e2, ?_⟩
    have h1 := Below.next (balloc w2 (.cells #[.int .i64 dp, .slice da rl dc] 29)) (balloc _ (.cells #[.int .i64 0, .slice none 0 0] 29))
    rw [Hb1.out] at h1
    exact h1.trans (b.mono (by omega))
  obtain ⟨W2, HW2⟩ : ∃ W2, Hid ((w2.alloc (.cells #[.int .i64 dp, .slice da rl dc] 29)).alloc (.cells #[.int .i64 0, .slice none 0 0] 29) = W2) := ⟨_, rfl⟩
  have hW2s : W2.heap.size = b1 + 2 := by rw [← HW2.out, ← Hb1.out]; simp
  rw [HW2.out] at HX0
  have hB2' := (HX0.out W2 (Below.refl _ _)).2.2
  have HBB : Hid (∀ W, Below b1 w2 W → Below w.heap.size w W) := fun W b => HB2.out.trans (b.mono (by omega))
  go_wp2_with fail
  rw [HW2.out]
  refine (H7.out _ (HBB.out _ hB2')).mono ?_
  rintro e w3 ⟨ev, rfl, hev, hb⟩
  rw [hW2s] at hb hev
  obtain ⟨x0, x1, x2⟩ := HX0.out _ hb
  obtain ⟨ea, ec, hee⟩ := hev.cap
  rw [Hrl.out] at hee
  subst hee
  have hb1w : b1 + 2 ≤ w3.heap.size := by rw [← hW2s]; exact (by rw [hW2s]; exact hb : Below W2.heap.size W2 w3).size
  have y0 : w3.cell? ⟨b1, 0, none⟩ = some (.int .i64 dp) := by rw [cell_of_row _ _ _ _ _ _ x0]; rfl
  have y1 : w3.cell? ⟨b1, 1, none⟩ = some (.slice da rl dc) := by rw [cell_of_row _ _ _ _ _ _ x0]; rfl
  have y2 : w3.cell? ⟨b1 + 1, 0, none⟩ = some (.int .i64 0) := by rw [cell_of_row _ _ _ _ _ _ x1]; rfl
  have y3 : w3.cell? ⟨b1 + 1, 1, none⟩ = some (.slice none 0 0) := by rw [cell_of_row _ _ _ _ _ _ x1]; rfl
  have f2 : w3.frozen? ⟨b1 + 1, 0, none⟩ = false := frozen_of_row w3 _ 0 _ _ x1
  have f3 : w3.frozen? ⟨b1 + 1, 1, none⟩ = false := frozen_of_row w3 _ 1 _ _ x1
  have hE : OR ((w3.setCell ⟨b1 + 1, 0, none⟩ (.int .i64 dp)).setCell ⟨b1 + 1, 1, none⟩ (.slice ea rl ec)) (b1 + 2) (.slice ea rl ec) rows := (hev.keep (w' := w3.setCell ⟨b1 + 1, 0, none⟩ (.int .i64 dp)) (fun b hb _ => heap_setCell_other w3 ⟨b1 + 1, 0, none⟩ b _ (by show b ≠ b1 + 1; omega))).keep (w' := (w3.setCell ⟨b1 + 1, 0, none⟩ (.int .i64 dp)).setCell ⟨b1 + 1, 1, none⟩ (.slice ea rl ec)) (fun b hb _ => heap_setCell_other _ ⟨b1 + 1, 1, none⟩ b _ (by show b ≠ b1 + 1; omega))
  have hB4 : Below b1 w2 ((w3.setCell ⟨b1 + 1, 0, none⟩ (.int .i64 dp)).setCell ⟨b1 + 1, 1, none⟩ (.slice ea rl ec)) := (x2.setCell (p := ⟨b1 + 1, 0, none⟩) (by show b1 ≤ b1 + 1; omega) (.int .i64 dp)).setCell (p := ⟨b1 + 1, 1, none⟩) (by show b1 ≤ b1 + 1; omega) (.slice ea rl ec)
  have n0 := heap_setCell_same w3 (b1 + 1) 0 _ _ (.int .i64 dp) x1
  have n1 := heap_setCell_same _ (b1 + 1) 1 _ _ (.slice ea rl ec) n0
  have n2 := (heap_setCell_other _ ⟨b1 + 1, 1, none⟩ b1 (.slice ea rl ec) (by show b1 ≠ b1 + 1; omega)).trans ((heap_setCell_other w3 ⟨b1 + 1, 0, none⟩ b1 (.int .i64 dp) (by show b1 ≠ b1 + 1; omega)).trans x0)
  have C8 := H8.out (.slice da rl dc) (.slice ea rl ec) _ (HD2.out.below (by rw [Hb1.out]; exact hB4)) (or_low hE (Nat.zero_le _))
  obtain ⟨W4, HW4⟩ : ∃ W4, Hid ((w3.setCell ⟨b1 + 1, 0, none⟩ (.int .i64 dp)).setCell ⟨b1 + 1, 1, none⟩ (.slice ea rl ec) = W4) := ⟨_, rfl⟩
  rw [HW4.out] at C8 hB4 n1 n2
  have HB4 : Hid (Below w.heap.size w W4) := HBB.out _ hB4
  have HF4' : Hid (Fd.FB W4 w.heap.size fp fk (.slice fa fn fc)) := HF2.out.below (by rw [Hb1.out]; exact hB4)
  have m0 : W4.cell? ⟨b1, 0, none⟩ = some (.int .i64 dp) := by rw [cell_of_row _ _ _ _ _ _ n2]; rfl
  have m1 : W4.cell? ⟨b1, 1, none⟩ = some (.slice da rl dc) := by rw [cell_of_row _ _ _ _ _ _ n2]; rfl
  have m2 : W4.cell? ⟨b1 + 1, 0, none⟩ = some (.int .i64 dp) := by rw [cell_of_row _ _ _ _ _ _ n1]; rfl
  have m3 : W4.cell? ⟨b1 + 1, 1, none⟩ = some (.slice ea rl ec) := by rw [cell_of_row _ _ _ _ _ _ n1]; rfl
  have hb1e : w2.heap.size = b1 := Hb1.out
  clear H7 H8 HX0 hb hev hE x0 x1 x2 n0 n1 n2 hB4 hB2' HBB HF2 HB2 HD2 hb1w
  go_wp2_with fail
  rw [HW4.out]
  clear y0 y1 y2 y3 f2 f3
  go_wp2_with (first
    | (go_at_call 8; refine C8.mono ?_; rintro e w10 ⟨rfl, hb⟩; clear C8; have HB3 : Hid (Below w.heap.size w w10) := Below.next HB4.out hb; have HF3 : Hid (Fd.FB w10 w.heap.size fp fk (.slice fa fn fc)) := HF4'.out.below hb; have hFc := HF3.out.cells; clear hb HF4' HB4 m0 m1 m2 m3)
    | (go_at_call 9; refine (H9.out _ HB3.out).mono ?_; rintro e w4 ⟨x, rfl, hx, hb⟩; clear H9; have HB4 : Hid (Below w.heap.size w w4) := Below.next HB3.out hb; have HX : Hid (Sl w4 x pl) := hx; clear hFc; have HF4 : Hid (Fd.FB w4 w.heap.size fp fk (.slice fa fn fc)) := HF3.out.below hb; clear hb hx HF3 HB3)
    | (go_at_call 10; refine (H10.out _ HB4.out).mono ?_; rintro e w5 ⟨y, rfl, hy, hb⟩; clear H10; have HB5 : Hid (Below w.heap.size w w5) := Below.next HB4.out hb; have C11 := ints_same pl x y w5 (HX.out.below hb) hy HPl.out; have HF5 : Hid (Fd.FB w5 w.heap.size fp fk (.slice fa fn fc)) := HF4.out.below hb; clear hb hy HF4 HB4 HX)
    | (go_at_call 11; refine C11.mono ?_; rintro e w6 ⟨rfl, hb⟩; clear C11; have HB6 : Hid (Below w.heap.size w w6) := Below.next HB5.out hb; have HF6 : Hid (Fd.FB w6 w.heap.size fp fk (.slice fa fn fc)) := HF5.out.below hb; have hFc := HF6.out.cells; clear hb HF5 HB5)
    | (go_at_call 12; refine (H12.out _ HB6.out).mono ?_; rintro e w7 ⟨x2, sl1, rfl, hs1, hx2, hb⟩; clear H12; have HB7 : Hid (Below w.heap.size w w7) := Below.next HB6.out hb; have HX2 : Hid (ST sl1 ∧ Sl w7 x2 sl1) := ⟨hs1, hx2⟩; have HF7 : Hid (Fd.FB w7 w.heap.size fp fk (.slice fa fn fc)) := HF6.out.below hb; clear hFc; have hFc := HF7.out.cells; clear hb hx2 hs1 HF6 HB6)
    | (go_at_call 13; refine (H13.out _ HB7.out).mono ?_; rintro e w8 ⟨y2, sl2, rfl, hs2, hy2, hb⟩; clear H13; have HB8 : Hid (Below w.heap.size w w8) := Below.next HB7.out hb; obtain ⟨hse, hsl⟩ := HST.out sl1 sl2 HX2.out.1 hs2; subst hse; have C11b := ints_same sl1 x2 y2 w8 (HX2.out.2.below hb) hy2 hsl; clear hb hy2 hs2 HX2 HB7 hFc HF7 HST hsl)
    | (go_at_call 11; refine C11b.mono ?_; rintro e w9 ⟨rfl, hb⟩; clear C11b; have HB9 : Hid (Below w.heap.size w w9) := Below.next HB8.out hb; clear hb HB8)
    | go_in)
  go_ret
  exact ⟨by simp, HB9.out⟩

end Go.Proofs.YtogdcjlgddleaaaDoor

namespace Go.Proofs.YtogdcjlgddleaaaDoor
open Go.RowKit Go.Maps

theorem fault_some (p k : Int) (l : List Int) : ∃ z, Fd.FaultIs p k l z := by
  unfold Fd.FaultIs
  by_cases h1 : Fd.ordZ p k = 0
  · exact ⟨1, .inl ⟨h1, rfl⟩⟩
  · by_cases h2 : (l.length : Int) = k
    · by_cases h3 : Fd.inL p l
      · by_cases h4 : Fd.irrP (Fd.monL l) k.toNat p.toNat
        · exact ⟨0, .inr (.inr (.inr (.inr ⟨h1, h2, h3, h4, rfl⟩)))⟩
        · exact ⟨4, .inr (.inr (.inr (.inl ⟨h1, h2, h3, h4, rfl⟩)))⟩
      · exact ⟨1, .inr (.inr (.inl ⟨h1, h2, h3, rfl⟩))⟩
    · exact ⟨2, .inr (.inl ⟨h1, h2, rfl⟩)⟩
theorem paL_len (p : Nat) : (paL p).length ≤ p := Nat.le_trans (List.length_filter_le _ _) (by simp)
theorem sgL_len (P K : Nat) (m : Nat → Int) (R v : Nat) : (sgL P K m R v).length ≤ v := Nat.le_trans (List.length_filter_le _ _) (by simp)
theorem paley_both (p : Int) (w : World) (hT : Fd.Tab w) : ∃ (pz : Int) (pl : List Int), pl.length ≤ maxLen ∧
    (∀ W, Below w.heap.size w W → Calls Tryd.prog 9 #[.int .i64 p] W fun e w' => ∃ x, e = .returned (.tuple #[x, .int .i64 pz]) ∧ Sl w' x pl ∧ Below W.heap.size W w') ∧
    (∀ W, Below w.heap.size w W → Calls Tryd.prog 10 #[.int .i64 p] W fun e w' => ∃ x, e = .returned (.tuple #[x, .int .i64 pz]) ∧ Sl w' x pl ∧ Below W.heap.size W w') := by
  by_cases hf : p < 1 ∨ 60 < p
  · refine ⟨1, [], by simp [maxLen], fun W hW => (Paley_far p W hf).mono ?_, fun W hW => (PaleyOf_far p W hf).mono ?_⟩
    · rintro e w' ⟨rfl, hb⟩
      exact ⟨_, rfl, slNil _, hb⟩
    · rintro e w' ⟨rfl, hb⟩
      exact ⟨_, rfl, slNil _, hb⟩
  · obtain ⟨P, rfl⟩ : ∃ P : Nat, p = P := ⟨p.toNat, by omega⟩
    by_cases hn : Fd.isPrimeB (P : Int) = true ∧ P % 4 = 3
    · refine ⟨0, (paL P).map Int.ofNat, ?_, fun W hW => Paley_ok P W (hT.below hW) (by omega) (by omega) hn.1 hn.2, fun W hW => (PaleyOf_ok P W (by omega) (by omega) hn.1 hn.2).mono ?_⟩
      · have := paL_len P
        unfold maxLen
        rw [List.length_map]
        omega
      · rintro e w' ⟨x, rfl, hx, hb⟩
        exact ⟨x, rfl, hx.sl, hb⟩
    · have hn' : Fd.isPrimeB (P : Int) = false ∨ P % 4 ≠ 3 := by
        by_cases h : Fd.isPrimeB (P : Int) = true
        · exact .inr fun h4 => hn ⟨h, h4⟩
        · exact .inl (by simpa using h)
      refine ⟨4, [], by simp [maxLen], fun W hW => (Paley_none P W (hT.below hW) (by omega) (by omega) hn').mono ?_, fun W hW => (PaleyOf_none P W (by omega) (by omega) hn').mono ?_⟩
      · rintro e w' ⟨rfl, hb⟩
        exact ⟨_, rfl, slNil _, hb⟩
      · rintro e w' ⟨rfl, hb⟩
        exact ⟨_, rfl, slNil _, hb⟩
theorem singer_both (p k : Int) (l : List Int) (v : Value) (w : World) (hT : Fd.Tab w) (hl : Sl w v l) (hll : l.length ≤ maxLen) : ∃ (n sz : Int) (ST : List Int → Prop),
    (∀ W, Below w.heap.size w W → Calls Tryd.prog 12 #[.agg #[.int .i64 p, .int .i64 k, v]] W fun e w' => ∃ x sl, e = .returned (.tuple #[.int .i64 n, x, .int .i64 sz]) ∧ ST sl ∧ Sl w' x sl ∧ Below W.heap.size W w') ∧
    (∀ W, Below w.heap.size w W → Calls Tryd.prog 13 #[.agg #[.int .i64 p, .int .i64 k, v]] W fun e w' => ∃ x sl, e = .returned (.tuple #[.int .i64 n, x, .int .i64 sz]) ∧ ST sl ∧ Sl w' x sl ∧ Below W.heap.size W w') ∧
    (∀ l1 l2, ST l1 → ST l2 → l1 = l2 ∧ l1.length ≤ maxLen) := by
  obtain ⟨z, hF⟩ := fault_some p k l
  have hnil : ∀ l1 l2 : List Int, l1 = [] → l2 = [] → l1 = l2 ∧ l1.length ≤ maxLen := fun l1 l2 h1 h2 => by rw [h1, h2]; exact ⟨rfl, by simp [maxLen]⟩
  by_cases hz : z = 0
  · subst hz
    obtain ⟨P, K, rfl, rfl, hG⟩ := Fd.good_of hF
    by_cases hK : K < 3
    · refine ⟨0, 4, fun l => l = [], fun W hW => (Singer_none P K l v W (hT.below hW) (hl.below hW) hll hG hK).mono ?_, fun W hW => (SingerOf_none P K l v W (hl.below hW) hG hK).mono ?_, hnil⟩
      · rintro e w' ⟨rfl, hb⟩
        exact ⟨_, [], rfl, rfl, slNil _, hb⟩
      · rintro e w' ⟨rfl, hb⟩
        exact ⟨_, [], rfl, rfl, slNil _, hb⟩
    · by_cases hr : rep P K ≤ 60
      · refine ⟨rep P K, 0, fun sl => ∃ R, Fd.RootIs P K (Fd.monL l) R ∧ sl = (sgL P K (Fd.monL l) R (rep P K)).map Int.ofNat, fun W hW => (Singer_ok P K l v W (hT.below hW) (hl.below hW) hll hG (by omega) hr).mono ?_, fun W hW => (SingerOf_ok P K l v W (hl.below hW) hG (by omega) hr).mono ?_, ?_⟩
        · rintro e w' ⟨R, x, rfl, hR, hx, hb⟩
          exact ⟨x, _, rfl, ⟨R, hR, rfl⟩, hx.sl, hb⟩
        · rintro e w' ⟨R, x, rfl, hR, hx, hb⟩
          exact ⟨x, _, rfl, ⟨R, hR, rfl⟩, hx.sl, hb⟩
        · rintro l1 l2 ⟨R1, h1, rfl⟩ ⟨R2, h2, rfl⟩
          obtain rfl := h1.one h2
          refine ⟨rfl, ?_⟩
          have := sgL_len P K (Fd.monL l) R1 (rep P K)
          unfold maxLen
          rw [List.length_map]
          omega
      · refine ⟨0, 3, fun l => l = [], fun W hW => (Singer_full P K l v W (hT.below hW) (hl.below hW) hll hG (by omega) (by omega)).mono ?_, fun W hW => (SingerOf_full P K l v W (hl.below hW) hG (by omega) (by omega)).mono ?_, hnil⟩
        · rintro e w' ⟨rfl, hb⟩
          exact ⟨_, [], rfl, rfl, slNil _, hb⟩
        · rintro e w' ⟨rfl, hb⟩
          exact ⟨_, [], rfl, rfl, slNil _, hb⟩
  · refine ⟨0, z, fun l => l = [], fun W hW => (Singer_bad p k z l v W (hT.below hW) (hl.below hW) hll hF hz).mono ?_, fun W hW => (SingerOf_bad p k z l v W (hl.below hW) hF hz).mono ?_, hnil⟩
    · rintro e w' ⟨rfl, hb⟩
      exact ⟨_, [], rfl, rfl, slNil _, hb⟩
    · rintro e w' ⟨rfl, hb⟩
      exact ⟨_, [], rfl, rfl, slNil _, hb⟩
theorem Makes_law (v pp fp fk : Int) (b l : List Int) (u fv : Value) (w : World) (hT : Fd.Tab w) (hu : Sl w u b) (hbl : b.length ≤ maxLen) (hl : Sl w fv l) (hll : l.length ≤ maxLen) :
    Calls Tryd.prog 3 #[.int .i64 v, u, .int .i64 pp, .agg #[.int .i64 fp, .int .i64 fk, fv]] w fun e w' => e = .returned (.bool true) ∧ Below w.heap.size w w' := by
  have hform : ∃ a c, u = .slice a b.length c := by obtain ⟨a, c, rfl, _⟩ := hu; exact ⟨a, c, rfl⟩
  have hfform : ∃ a n c, fv = .slice a n c := by obtain ⟨a, c, rfl, _⟩ := hl; exact ⟨a, _, c, rfl⟩
  obtain ⟨pz, pl, hpl, H9, H10⟩ := paley_both pp w hT
  obtain ⟨n, sz, ST, H12, H13, hST⟩ := singer_both fp fk l fv w hT hl hll
  by_cases hz : sF v b = 0
  · obtain ⟨V, D, rfl, rfl, hG⟩ := sF_good hz
    have H5 : ∀ W, Below w.heap.size w W → Calls Tryd.prog 5 #[.int .i64 (V : Int), u] W fun e w' => e = .returned (.int .i64 0) ∧ Below W.heap.size W w' := fun W hW => by
      have := SetFaultS_any (V : Int) _ u W (hu.below hW) hbl
      rw [hz] at this
      exact this
    have H8 : ∀ W, Below w.heap.size w W → Calls Tryd.prog 16 #[.int .i64 (V : Int), u] W fun e w' => e = .returned (.int .i64 0) ∧ Below W.heap.size W w' := fun W hW => by
      have := CheckS_any (V : Int) _ u W (hu.below hW) hbl
      rw [hz] at this
      exact this
    by_cases h40 : V ≤ 40
    · refine Makes_ok V pp fp fk pz n sz V 0 _ (dvT V D V) u fv pl ST w hform hfform (by rw [dvT_len]; omega) (fun r hr => ?_) H5 (fun W hW => ?_) (fun W hW => ?_) H9 H10 hpl H12 H13 hST
      · obtain ⟨i, _, rfl⟩ := List.mem_map.1 hr
        exact Nat.le_trans (List.length_filter_le _ _) (by simp)
      · exact Dev_main V D u W hG h40 (hu.below hW)
      · exact DevOf_main V D u W hG h40 (hu.below hW)
    · refine Makes_ok V pp fp fk pz n sz 0 3 _ [] u fv pl ST w hform hfform (by simp) (fun r hr => by simp at hr) H5 (fun W hW => ?_) (fun W hW => ?_) H9 H10 hpl H12 H13 hST
      · refine (Dev_full (V : Int) _ u W (by omega) hform (fun W' hW' => H8 W' (Below.next hW hW'))).mono ?_
        rintro e w' ⟨rfl, hb⟩
        exact ⟨_, rfl, OR.nil _ _, hb⟩
      · refine (DevOf_full (V : Int) _ u W (by omega) hform).mono ?_
        rintro e w' ⟨rfl, hb⟩
        exact ⟨_, rfl, OR.nil _ _, hb⟩
  · refine Makes_bad v pp fp fk pz n sz (sF v b) _ u fv pl ST w hz hform hfform (fun W hW => SetFaultS_any v b u W (hu.below hW) hbl) (fun W hW => Dev_bad v b u W _ hz hform (fun W' hW' => CheckS_any v b u W' (hu.below (Below.next hW hW')) hbl)) H9 H10 hpl H12 H13 hST

end Go.Proofs.YtogdcjlgddleaaaDoor
