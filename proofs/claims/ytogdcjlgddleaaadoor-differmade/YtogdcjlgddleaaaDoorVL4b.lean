/- The law DifferMade. -/
import Derived.Test.YtogdcjlgddleaaaDoorW10
import Derived.Test.YtogdcjlgddleaaaDoorW16
import Derived.Test.YtogdcjlgddleaaaDoorS3
import Derived.Test.YtogdcjlgddleaaaDoorS5
import Derived.Test.YtogdcjlgddleaaaDoorV4
import Derived.Test.YtogdcjlgddleaaaDoorAlgI
import Derived.Test.YtogdcjlgddleaaaDoorL5
/- The walk of the document's PaleyOf. -/
/- Paley's sets: what the kernel reckons. -/
namespace Go.Proofs.YtogdcjlgddleaaaDoor
open Go.RowKit

/-- The squares but 0. -/
def paL (p : Nat) : List Nat := (List.range p).filter fun x => decide (1 ≤ x) && (List.range p).any fun y => decide (1 ≤ y) && (y * y % p == x)
theorem pal_all : ∀ p : Fin 61, (Fd.isPrimeB ((p.val : Nat) : Int) && p.val % 4 == 3) = true → Fd.sqTo p.val 1 (Fd.monL [0]) (p.val ^ 1) = (paL p.val).map Int.ofNat := by decide +kernel
theorem pal_lev : ∀ p : Fin 61, (Fd.isPrimeB ((p.val : Nat) : Int) && p.val % 4 == 3) = true → lvB p.val (paL p.val) = true ∧ dfN p.val (paL p.val) 1 = (p.val - 3) / 4 ∧ (paL p.val).length = (p.val - 1) / 2 := by decide +kernel
theorem pal_ord : ∀ p : Fin 61, Fd.ordZ ((p.val : Nat) : Int) 1 = if Fd.isPrimeB ((p.val : Nat) : Int) = true then ((p.val : Nat) : Int) else 0 := by decide +kernel
theorem pal_good {p : Nat} (h1 : 1 ≤ p) (h : p ≤ 60) : GoodS p (paL p) := ⟨h1, h, List.pairwise_lt_range.sublist List.filter_sublist, fun _ hx => List.mem_range.1 (List.mem_filter.1 hx).1⟩
theorem least_one {P : Nat} {q d z : Int} {l : List Int} (h60 : P ≤ 60) (hp : Fd.isPrimeB (P : Int) = true) (h : Fd.LeastIs (P : Int) 1 q d l z) : q = P ∧ d = 1 ∧ l = [0] ∧ z = 0 := by
  have ho := pal_ord ⟨P, by omega⟩
  rw [if_pos hp] at ho
  have hp0 : (P : Int) ≠ 0 := fun e => by rw [e] at hp; exact absurd hp (by decide)
  have hord : Fd.ordZ (P : Int) 1 = (P : Int) := ho
  have hg : ∀ P : Nat, Fd.goodAt P 1 0 := fun P e h1 h2 => by omega
  rcases h with ⟨h, _⟩ | ⟨P', K', e1, e2, h0, ⟨n, hn, hgn, hm, rfl, rfl, rfl, rfl⟩ | ⟨hno, _⟩⟩
  · rw [hord] at h; exact absurd h hp0
  · obtain rfl : P = P' := by omega
    obtain rfl : K' = 1 := by omega
    obtain rfl : n = 0 := by
      rcases Nat.eq_zero_or_pos n with e | e
      · exact e
      · exact absurd (hg P) (hm 0 e)
    refine ⟨rfl, rfl, ?_, rfl⟩
    simp [Fd.digL, Fd.digF, List.range_succ]
  · obtain rfl : P = P' := by omega
    obtain rfl : K' = 1 := by omega
    exact absurd (hg P) (hno 0 (by rw [Nat.pow_one]; omega))
theorem least_none {P : Nat} {q d z : Int} {l : List Int} (h60 : P ≤ 60) (hp : Fd.isPrimeB (P : Int) = false) (h : Fd.LeastIs (P : Int) 1 q d l z) : q = 0 ∧ d = 0 ∧ l = [] ∧ z = 1 := by
  have ho := pal_ord ⟨P, by omega⟩
  rw [if_neg (by rw [hp]; simp)] at ho
  have hord : Fd.ordZ (P : Int) 1 = 0 := ho
  rcases h with ⟨_, rfl, rfl, rfl, rfl⟩ | ⟨_, _, _, _, h0, _⟩
  · exact ⟨rfl, rfl, rfl, rfl⟩
  · exact absurd hord h0

end Go.Proofs.YtogdcjlgddleaaaDoor

/- The walks of Paley and of the document's PaleyOf. -/
namespace Go.Proofs.YtogdcjlgddleaaaDoor
open Go.RowKit

theorem fault_low {P : Nat} (h60 : P ≤ 60) (hp : Fd.isPrimeB (P : Int) = true) : Fd.FaultIs (P : Int) 1 [0] 0 := by
  have ho : Fd.ordZ (P : Int) 1 = _ := pal_ord ⟨P, by omega⟩
  rw [if_pos hp] at ho
  have hp0 : (P : Int) ≠ 0 := fun e => by rw [e] at hp; exact absurd hp (by decide)
  refine .inr (.inr (.inr (.inr ⟨by rw [ho]; exact hp0, rfl, ?_, ?_, rfl⟩)))
  · intro j hj
    have : j = 0 := by simpa using hj
    subst this
    simp
    omega
  · intro e h1 h2
    simp at h2
    omega
theorem Sq_low (P : Nat) (v : Value) (w : World) (h60 : P ≤ 60) (hp : Fd.isPrimeB (P : Int) = true) (h4 : P % 4 = 3) (hT : Fd.Tab w) (hl : Sl w v [0]) :
    Calls Tryd.prog 22 #[.agg #[.int .i64 (P : Int), .int .i64 1, v]] w fun e w' => ∃ x, e = .returned (.tuple #[x, .int .i64 0]) ∧ Sl w' x ((paL P).map Int.ofNat) ∧ Below w.heap.size w w' := by
  refine (Fd.Squares_any (P : Int) 1 [0] v w hT hl (by decide)).mono ?_
  rintro e w' ⟨u, s, z, rfl, hs, hF, _, h0, hb⟩
  obtain rfl := hF.one (fault_low h60 hp)
  have e1 := h0.out rfl
  rw [Int.toNat_natCast] at e1
  have e2 := pal_all ⟨P, by omega⟩ (by rw [Bool.and_eq_true]; exact ⟨hp, by simpa using h4⟩)
  refine ⟨u, rfl, ?_, hb⟩
  rw [← show Fd.sqTo P 1 (Fd.monL [0]) (P ^ 1) = (paL P).map Int.ofNat from e2]
  rw [← show s = Fd.sqTo P 1 (Fd.monL [0]) (P ^ 1) from e1]
  exact hs
set_option maxHeartbeats 4000000 in
theorem Paley_far (p : Int) (w : World) (h : p < 1 ∨ 60 < p) : Calls Tryd.prog 9 #[.int .i64 p] w fun e w' => e = .returned (.tuple #[.slice none 0 0, .int .i64 1]) ∧ Below w.heap.size w w' := by
  by_cases h1 : p < 1
  · have d1 : decide (p < 1) = true := decide_eq_true h1
    clear h h1
    go_enter Tryd.func9, Tryd.ntmps9
    go_wp2
    go_ret2
    exact ⟨rfl, Below.refl _ _⟩
  · have d1 : decide (p < 1) = false := decide_eq_false h1
    have h2 : 60 < p := by omega
    have d2 : decide (60 < p) = true := decide_eq_true h2
    clear h h1 h2
    go_enter Tryd.func9, Tryd.ntmps9
    go_wp2
    go_ret2
    exact ⟨rfl, Below.refl _ _⟩
set_option maxRecDepth 100000 in
set_option maxHeartbeats 4000000 in
theorem Paley_none (P : Nat) (w : World) (hT : Fd.Tab w) (h1 : 1 ≤ P) (h60 : P ≤ 60) (h : Fd.isPrimeB (P : Int) = false ∨ P % 4 ≠ 3) : Calls Tryd.prog 9 #[.int .i64 (P : Int)] w fun e w' => e = .returned (.tuple #[.slice none 0 0, .int .i64 4]) ∧ Below w.heap.size w w' := by
  have d1 : decide ((P : Int) < 1) = false := by simp; omega
  have d2 : decide (60 < (P : Int)) = false := by simp; omega
  cases hp : Fd.isPrimeB (P : Int)
  · have C : Hid (Calls Tryd.prog 21 #[.int .i64 (P : Int), .int .i64 1] w fun e w' => ∃ v, e = .returned (.tuple #[.agg #[.int .i64 0, .int .i64 0, v], .int .i64 1]) ∧ (∃ a n c, v = .slice a n c) ∧ Below w.heap.size w w') := (Fd.least_any (P : Int) 1 w hT).mono (by
      rintro e w' ⟨q, d, v, l, z, rfl, hs, hL, hb⟩
      obtain ⟨rfl, rfl, rfl, rfl⟩ := least_none h60 hp hL
      obtain ⟨a, c, rfl, _⟩ := hs
      exact ⟨_, rfl, ⟨_, _, _, rfl⟩, hb⟩)
    clear h hp hT
    go_enter Tryd.func9, Tryd.ntmps9
    go_wp2_with (first
      | (go_at_call 21; refine C.out.mono ?_; rintro e w1 ⟨v, rfl, ⟨a, n, c, rfl⟩, hb⟩; clear C)
      | go_in)
    go_ret2
    exact ⟨rfl, Below.next hb (balloc _ _)⟩
  · have h4 : P % 4 ≠ 3 := by
      rcases h with h | h
      · rw [hp] at h; cases h
      · exact h
    have C : Hid (Calls Tryd.prog 21 #[.int .i64 (P : Int), .int .i64 1] w fun e w' => ∃ v, e = .returned (.tuple #[.agg #[.int .i64 (P : Int), .int .i64 1, v], .int .i64 0]) ∧ (∃ a n c, v = .slice a n c) ∧ Below w.heap.size w w') := (Fd.least_any (P : Int) 1 w hT).mono (by
      rintro e w' ⟨q, d, v, l, z, rfl, hs, hL, hb⟩
      obtain ⟨rfl, rfl, rfl, rfl⟩ := least_one h60 hp hL
      obtain ⟨a, c, rfl, _⟩ := hs
      exact ⟨_, rfl, ⟨_, _, _, rfl⟩, hb⟩)
    obtain ⟨r, Hr⟩ : ∃ r, Hid (P % 4 = r) := ⟨_, rfl⟩
    have m1 : (P : Int) % 4 = (r : Int) := by rw [← Hr.out]; simp
    have m2 : (P : Int).tmod 4 = (r : Int) := by rw [Int.tmod_eq_emod_of_nonneg (by omega)]; exact m1
    have e1 : ¬ (r : Int) = 3 := by have := Hr.out; omega
    have e2 : ((r : Int) != 3) = true := by simpa using e1
    clear h hp h4 hT
    go_enter Tryd.func9, Tryd.ntmps9
    go_wp2_with (first
      | (go_at_call 21; refine C.out.mono ?_; rintro e w1 ⟨v, rfl, ⟨a, n, c, rfl⟩, hb⟩; clear C)
      | go_in)
    go_ret2
    exact ⟨rfl, Below.next hb (balloc _ _)⟩
set_option maxRecDepth 100000 in
set_option maxHeartbeats 4000000 in
theorem Paley_ok (P : Nat) (w : World) (hT : Fd.Tab w) (h1 : 1 ≤ P) (h60 : P ≤ 60) (hp : Fd.isPrimeB (P : Int) = true) (h4 : P % 4 = 3) : Calls Tryd.prog 9 #[.int .i64 (P : Int)] w fun e w' => ∃ x, e = .returned (.tuple #[x, .int .i64 0]) ∧ Sl w' x ((paL P).map Int.ofNat) ∧ Below w.heap.size w w' := by
  have d1 : decide ((P : Int) < 1) = false := by simp; omega
  have d2 : decide (60 < (P : Int)) = false := by simp; omega
  have C : Hid (Calls Tryd.prog 21 #[.int .i64 (P : Int), .int .i64 1] w fun e w' => ∃ v, e = .returned (.tuple #[.agg #[.int .i64 (P : Int), .int .i64 1, v], .int .i64 0]) ∧ Sl w' v [0] ∧ Below w.heap.size w w') := (Fd.least_any (P : Int) 1 w hT).mono (by
    rintro e w' ⟨q, d, v, l, z, rfl, hs, hL, hb⟩
    obtain ⟨rfl, rfl, rfl, rfl⟩ := least_one h60 hp hL
    exact ⟨_, rfl, hs, hb⟩)
  have HS : Hid (∀ (v : Value) (W : World), Below w.heap.size w W → Sl W v [0] → Calls Tryd.prog 22 #[.agg #[.int .i64 (P : Int), .int .i64 1, v]] W fun e w' => ∃ x, e = .returned (.tuple #[x, .int .i64 0]) ∧ Sl w' x ((paL P).map Int.ofNat) ∧ Below W.heap.size W w') := fun v W b hl => Sq_low P v W h60 hp h4 (hT.below b) hl
  have m1 : (P : Int) % 4 = 3 := by omega
  have m2 : (P : Int).tmod 4 = 3 := by rw [Int.tmod_eq_emod_of_nonneg (by omega)]; exact m1
  generalize (paL P).map Int.ofNat = L at *
  clear hp h4 hT
  go_enter Tryd.func9, Tryd.ntmps9
  go_wp2_with (first
    | (go_at_call 21; refine C.out.mono ?_; rintro e w1 ⟨v, rfl, hv, hb⟩; clear C; have C2 := HS.out v (w1.alloc (.cells #[.int .i64 (P : Int), .int .i64 1, v] 24)) (Below.next hb (balloc _ _)) (hv.below (balloc _ _)); have HB1 : Hid (Below w.heap.size w (w1.alloc (.cells #[.int .i64 (P : Int), .int .i64 1, v] 24))) := Below.next hb (balloc _ _); obtain ⟨va, vc, hve, _⟩ := hv; subst hve; have hFc := (Fd.FB.made w1 (P : Int) 1 (.slice va 1 vc)).cells; clear HS hb)
    | (go_at_call 22; refine C2.mono ?_; rintro e w2 ⟨x, rfl, hx, hb⟩; clear C2; have HX : Hid (Sl w2 x L) := hx; have HB2 : Hid (Below w.heap.size w w2) := Below.next HB1.out hb; clear hb hx)
    | go_in)
  go_ret2
  exact ⟨x, rfl, HX.out, HB2.out⟩

end Go.Proofs.YtogdcjlgddleaaaDoor

namespace Go.Proofs.YtogdcjlgddleaaaDoor
open Go.RowKit

/-- Is a number a square of one of the first k? -/
def sqA (p x k : Nat) : Bool := (List.range k).any fun y => decide (1 ≤ y) && (y * y % p == x)
theorem sqA_one (p x : Nat) : sqA p x 1 = false := by simp [sqA, List.range_succ]
theorem sqA_up {p x k : Nat} (hk : 1 ≤ k) : sqA p x (k + 1) = (sqA p x k || (k * k % p == x)) := by
  unfold sqA
  rw [List.range_succ, List.any_append]
  simp [hk]
theorem sqA_mono {p x k : Nat} (hk : k ≤ p) (h : sqA p x k = true) : sqA p x p = true := by
  unfold sqA at h ⊢
  obtain ⟨s, hs, e⟩ := List.any_eq_true.1 h
  exact List.any_eq_true.2 ⟨s, List.mem_range.2 (Nat.lt_of_lt_of_le (List.mem_range.1 hs) hk), e⟩
def paT (p k : Nat) : List Nat := (List.range k).filter fun x => decide (1 ≤ x) && sqA p x p
theorem paT_all (p : Nat) : paT p p = paL p := rfl
theorem paT_one (p : Nat) : paT p 1 = [] := by simp [paT, List.range_succ]
theorem paT_up {p k : Nat} (hk : 1 ≤ k) : paT p (k + 1) = paT p k ++ if sqA p k p = true then [k] else [] := by
  unfold paT
  rw [ran_up]
  congr 1
  simp [hk]
theorem paT_len (p k : Nat) : (paT p k).length ≤ k := Nat.le_trans (List.length_filter_le _ _) (by simp)
set_option maxHeartbeats 4000000 in
theorem PaleyOf_far (p : Int) (w : World) (h : p < 1 ∨ 60 < p) : Calls Tryd.prog 10 #[.int .i64 p] w fun e w' => e = .returned (.tuple #[.slice none 0 0, .int .i64 1]) ∧ Below w.heap.size w w' := by
  by_cases h1 : p < 1
  · have d1 : decide (p < 1) = true := decide_eq_true h1
    clear h h1
    go_enter Tryd.func10, Tryd.ntmps10
    go_wp2
    go_ret2
    exact ⟨rfl, Below.refl _ _⟩
  · have d1 : decide (p < 1) = false := decide_eq_false h1
    have h2 : 60 < p := by omega
    have d2 : decide (60 < p) = true := decide_eq_true h2
    clear h h1 h2
    go_enter Tryd.func10, Tryd.ntmps10
    go_wp2
    go_ret2
    exact ⟨rfl, Below.refl _ _⟩
set_option maxHeartbeats 4000000 in
theorem PaleyOf_none (P : Nat) (w : World) (h1 : 1 ≤ P) (h60 : P ≤ 60) (h : Fd.isPrimeB (P : Int) = false ∨ P % 4 ≠ 3) : Calls Tryd.prog 10 #[.int .i64 (P : Int)] w fun e w' => e = .returned (.tuple #[.slice none 0 0, .int .i64 4]) ∧ Below w.heap.size w w' := by
  have d1 : decide ((P : Int) < 1) = false := by simp; omega
  have d2 : decide (60 < (P : Int)) = false := by simp; omega
  have C : Hid (Calls Tryd.prog 23 #[.int .i64 (P : Int)] w fun e w' => e = .returned (.bool (Fd.isPrimeB (P : Int))) ∧ w' = w) := Fd.isPrimeRef_any (P : Int) w (by omega)
  cases hp : Fd.isPrimeB (P : Int)
  · rw [hp] at C
    clear h hp
    go_enter Tryd.func10, Tryd.ntmps10
    go_wp2_with (first
      | (go_at_call 23; refine C.out.mono ?_; rintro e w1 ⟨rfl, rfl⟩; clear C)
      | go_in)
    go_ret2
    exact ⟨rfl, Below.refl _ _⟩
  · rw [hp] at C
    have h4 : P % 4 ≠ 3 := by
      rcases h with h | h
      · rw [hp] at h; cases h
      · exact h
    obtain ⟨r, Hr⟩ : ∃ r, Hid (P % 4 = r) := ⟨_, rfl⟩
    have m1 : (P : Int) % 4 = (r : Int) := by rw [← Hr.out]; simp
    have m2 : (P : Int).tmod 4 = (r : Int) := by rw [Int.tmod_eq_emod_of_nonneg (by omega)]; exact m1
    have e1 : ¬ (r : Int) = 3 := by have := Hr.out; omega
    have e2 : ((r : Int) != 3) = true := by simpa using e1
    clear h hp h4
    go_enter Tryd.func10, Tryd.ntmps10
    go_wp2_with (first
      | (go_at_call 23; refine C.out.mono ?_; rintro e w1 ⟨rfl, rfl⟩; clear C)
      | go_in)
    go_ret2
    exact ⟨rfl, Below.refl _ _⟩
set_option maxRecDepth 100000 in
set_option maxHeartbeats 8000000 in
theorem PaleyOf_ok (P : Nat) (w : World) (h1 : 1 ≤ P) (h60 : P ≤ 60) (hp : Fd.isPrimeB (P : Int) = true) (h4 : P % 4 = 3) : Calls Tryd.prog 10 #[.int .i64 (P : Int)] w fun e w' => ∃ x, e = .returned (.tuple #[x, .int .i64 0]) ∧ ORow w' w.heap.size x (paL P) ∧ Below w.heap.size w w' := by
  have d1 : decide ((P : Int) < 1) = false := by simp; omega
  have d2 : decide (60 < (P : Int)) = false := by simp; omega
  have C : Hid (Calls Tryd.prog 23 #[.int .i64 (P : Int)] w fun e w' => e = .returned (.bool true) ∧ w' = w) := by
    have := Fd.isPrimeRef_any (P : Int) w (by omega)
    rw [hp] at this
    exact this
  have m1 : (P : Int) % 4 = 3 := by omega
  have m2 : (P : Int).tmod 4 = 3 := by rw [Int.tmod_eq_emod_of_nonneg (by omega)]; exact m1
  have HU : Hid (∀ k, 1 ≤ k → paT P (k + 1) = paT P k ++ if sqA P k P = true then [k] else []) := fun k h => paT_up h
  have HL : Hid (∀ k, (paT P k).length ≤ k) := paT_len P
  have H1 : Hid (paT P 1 = []) := paT_one P
  have HA : Hid (paT P P = paL P) := paT_all P
  have HM0 : Hid (∀ x, sqA P x 1 = false) := sqA_one P
  have HMu : Hid (∀ x k, 1 ≤ k → sqA P x (k + 1) = (sqA P x k || (k * k % P == x))) := fun x k h => sqA_up h
  have HMm : Hid (∀ x k, k ≤ P → sqA P x k = true → sqA P x P = true) := fun x k h1 h2 => sqA_mono h1 h2
  obtain ⟨R, HR⟩ : ∃ R, Hid (paL P = R) := ⟨_, rfl⟩
  rw [HR.out] at HA ⊢
  obtain ⟨i3, hi3, hz0, hz1, hz2⟩ := info3
  obtain ⟨g, Hg⟩ : ∃ g, Hid (w.heap.size = g) := ⟨_, rfl⟩
  rw [Hg.out]
  have hgw : w.heap.size = g := Hg.out
  have hv0 : (P : Int) ≠ 0 := by omega
  have hw4 : ¬ P = 0 := by omega
  clear hp h4
  go_enter Tryd.func10, Tryd.ntmps10
  go_wp2_with (first
    | (go_at_call 23; refine C.out.mono ?_; rintro e w1 ⟨rfl, rfl⟩; clear C)
    | go_in)
  go_loopw [5, 6] (fun ov tv wr => ∃ t : Nat, tv = .int .i64 (t : Int) ∧ 1 ≤ t ∧ (t ≤ P ∨ t = 1) ∧ ORow wr g ov (paT P t) ∧ Below g w1 wr) (fun _ tv _ => (P - intOf tv).toNat)
  case atStart => exact ⟨1, rfl, by omega, .inr rfl, by rw [H1.out]; exact World.ownsRow_nil _ _ _ _, by rw [← hgw]; exact Below.refl _ _⟩
  case round =>
    clear H1 m1 m2
    obtain ⟨t, rfl, ht1, htv, hown, hB⟩ := hrel
    have hgs : g ≤ wr.heap.size := by rw [← hgw]; exact hB.size
    by_cases hlt : t < P
    · have hdi : decide ((t : Int) < (P : Int)) = true := by simp; omega
      have hii : (t : Int) < (P : Int) := by omega
      have hU := HU.out t ht1
      have hL := HL.out t
      obtain ⟨l, Hl⟩ : ∃ l, Hid (paT P t = l) := ⟨_, rfl⟩
      rw [Hl.out] at hU hL hown
      obtain ⟨A, HAA⟩ : ∃ A : Nat → Bool, Hid (∀ k, sqA P t k = A k) := ⟨fun k => sqA P t k, fun _ => rfl⟩
      have HM0' : Hid (A 1 = false) := by show _ = _; rw [← HAA.out]; exact HM0.out t
      have HMu' : Hid (∀ k, 1 ≤ k → A (k + 1) = (A k || (k * k % P == t))) := fun k h => by rw [← HAA.out, ← HAA.out]; exact HMu.out t k h
      have HMm' : Hid (∀ k, k ≤ P → A k = true → A P = true) := fun k h1 h2 => by rw [← HAA.out] at h2 ⊢; exact HMm.out t k h1 h2
      rw [HAA.out] at hU
      have HUU : Hid (paT P (t + 1) = l ++ if A P = true then [t] else []) := hU
      unfold ORow at hown
      obtain ⟨oa, oc, rfl⟩ := own_form hown
      clear hU HU HL HA Hl HM0 HMu HMm HAA
      go_wp2
      go_loopw [7, 8] (fun bv sv wr' => ∃ (s : Nat) (b : Bool), sv = .int .i64 (s : Int) ∧ bv = .bool b ∧ 1 ≤ s ∧ (s ≤ P ∨ s = 1) ∧ Hid (A s = b) ∧ wr' = wr) (fun _ sv _ => (P - intOf sv).toNat)
      case atStart => exact ⟨1, false, rfl, rfl, by omega, .inr rfl, HM0', rfl⟩
      case round =>
        clear HM0'
        obtain ⟨s, b, rfl, rfl, hs1, hs, HAs, rfl⟩ := hrel
        by_cases hin : s < P ∧ b = false
        · obtain ⟨hsv, rfl⟩ := hin
          have hds : decide ((s : Int) < (P : Int)) = true := by simp; omega
          have hsi : (s : Int) < (P : Int) := by omega
          have hA1 := HMu'.out s hs1
          rw [HAs.out, Bool.false_or] at hA1
          obtain ⟨m, hm⟩ : ∃ m, s * s = m := ⟨_, rfl⟩
          have hmi : (s : Int) * (s : Int) = (m : Int) := by rw [← hm]; simp
          have hmb : m ≤ 60 * 60 := by rw [← hm]; exact Nat.mul_le_mul (by omega) (by omega)
          rw [hm] at hA1
          obtain ⟨r, Hr⟩ : ∃ r, Hid (m % P = r) := ⟨_, rfl⟩
          have m1 : (m : Int) % (P : Int) = (r : Int) := by rw [← Hr.out]; simp
          have m2 : (m : Int).tmod (P : Int) = (r : Int) := by rw [Int.tmod_eq_emod_of_nonneg (by omega)]; exact m1
          rw [Hr.out] at hA1
          have hq : ((r : Int) == (t : Int)) = (r == t) := by rw [Bool.eq_iff_iff]; simp; omega
          obtain ⟨q, Hq⟩ : ∃ q, Hid ((r == t) = q) := ⟨_, rfl⟩
          rw [Hq.out] at hA1 hq
          have HA1 : Hid (A (s + 1) = q) := hA1
          clear hA1 HMu' HMm' HUU HAs hm
          go_wp2
          go_roundw
          case rel => exact ⟨s + 1, q, by go_num, by first | rfl | simp [hq], by omega, .inl (by omega), HA1, by first | rfl | trivial⟩
          case measure => simp [intOf]; omega
        · have hsP : s ≤ P := by omega
          have hfin : A P = b := by
            cases hb : b
            · have : ¬ s < P := fun h => hin ⟨h, hb⟩
              obtain rfl : s = P := by omega
              rw [HAs.out, hb]
            · exact HMm'.out s hsP (by rw [HAs.out, hb])
          rw [hfin] at HUU
          have hout : ¬ s < P ∨ (s < P ∧ b = true) := by
            by_cases h : s < P
            · refine .inr ⟨h, ?_⟩
              cases b
              · exact (hin ⟨h, rfl⟩).elim
              · rfl
            · exact .inl h
          clear hin hfin HMu' HMm' HAs
          cases b
          · have hds2 : ¬ s < P := by
              rcases hout with h | ⟨_, h⟩
              · exact h
              · cases h
            have hds : decide ((s : Int) < (P : Int)) = false := by simp; omega
            have hds3 : ¬ (s : Int) < (P : Int) := by omega
            have HU1 : Hid (paT P (t + 1) = l) := by show _ = _; rw [HUU.out]; simp
            clear hout HUU
            go_wp2
            go_roundw
            case rel => exact ⟨t + 1, by go_num, by omega, .inl (by omega), by rw [HU1.out]; exact hown, hB⟩
            case measure => simp [intOf]; omega
          · have HU1 : Hid (paT P (t + 1) = l ++ [t]) := by show _ = _; rw [HUU.out]; simp
            clear HUU
            rcases hout with hds2 | ⟨hds2, _⟩
            · have hds : decide ((s : Int) < (P : Int)) = false := by simp; omega
              have hds3 : ¬ (s : Int) < (P : Int) := by omega
              go_wp2_with (first
                | (at_builtin; refine wpList_append_own _ rfl _ _ 22 rfl g 3 i3 (.int .i64 0) 1 8 und22 hi3 hz0 hz1 hz2 rfl (by decide) _ _ _ rfl (hown.alloc _) ⟨wr.heap.size, 0, none⟩ 1 1 [.int .i64 (t : Int)] rfl rfl (fun j u hj => by (match j, hj with | 0, hj => simp at hj; subst hj; simp [Addr.add])) (fun u hu => by (simp at hu; subst hu; rfl)) (by (unfold maxLen; omega)) (by omega) (by (simp; omega)) ?_; intro v' w4 hown' hgrow _)
                | go_in)
              have hb4 : Below g w1 w4 := (hB.alloc (by omega) _).grown hgrow (by simp; omega) (fun k hk => (hown.lt k hk).1)
              have hown4 : w4.ownsRow g 3 1 v' (l.length + 1) (((l ++ [t]).map Int.ofNat).map (Value.int .i64)) := by simpa using hown'
              have hown5 : ORow w4 g v' (paT P (t + 1)) := by
                rw [HU1.out]
                unfold ORow
                rw [List.length_append]
                exact hown4
              clear hown' hown4 hgrow hown hB
              go_roundw
              case rel => exact ⟨t + 1, by go_num, by omega, .inl (by omega), hown5, hb4⟩
              case measure => simp [intOf]; omega
            · have hds : decide ((s : Int) < (P : Int)) = true := by simp; omega
              have hds3 : (s : Int) < (P : Int) := by omega
              go_wp2_with (first
                | (at_builtin; refine wpList_append_own _ rfl _ _ 22 rfl g 3 i3 (.int .i64 0) 1 8 und22 hi3 hz0 hz1 hz2 rfl (by decide) _ _ _ rfl (hown.alloc _) ⟨wr.heap.size, 0, none⟩ 1 1 [.int .i64 (t : Int)] rfl rfl (fun j u hj => by (match j, hj with | 0, hj => simp at hj; subst hj; simp [Addr.add])) (fun u hu => by (simp at hu; subst hu; rfl)) (by (unfold maxLen; omega)) (by omega) (by (simp; omega)) ?_; intro v' w4 hown' hgrow _)
                | go_in)
              have hb4 : Below g w1 w4 := (hB.alloc (by omega) _).grown hgrow (by simp; omega) (fun k hk => (hown.lt k hk).1)
              have hown4 : w4.ownsRow g 3 1 v' (l.length + 1) (((l ++ [t]).map Int.ofNat).map (Value.int .i64)) := by simpa using hown'
              have hown5 : ORow w4 g v' (paT P (t + 1)) := by
                rw [HU1.out]
                unfold ORow
                rw [List.length_append]
                exact hown4
              clear hown' hown4 hgrow hown hB
              go_roundw
              case rel => exact ⟨t + 1, by go_num, by omega, .inl (by omega), hown5, hb4⟩
              case measure => simp [intOf]; omega
    · have hdi : decide ((t : Int) < (P : Int)) = false := by simp; omega
      obtain rfl : t = P := by omega
      rw [HA.out] at hown
      go_wp2
      go_ret2
      exact ⟨_, rfl, hown, hB⟩

end Go.Proofs.YtogdcjlgddleaaaDoor

/- The walk of Singer. -/
/- The walk of traceless. -/
namespace Go.Proofs.YtogdcjlgddleaaaDoor
open Go.RowKit

set_option maxRecDepth 100000 in
set_option maxHeartbeats 8000000 in
theorem traceless_any (P K n : Nat) (l : List Int) (v : Value) (w : World) (hT : Fd.Tab w) (hl : Sl w v l) (hG : Fd.GoodF P K l) (hn : n ≤ 60) :
    Calls Tryd.prog 26 #[.agg #[.int .i64 (P : Int), .int .i64 (K : Int), v], .int .i64 (n : Int)] w fun e w' => ∃ (R : Nat) (x : Value), e = .returned x ∧ Fd.RootIs P K (Fd.monL l) R ∧ ORow w' w.heap.size x (sgL P K (Fd.monL l) R n) ∧ Below w.heap.size w w' := by
  have hll : l.length ≤ maxLen := by rw [hG.len]; have := hG.le6; unfold maxLen; omega
  have HR : Hid (∀ W, Below w.heap.size w W → Calls Tryd.prog 41 #[.agg #[.int .i64 (P : Int), .int .i64 (K : Int), v]] W fun e w' => ∃ R : Nat, e = .returned (.tuple #[.int .i64 (R : Int), .int .i64 0]) ∧ Fd.RootIs P K (Fd.monL l) R ∧ Below W.heap.size W w') := fun W b => RootG P K l v W (hT.below b) (hl.below b) hG
  have HP : Hid (∀ (R i : Nat) (W : World), Fd.RootIs P K (Fd.monL l) R → i ≤ 60 → Below w.heap.size w W → Calls Tryd.prog 42 #[.agg #[.int .i64 (P : Int), .int .i64 (K : Int), v], .int .i64 (R : Int), .int .i64 (i : Int)] W fun e w' => e = .returned (.tuple #[.int .i64 (Fd.powQ P K (Fd.monL l) R i : Int), .int .i64 0]) ∧ Below W.heap.size W w') := fun R i W hR hi b =>
    Fd.PowG P K R (i : Int) l v W (hT.below b) (hl.below b) hll hG (good_root hG hR) (by omega) (by omega) _ (by show _ = _; rw [Int.toNat_natCast])
  have HTr : Hid (∀ (R i : Nat) (W : World), Below w.heap.size w W → Calls Tryd.prog 43 #[.agg #[.int .i64 (P : Int), .int .i64 (K : Int), v], .int .i64 (Fd.powQ P K (Fd.monL l) R i : Int)] W fun e w' => e = .returned (.tuple #[.int .i64 (Fd.trQ P K (Fd.monL l) K 0 (Fd.powQ P K (Fd.monL l) R i) : Int), .int .i64 0]) ∧ Below W.heap.size W w') := fun R i W b => by
    refine (Fd.TraceG P K (Fd.powQ P K (Fd.monL l) R i) l v W (hT.below b) (hl.below b) hll hG (Fd.powQ_lt hG.field.toRing1 R i)).mono ?_
    rintro e w' ⟨t, rfl, ht, hb⟩
    rw [ht.out]
    exact ⟨rfl, hb⟩
  obtain ⟨A, HA⟩ : ∃ A : Nat → Nat → Nat, Hid (∀ R i, Fd.powQ P K (Fd.monL l) R i = A R i) := ⟨fun R i => Fd.powQ P K (Fd.monL l) R i, fun _ _ => rfl⟩
  obtain ⟨B, HB⟩ : ∃ B : Nat → Nat → Nat, Hid (∀ R i, Fd.trQ P K (Fd.monL l) K 0 (Fd.powQ P K (Fd.monL l) R i) = B R i) := ⟨fun R i => Fd.trQ P K (Fd.monL l) K 0 (Fd.powQ P K (Fd.monL l) R i), fun _ _ => rfl⟩
  have HP2 : Hid (∀ (R i : Nat) (W : World), Fd.RootIs P K (Fd.monL l) R → i ≤ 60 → Below w.heap.size w W → Calls Tryd.prog 42 #[.agg #[.int .i64 (P : Int), .int .i64 (K : Int), v], .int .i64 (R : Int), .int .i64 (i : Int)] W fun e w' => e = .returned (.tuple #[.int .i64 (A R i : Int), .int .i64 0]) ∧ Below W.heap.size W w') := fun R i W hR hi b => by rw [← HA.out]; exact HP.out R i W hR hi b
  have HT2 : Hid (∀ (R i : Nat) (W : World), Below w.heap.size w W → Calls Tryd.prog 43 #[.agg #[.int .i64 (P : Int), .int .i64 (K : Int), v], .int .i64 (A R i : Int)] W fun e w' => e = .returned (.tuple #[.int .i64 (B R i : Int), .int .i64 0]) ∧ Below W.heap.size W w') := fun R i W b => by rw [← HA.out, ← HB.out]; exact HTr.out R i W b
  obtain ⟨F, HF⟩ : ∃ F : Nat → Nat → List Nat, Hid (∀ R k, sgL P K (Fd.monL l) R k = F R k) := ⟨fun R k => sgL P K (Fd.monL l) R k, fun _ _ => rfl⟩
  have HU : Hid (∀ R k, F R (k + 1) = F R k ++ if (B R k == 0) = true then [k] else []) := fun R k => by rw [← HF.out, ← HF.out, ← HB.out]; exact ran_up _ k
  have HLn : Hid (∀ R k, (F R k).length ≤ k) := fun R k => by rw [← HF.out]; exact Nat.le_trans (List.length_filter_le _ _) (by simp)
  have HF0 : Hid (∀ R, F R 0 = []) := fun R => by rw [← HF.out]; rfl
  have HFin : Hid (∀ R, F R n = sgL P K (Fd.monL l) R n) := fun R => by rw [HF.out]
  obtain ⟨a, c, rfl, _⟩ := id hl
  obtain ⟨i3, hi3, hz0, hz1, hz2⟩ := info3
  have hF0 := Fd.FB.made w (P : Int) (K : Int) (.slice a l.length c)
  have hb0 := balloc w (.cells #[.int .i64 (P : Int), .int .i64 (K : Int), .slice a l.length c] 24)
  obtain ⟨W0, HW0⟩ : ∃ W0, Hid (w.alloc (.cells #[.int .i64 (P : Int), .int .i64 (K : Int), .slice a l.length c] 24) = W0) := ⟨_, rfl⟩
  obtain ⟨s1, Hs1⟩ : ∃ s1, Hid (w.heap.size + 1 = s1) := ⟨_, rfl⟩
  have hsz : W0.heap.size = s1 := by rw [← HW0.out, ← Hs1.out]; simp
  have hFc := hF0.cells
  have HFB : Hid (∀ W, Below s1 W0 W → Fd.FB W w.heap.size P K (.slice a l.length c)) := fun W b => by rw [HW0.out] at hF0; exact hF0.below (by rw [hsz]; exact b)
  have HBW : Hid (∀ W, Below s1 W0 W → Below w.heap.size w W) := fun W b => by rw [HW0.out] at hb0; exact hb0.trans (b.mono (by have := Hs1.out; omega))
  generalize l.length = ln at *
  have hsl : w.heap.size ≤ s1 := by have := Hs1.out; omega
  clear hF0 hb0 hG hT hl hll HP HTr HA HB HF
  go_enter Tryd.func26, Tryd.ntmps26
  go_wp2_with fail
  rw [HW0.out]
  refine (HR.out W0 (HBW.out _ (Below.refl _ _))).mono ?_
  rintro e w1 ⟨R, rfl, hRt, hb1⟩
  have hB1 : Below s1 W0 w1 := by rw [hsz] at hb1; exact hb1
  have HRt : Hid (Fd.RootIs P K (Fd.monL l) R) := hRt
  clear HR hFc hb1 hRt
  go_wp2
  go_loopw [7, 19] (fun ov iv wr => ∃ i : Nat, iv = .int .i64 (i : Int) ∧ i ≤ n ∧ ORow wr s1 ov (F R i) ∧ Below s1 W0 wr) (fun _ iv _ => (n - intOf iv).toNat)
  case atStart => exact ⟨0, rfl, by omega, by rw [HF0.out]; exact World.ownsRow_nil _ _ _ _, hB1⟩
  case round =>
    clear hB1 HF0
    obtain ⟨i, rfl, hi, hown, hB⟩ := hrel
    have hgs : s1 ≤ wr.heap.size := by rw [← hsz]; exact hB.size
    by_cases hlt : i < n
    · have hii : (i : Int) < n := by omega
      have hdec : decide ((i : Int) < n) = true := by simp; omega
      have C2 := HP2.out R i wr HRt.out (by omega) (HBW.out _ hB)
      have HT3 : Hid (∀ W, Below w.heap.size w W → Calls Tryd.prog 43 #[.agg #[.int .i64 (P : Int), .int .i64 (K : Int), .slice a ln c], .int .i64 (A R i : Int)] W fun e w' => e = .returned (.tuple #[.int .i64 (B R i : Int), .int .i64 0]) ∧ Below W.heap.size W w') := HT2.out R i
      have hU := HU.out R i
      have hL := HLn.out R i
      have hFc := (HFB.out _ hB).cells
      obtain ⟨ar, Har⟩ : ∃ ar, Hid (A R i = ar) := ⟨_, rfl⟩
      obtain ⟨br, Hbr⟩ : ∃ br, Hid (B R i = br) := ⟨_, rfl⟩
      obtain ⟨ll, Hll⟩ : ∃ ll, Hid (F R i = ll) := ⟨_, rfl⟩
      rw [Har.out] at C2 HT3
      rw [Hbr.out] at HT3 hU
      rw [Hll.out] at hU hL hown
      unfold ORow at hown
      obtain ⟨oa, oc, rfl⟩ := own_form hown
      have HUU : Hid (F R (i + 1) = ll ++ if (br == 0) = true then [i] else []) := hU
      clear hU HP2 HT2 HU HLn HFin
      go_wp2_with fail
      refine C2.mono ?_
      rintro e w2 ⟨rfl, hb2⟩
      have hB2 : Below s1 W0 w2 := hB.trans (hb2.mono hgs)
      have hown2 := own_keep hown fun b _ hb => hb2.block b hb
      have C3 := HT3.out _ (HBW.out _ hB2)
      have hgs2 : s1 ≤ w2.heap.size := by rw [← hsz]; exact hB2.size
      clear C2 HT3 hFc hb2 hown hB
      have hFc := (HFB.out _ hB2).cells
      go_wp2_with fail
      refine C3.mono ?_
      rintro e w3 ⟨rfl, hb3⟩
      have hB3 : Below s1 W0 w3 := hB2.trans (hb3.mono hgs2)
      have hown3 := own_keep hown2 fun b _ hb => hb3.block b hb
      have hgs3 : s1 ≤ w3.heap.size := by rw [← hsz]; exact hB3.size
      clear C3 hFc hb3 hown2 hB2
      by_cases hbr : br = 0
      · subst hbr
        have HU1 : Hid (F R (i + 1) = ll ++ [i]) := by show _ = _; rw [HUU.out]; simp
        clear HUU
        go_wp2_with (first
          | (at_builtin; refine wpList_append_own _ rfl _ _ 22 rfl s1 3 i3 (.int .i64 0) 1 8 und22 hi3 hz0 hz1 hz2 rfl (by decide) _ _ _ rfl (hown3.alloc _) ⟨w3.heap.size, 0, none⟩ 1 1 [.int .i64 (i : Int)] rfl rfl (fun j u hj => by (match j, hj with | 0, hj => simp at hj; subst hj; simp [Addr.add])) (fun u hu => by (simp at hu; subst hu; rfl)) (by (unfold maxLen; omega)) (by omega) (by (simp; omega)) ?_; intro v' w4 hown' hgrow _)
          | go_in)
        have hb4 : Below s1 W0 w4 := (hB3.alloc (by omega) _).grown hgrow (by simp; omega) (fun k hk => (hown3.lt k hk).1)
        have hown4 : w4.ownsRow s1 3 1 v' (ll.length + 1) (((ll ++ [i]).map Int.ofNat).map (Value.int .i64)) := by simpa using hown'
        have hown5 : ORow w4 s1 v' (F R (i + 1)) := by
          rw [HU1.out]
          unfold ORow
          rw [List.length_append]
          exact hown4
        clear hown' hown4 hgrow hown3 hB3
        go_roundw
        case rel => exact ⟨i + 1, by go_num, by omega, hown5, hb4⟩
        case measure => simp [intOf]; omega
      · have e1 : ¬ (br : Int) = 0 := by omega
        have e2 : ((br : Int) == 0) = false := by simpa using e1
        have HU1 : Hid (F R (i + 1) = ll) := by show _ = _; rw [HUU.out]; simp [hbr]
        clear HUU
        go_wp2
        go_roundw
        case rel => exact ⟨i + 1, by go_num, by omega, by rw [HU1.out]; exact hown3, hB3⟩
        case measure => simp [intOf]; omega
    · have hdec : decide ((i : Int) < n) = false := by simp; omega
      obtain rfl : i = n := by omega
      rw [HFin.out] at hown
      go_wp2
      go_ret
      exact ⟨R, _, rfl, HRt.out, own_low hown hsl, HBW.out _ hB⟩

end Go.Proofs.YtogdcjlgddleaaaDoor

namespace Go.Proofs.YtogdcjlgddleaaaDoor
open Go.RowKit

theorem CheckF (p k z : Int) (l : List Int) (v : Value) (w : World) (hT : Fd.Tab w) (hl : Sl w v l) (hll : l.length ≤ maxLen) (hF : Fd.FaultIs p k l z) :
    Calls Tryd.prog 24 #[.agg #[.int .i64 p, .int .i64 k, v]] w fun e w' => e = .returned (.int .i64 z) ∧ Below w.heap.size w w' := by
  refine (Fd.Check_any p k l v w hT hl hll).mono ?_
  rintro e w' ⟨z', rfl, h, hb⟩
  rw [h.one hF]
  exact ⟨rfl, hb⟩
set_option maxRecDepth 100000 in
set_option maxHeartbeats 4000000 in
theorem Singer_bad (p k z : Int) (l : List Int) (v : Value) (w : World) (hT : Fd.Tab w) (hl : Sl w v l) (hll : l.length ≤ maxLen) (hF : Fd.FaultIs p k l z) (hz : z ≠ 0) :
    Calls Tryd.prog 12 #[.agg #[.int .i64 p, .int .i64 k, v]] w fun e w' => e = .returned (.tuple #[.int .i64 0, .slice none 0 0, .int .i64 z]) ∧ Below w.heap.size w w' := by
  obtain ⟨a, c, rfl, _⟩ := id hl
  have hb0 := balloc w (.cells #[.int .i64 p, .int .i64 k, .slice a l.length c] 24)
  have C := CheckF p k z l _ _ (hT.below hb0) (hl.below hb0) hll hF
  have hFc := (Fd.FB.made w p k (.slice a l.length c)).cells
  generalize l.length = ln at *
  have hz2 : (z != 0) = true := by simpa using hz
  clear hT hl hll hF
  go_enter Tryd.func12, Tryd.ntmps12
  go_wp2_with (first
    | (go_at_call 24; refine C.mono ?_; rintro e w1 ⟨rfl, hb⟩; clear C; have HB : Hid (Below w.heap.size w w1) := Below.next hb0 hb; clear hb hb0 hFc)
    | go_in)
  go_ret3
  exact ⟨rfl, HB.out⟩
set_option maxRecDepth 100000 in
set_option maxHeartbeats 4000000 in
theorem Singer_none (P K : Nat) (l : List Int) (v : Value) (w : World) (hT : Fd.Tab w) (hl : Sl w v l) (hll : l.length ≤ maxLen) (hG : Fd.GoodF P K l) (hK : K < 3) :
    Calls Tryd.prog 12 #[.agg #[.int .i64 (P : Int), .int .i64 (K : Int), v]] w fun e w' => e = .returned (.tuple #[.int .i64 0, .slice none 0 0, .int .i64 4]) ∧ Below w.heap.size w w' := by
  obtain ⟨a, c, rfl, _⟩ := id hl
  have hb0 := balloc w (.cells #[.int .i64 (P : Int), .int .i64 (K : Int), .slice a l.length c] 24)
  have C := CheckF P K 0 l _ _ (hT.below hb0) (hl.below hb0) hll hG.fault
  have hF0 := Fd.FB.made w (P : Int) (K : Int) (.slice a l.length c)
  have hFc := hF0.cells
  generalize l.length = ln at *
  have d1 : decide ((K : Int) < 3) = true := by simp; omega
  have d2 : (K : Int) < 3 := by omega
  clear hT hl hll hG
  go_enter Tryd.func12, Tryd.ntmps12
  go_wp2_with (first
    | (go_at_call 24; refine C.mono ?_; rintro e w1 ⟨rfl, hb⟩; clear C; have HB : Hid (Below w.heap.size w w1) := Below.next hb0 hb; clear hFc; have hFc := (hF0.below hb).cells; clear hb hb0 hF0)
    | go_in)
  go_ret3
  exact ⟨rfl, HB.out⟩
set_option maxRecDepth 100000 in
set_option maxHeartbeats 4000000 in
theorem Singer_full (P K : Nat) (l : List Int) (v : Value) (w : World) (hT : Fd.Tab w) (hl : Sl w v l) (hll : l.length ≤ maxLen) (hG : Fd.GoodF P K l) (hK : 3 ≤ K) (hr : 60 < rep P K) :
    Calls Tryd.prog 12 #[.agg #[.int .i64 (P : Int), .int .i64 (K : Int), v]] w fun e w' => e = .returned (.tuple #[.int .i64 0, .slice none 0 0, .int .i64 3]) ∧ Below w.heap.size w w' := by
  obtain ⟨a, c, rfl, _⟩ := id hl
  have hb0 := balloc w (.cells #[.int .i64 (P : Int), .int .i64 (K : Int), .slice a l.length c] 24)
  have C := CheckF P K 0 l _ _ (hT.below hb0) (hl.below hb0) hll hG.fault
  have HD : Hid (∀ W, Calls Tryd.prog 25 #[.agg #[.int .i64 (P : Int), .int .i64 (K : Int), .slice a l.length c]] W fun e w' => e = .returned (.int .i64 (rep P K : Int)) ∧ Below W.heap.size W w') := fun W => directions_any P K _ W hG.field.two hG.le61 hG.le6 hG.le64 ⟨_, _, _, rfl⟩
  have hF0 := Fd.FB.made w (P : Int) (K : Int) (.slice a l.length c)
  have hFc := hF0.cells
  generalize l.length = ln at *
  generalize rep P K = r at *
  have d1 : decide ((K : Int) < 3) = false := by simp; omega
  have d2 : ¬ (K : Int) < 3 := by omega
  have d3 : decide (60 < (r : Int)) = true := by simp; omega
  have d4 : 60 < (r : Int) := by omega
  clear hT hl hll hG
  go_enter Tryd.func12, Tryd.ntmps12
  go_wp2_with (first
    | (go_at_call 24; refine C.mono ?_; rintro e w1 ⟨rfl, hb⟩; clear C; have HB : Hid (Below w.heap.size w w1) := Below.next hb0 hb; clear hFc; have hF1 := hF0.below hb; have hFc := hF1.cells; clear hb hb0 hF0)
    | (go_at_call 25; refine (HD.out _).mono ?_; rintro e w2 ⟨rfl, hb⟩; clear HD; have HB2 : Hid (Below w.heap.size w w2) := Below.next HB.out hb; clear hb hFc hF1)
    | go_in)
  go_ret3
  exact ⟨rfl, HB2.out⟩
set_option maxRecDepth 100000 in
set_option maxHeartbeats 4000000 in
theorem Singer_ok (P K : Nat) (l : List Int) (v : Value) (w : World) (hT : Fd.Tab w) (hl : Sl w v l) (hll : l.length ≤ maxLen) (hG : Fd.GoodF P K l) (hK : 3 ≤ K) (hr : rep P K ≤ 60) :
    Calls Tryd.prog 12 #[.agg #[.int .i64 (P : Int), .int .i64 (K : Int), v]] w fun e w' => ∃ (R : Nat) (x : Value), e = .returned (.tuple #[.int .i64 (rep P K : Int), x, .int .i64 0]) ∧ Fd.RootIs P K (Fd.monL l) R ∧ ORow w' 0 x (sgL P K (Fd.monL l) R (rep P K)) ∧ Below w.heap.size w w' := by
  obtain ⟨a, c, rfl, _⟩ := id hl
  have hb0 := balloc w (.cells #[.int .i64 (P : Int), .int .i64 (K : Int), .slice a l.length c] 24)
  have C := CheckF P K 0 l _ _ (hT.below hb0) (hl.below hb0) hll hG.fault
  have HD : Hid (∀ W, Calls Tryd.prog 25 #[.agg #[.int .i64 (P : Int), .int .i64 (K : Int), .slice a l.length c]] W fun e w' => e = .returned (.int .i64 (rep P K : Int)) ∧ Below W.heap.size W w') := fun W => directions_any P K _ W hG.field.two hG.le61 hG.le6 hG.le64 ⟨_, _, _, rfl⟩
  have HL : Hid (∀ W, Below w.heap.size w W → Calls Tryd.prog 26 #[.agg #[.int .i64 (P : Int), .int .i64 (K : Int), .slice a l.length c], .int .i64 (rep P K : Int)] W fun e w' => ∃ (R : Nat) (x : Value), e = .returned x ∧ Fd.RootIs P K (Fd.monL l) R ∧ ORow w' W.heap.size x (sgL P K (Fd.monL l) R (rep P K)) ∧ Below W.heap.size W w') := fun W b => traceless_any P K (rep P K) l _ W (hT.below b) (hl.below b) hG hr
  have hF0 := Fd.FB.made w (P : Int) (K : Int) (.slice a l.length c)
  have hFc := hF0.cells
  generalize l.length = ln at *
  obtain ⟨r, Hr⟩ : ∃ r, Hid (rep P K = r) := ⟨_, rfl⟩
  rw [Hr.out] at HD HL hr ⊢
  have d1 : decide ((K : Int) < 3) = false := by simp; omega
  have d2 : ¬ (K : Int) < 3 := by omega
  have d3 : decide (60 < (r : Int)) = false := by simp; omega
  have d4 : ¬ 60 < (r : Int) := by omega
  clear hT hl hll hG
  go_enter Tryd.func12, Tryd.ntmps12
  go_wp2_with (first
    | (go_at_call 24; refine C.mono ?_; rintro e w1 ⟨rfl, hb⟩; clear C; have HB : Hid (Below w.heap.size w w1) := Below.next hb0 hb; clear hFc; have hF1 := hF0.below hb; have hFc := hF1.cells; clear hb hb0 hF0)
    | (go_at_call 25; refine (HD.out _).mono ?_; rintro e w2 ⟨rfl, hb⟩; clear HD; have HB2 : Hid (Below w.heap.size w w2) := Below.next HB.out hb; clear hFc; have hF2 := hF1.below hb; have hFc := hF2.cells; clear hb hF1)
    | (go_at_call 26; refine (HL.out _ HB2.out).mono ?_; rintro e w3 ⟨R, x, rfl, hR, hx, hb⟩; clear HL; have HB3 : Hid (Below w.heap.size w w3) := Below.next HB2.out hb; have HX : Hid (Fd.RootIs P K (Fd.monL l) R ∧ ORow w3 0 x (sgL P K (Fd.monL l) R r)) := ⟨hR, own_low hx (Nat.zero_le _)⟩; clear hb hFc hF2 hR hx)
    | go_in)
  go_ret3
  exact ⟨R, x, rfl, HX.out.1, HX.out.2, HB3.out⟩

end Go.Proofs.YtogdcjlgddleaaaDoor

/- Singer's sets are of a level. -/
/- Singer's sets are of a level. -/
/- Singer's sets are of a level: by tables that the kernel checks. -/
namespace Go.Proofs.YtogdcjlgddleaaaDoor.Fd
open Go.RowKit

/-- Of a list of powers and a list of traces: has the i-th power none? -/
def sgZ (q : Nat) (L T : List Nat) (i : Nat) : Bool := T.getD (L.getD (i % q) 0) 0 == 0
def sgC (v m k : Nat) (D : List Nat) : Bool := lvB v D && (dfN v D 1 == m && D.length == k)
def sgChk : (Nat × Nat × Nat × Nat × Nat × List Nat) × List Nat → Bool
  | ((P, K, _, _, _, L), T) => decide (K < 3) || (decide (60 < rep P K) || (((List.range (P ^ K - 1)).all fun i => sgZ (P ^ K - 1) L T i == sgZ (P ^ K - 1) L T (i % rep P K)) && sgC (rep P K) (rep P (K - 2)) (rep P (K - 1)) ((List.range (rep P K)).filter (sgZ (P ^ K - 1) L T))))
theorem sg_ok : (genTab.zip trTab).all sgChk = true := by decide +kernel

end Go.Proofs.YtogdcjlgddleaaaDoor.Fd

namespace Go.Proofs.YtogdcjlgddleaaaDoor.Fd
open Go.RowKit

theorem good_sg {P K : Nat} {l : List Int} (hG : GoodF P K l) (hK3 : 3 ≤ K) (hr : rep P K ≤ 60) : ∃ (Z : Nat → Bool) (g : Nat), g < P ^ K ∧ powQ P K (monL l) g (P ^ K - 1) = 1 ∧ (∀ a, 1 ≤ a → a < P ^ K → ∃ j, j < P ^ K - 1 ∧ powQ P K (monL l) g j = a) ∧
    (∀ i, (trQ P K (monL l) K 0 (powQ P K (monL l) g i) == 0) = Z i) ∧ (∀ i, Z i = Z (i % rep P K)) ∧ sgC (rep P K) (rep P (K - 2)) (rep P (K - 1)) ((List.range (rep P K)).filter Z) = true := by
  obtain ⟨h0, h1, h2, h3⟩ := hG.fault.ok
  obtain ⟨P', K', e1, e2, hP, hP', hK, hK', hPK, hq, hlen, hmi, hmK, hpr⟩ := good_parts hG.fault
  obtain rfl : P = P' := by omega
  obtain rfl : K = K' := by omega
  rw [Int.toNat_natCast, Int.toNat_natCast] at h3
  have hR := hG.field.toRing1
  obtain ⟨n, s, c, L, hmem, hm⟩ := row_of_irr hpr hK hPK hlen h2 h3
  have hT := tab_of_row hR hm (List.all_eq_true.1 gen_ok _ hmem)
  obtain ⟨i, hi, e⟩ := List.mem_iff_getElem.1 hmem
  have hi2 : i < frobTab.length := Nat.lt_of_lt_of_le hi frob_len
  have hi3 : i < trTab.length := Nat.lt_of_lt_of_le hi tr_len
  have hz : (genTab.zip frobTab)[i]'(by rw [List.length_zip]; omega) = ((P, K, n, s, c, L), frobTab[i]) := by rw [List.getElem_zip]; exact congrArg (fun x => (x, frobTab[i])) e
  have hz3 : (genTab.zip (frobTab.zip trTab))[i]'(by rw [List.length_zip, List.length_zip]; omega) = ((P, K, n, s, c, L), frobTab[i], trTab[i]) := by rw [List.getElem_zip, List.getElem_zip]; exact congrArg (fun x => (x, frobTab[i], trTab[i])) e
  have hchk := List.all_eq_true.1 frob_ok _ (List.getElem_mem (l := genTab.zip frobTab) (n := i) (by rw [List.length_zip]; omega))
  have htr := List.all_eq_true.1 tr_ok _ (List.getElem_mem (l := genTab.zip (frobTab.zip trTab)) (n := i) (by rw [List.length_zip, List.length_zip]; omega))
  rw [hz] at hchk
  rw [hz3] at htr
  obtain ⟨⟨P', K', n', FX⟩, hf⟩ : ∃ r, r = frobTab[i] := ⟨_, rfl⟩
  obtain ⟨T, hTT⟩ : ∃ r, r = trTab[i] := ⟨_, rfl⟩
  rw [← hf] at hchk htr
  rw [← hTT] at htr
  unfold frobChk at hchk
  unfold trChk at htr
  simp only [Bool.and_eq_true, beq_iff_eq, List.all_eq_true, List.mem_range, decide_eq_true_eq] at hchk htr
  obtain ⟨_, hall⟩ := hchk
  obtain ⟨⟨ht1, ht2⟩, ht3⟩ := htr
  have hlin : ∀ a, a < P ^ K → powQ P K (monL l) a P = linQ P K FX a := fun a ha => by
    by_cases h0 : a = 0
    · subst h0
      rw [powQ_zero_pos hR P (by have := hR.two; omega), linQ_zero hR]
    · obtain ⟨j, hj, ej⟩ := hT.all a (by omega) ha
      obtain ⟨g, _, hpow, hone⟩ := hT.pows
      have h1 := one_lt hR
      have h := hall j hj
      rw [ej, hpow _ (Nat.mod_lt _ (by omega)), ← powQ_period hR hone, ← powQ_mul hR, ← hpow j hj, ej] at h
      exact h.symm
  have hi4 : i < (genTab.zip trTab).length := by rw [List.length_zip]; omega
  have hz4 : (genTab.zip trTab)[i]'hi4 = ((P, K, n, s, c, L), T) := by rw [List.getElem_zip, hTT]; exact congrArg (fun x => (x, trTab[i]'hi3)) e
  have hsg := List.all_eq_true.1 sg_ok _ (List.getElem_mem (l := genTab.zip trTab) (n := i) hi4)
  rw [hz4] at hsg
  unfold sgChk at hsg
  simp only [Bool.or_eq_true, decide_eq_true_eq, Bool.and_eq_true, List.all_eq_true, List.mem_range, beq_iff_eq] at hsg
  obtain ⟨hper, hcc⟩ : (∀ i, i < P ^ K - 1 → sgZ (P ^ K - 1) L T i = sgZ (P ^ K - 1) L T (i % rep P K)) ∧ sgC (rep P K) (rep P (K - 2)) (rep P (K - 1)) ((List.range (rep P K)).filter (sgZ (P ^ K - 1) L T)) = true := by
    rcases hsg with h | h | h
    · omega
    · omega
    · exact h
  obtain ⟨g, hg, hpow, hone⟩ := hT.pows
  have h1q := one_lt hR
  have hdv : rep P K ∣ P ^ K - 1 := by
    have := rep_pow (P := P) (by have := hR.two; omega) K
    exact ⟨P - 1, by rw [Nat.mul_comm]; omega⟩
  have hZm : ∀ i, sgZ (P ^ K - 1) L T i = sgZ (P ^ K - 1) L T (i % (P ^ K - 1)) := fun i => by
    unfold sgZ
    rw [Nat.mod_mod]
  refine ⟨sgZ (P ^ K - 1) L T, g, hg, hone, fun a ha1 ha2 => ?_, fun i => ?_, fun i => ?_, hcc⟩
  · obtain ⟨j, hj, ej⟩ := hT.all a ha1 ha2
    exact ⟨j, hj, by rw [← hpow j hj]; exact ej⟩
  · have hlt : i % (P ^ K - 1) < P ^ K - 1 := Nat.mod_lt _ (by omega)
    rw [powQ_period hR hone i, (trL_eq hR hlin K 0 _ (powQ_lt hR _ _)).trans (ht1 _ (powQ_lt hR _ _)), ← hpow _ hlt]
    rfl
  · rw [hZm i, hper _ (Nat.mod_lt _ (by omega)), Nat.mod_mod_of_dvd _ hdv]
theorem root_gcd {P K R g j : Nat} {m : Nat → Int} (hR : Ring1 P K m) (ho : IsOrd P K m R (P ^ K - 1)) (hone : powQ P K m g (P ^ K - 1) = 1) (hj : powQ P K m g j = R) : Nat.gcd j (P ^ K - 1) = 1 := by
  have h1q := one_lt hR
  obtain ⟨d, hd⟩ : ∃ d, d = Nat.gcd j (P ^ K - 1) := ⟨_, rfl⟩
  have hd0 : 0 < d := by rw [hd]; exact Nat.gcd_pos_of_pos_right _ (by omega)
  obtain ⟨a, ha⟩ : d ∣ j := by rw [hd]; exact Nat.gcd_dvd_left _ _
  obtain ⟨b, hb⟩ : d ∣ P ^ K - 1 := by rw [hd]; exact Nat.gcd_dvd_right _ _
  rw [← hd]
  apply Classical.byContradiction
  intro hne
  have hb0 : 0 < b := by
    rcases Nat.eq_zero_or_pos b with e | e
    · rw [e] at hb; omega
    · exact e
  have h2 : 2 * b ≤ d * b := Nat.mul_le_mul_right _ (by omega)
  refine ho.2.2 b hb0 (by omega) ?_
  rw [← hj, powQ_mul hR, ha, show d * a * b = (P ^ K - 1) * a by rw [hb, Nat.mul_right_comm], ← powQ_mul hR, hone]
  exact powQ_one hR a

end Go.Proofs.YtogdcjlgddleaaaDoor.Fd

namespace Go.Proofs.YtogdcjlgddleaaaDoor
open Go.RowKit

theorem inv_cop {v j t : Nat} (hv : 2 ≤ v) (h : (j * t) % v = 1 % v) : Nat.Coprime t v := by
  have h1 : 1 % v = 1 := Nat.mod_eq_of_lt (by omega)
  rw [h1] at h
  have hd1 : Nat.gcd t v ∣ j * t := Nat.dvd_trans (Nat.gcd_dvd_left t v) (Nat.dvd_mul_left t j)
  have hd2 : Nat.gcd t v ∣ v := Nat.gcd_dvd_right t v
  have hd3 : Nat.gcd t v ∣ (j * t) % v := (Nat.dvd_mod_iff hd2).2 hd1
  rw [h] at hd3
  exact Nat.dvd_one.1 hd3
theorem back_one {v j t x : Nat} (hx : x < v) (h : (j * t) % v = 1 % v) : (j * (x * t % v)) % v = x := by
  rw [Nat.mul_mod_mod, show j * (x * t) = x * (j * t) by rw [Nat.mul_left_comm], Nat.mul_mod, h, ← Nat.mul_mod, Nat.mul_one, Nat.mod_eq_of_lt hx]
theorem sing_perm {v j : Nat} {Z : Nat → Bool} (hv : 2 ≤ v) (hc : Nat.Coprime j v) : ∃ t, Nat.Coprime t v ∧ ((List.range v).filter fun i => Z (j * i % v)).Perm (((List.range v).filter Z).map (mvN v t 0)) := by
  obtain ⟨t, ht, hjt⟩ := mul_onto (by omega) hc 1
  have hct := inv_cop hv hjt
  have hp : Pts v ((List.range v).filter Z) := ⟨List.nodup_range.filter _, fun x hx => List.mem_range.1 (List.mem_filter.1 hx).1⟩
  refine ⟨t, hct, (List.perm_ext_iff_of_nodup (List.nodup_range.filter _) (mv_pts (s := 0) (by omega) hp hct).nd).2 fun x => ?_⟩
  rw [List.mem_filter, List.mem_range, List.mem_map]
  constructor
  · rintro ⟨hx, hz⟩
    refine ⟨j * x % v, List.mem_filter.2 ⟨List.mem_range.2 (Nat.mod_lt _ (by omega)), hz⟩, ?_⟩
    unfold mvN
    rw [Nat.add_zero, Nat.mod_mul_mod, show j * x * t = x * (j * t) by rw [Nat.mul_right_comm, Nat.mul_comm], Nat.mul_mod, hjt, ← Nat.mul_mod, Nat.mul_one, Nat.mod_eq_of_lt hx]
  · rintro ⟨d, hd, rfl⟩
    obtain ⟨hd1, hd2⟩ := List.mem_filter.1 hd
    refine ⟨Nat.mod_lt _ (by omega), ?_⟩
    unfold mvN
    rw [Nat.add_zero, back_one (List.mem_range.1 hd1) hjt]
    exact hd2
theorem rep_two {P K : Nat} (hP : 2 ≤ P) (hK : 3 ≤ K) : 7 ≤ rep P K := by
  obtain ⟨k, rfl⟩ : ∃ k, K = k + 3 := ⟨K - 3, by omega⟩
  have h1 : 1 ≤ rep P (k + 1) := by rw [rep]; omega
  have h2 : 3 ≤ rep P (k + 2) := by
    rw [rep]
    have := Nat.mul_le_mul h1 hP
    omega
  rw [rep]
  have := Nat.mul_le_mul h2 hP
  omega
theorem sing_lev {P K R : Nat} {l : List Int} (hG : Fd.GoodF P K l) (hK : 3 ≤ K) (hr : rep P K ≤ 60) (hR : Fd.RootIs P K (Fd.monL l) R) :
    lvB (rep P K) (sgL P K (Fd.monL l) R (rep P K)) = true ∧ dfN (rep P K) (sgL P K (Fd.monL l) R (rep P K)) 1 = rep P (K - 2) ∧ (sgL P K (Fd.monL l) R (rep P K)).length = rep P (K - 1) := by
  have hRi := hG.field.toRing1
  have hv := rep_two (P := P) hRi.two hK
  obtain ⟨Z, g, hg, hone, hall, hZ, hper, hcc⟩ := Fd.good_sg hG hK hr
  obtain ⟨r1, r2, ro⟩ := Fd.root_pos (Fd.good_ord hG) hR
  obtain ⟨j, hj, ej⟩ := hall R r1 r2
  have hgc := Fd.root_gcd hRi ro hone ej
  have hdv : rep P K ∣ P ^ K - 1 := by
    have := rep_pow (P := P) (by have := hRi.two; omega) K
    exact ⟨P - 1, by rw [Nat.mul_comm]; omega⟩
  have hc : Nat.Coprime j (rep P K) := Nat.Coprime.coprime_dvd_right hdv hgc
  have hS : sgL P K (Fd.monL l) R (rep P K) = (List.range (rep P K)).filter fun i => Z (j * i % rep P K) := by
    unfold sgL
    refine List.filter_congr fun i _ => ?_
    rw [← ej, Fd.powQ_mul hRi, hZ, hper]
  unfold Fd.sgC at hcc
  rw [Bool.and_eq_true, Bool.and_eq_true, beq_iff_eq, beq_iff_eq] at hcc
  obtain ⟨c1, c2, c3⟩ := hcc
  obtain ⟨t, hct, hp⟩ := sing_perm (Z := Z) (by omega) hc
  have hp1 : Pts (rep P K) ((List.range (rep P K)).filter Z) := ⟨List.nodup_range.filter _, fun x hx => List.mem_range.1 (List.mem_filter.1 hx).1⟩
  have hL := lvB_lev (by omega) hp1 c1
  have hL2 := lev_perm hp.symm (lev_moved (s := 0) (by omega) hp1 hct hL)
  rw [← hS] at hp hL2
  obtain ⟨a1, a2⟩ := lev_lvB (by omega) (sg_good (by omega) hr).pts hL2
  refine ⟨a1, by rw [a2 (by omega), c2], ?_⟩
  rw [hp.length_eq, List.length_map, c3]

end Go.Proofs.YtogdcjlgddleaaaDoor

/- The law DifferMade. -/
namespace Go.Proofs.YtogdcjlgddleaaaDoor
open Go.RowKit Go.Maps

set_option maxRecDepth 100000 in
set_option maxHeartbeats 16000000 in
theorem Made_NN (p fp fk : Int) (fv : Value) (w : World) (hfv : ∃ a n c, fv = .slice a n c)
    (pz : Int) (hpz : pz ≠ 0) (H9 : Hid (∀ W, Below w.heap.size w W → Calls Tryd.prog 9 #[.int .i64 p] W fun e w' => e = .returned (.tuple #[.slice none 0 0, .int .i64 pz]) ∧ Below W.heap.size W w'))
    (sz : Int) (hsz : sz ≠ 0) (H12 : Hid (∀ W, Below w.heap.size w W → Calls Tryd.prog 12 #[.agg #[.int .i64 fp, .int .i64 fk, fv]] W fun e w' => e = .returned (.tuple #[.int .i64 0, .slice none 0 0, .int .i64 sz]) ∧ Below W.heap.size W w')) :
    Calls Tryd.prog 4 #[.int .i64 p, .agg #[.int .i64 fp, .int .i64 fk, fv]] w fun e w' => e = .returned (.bool true) ∧ Below w.heap.size w w' := by
  obtain ⟨fa, fn, fc, rfl⟩ := hfv
  have HF0 : Hid (Fd.FB (w.alloc (.cells #[.int .i64 fp, .int .i64 fk, .slice fa fn fc] 24)) w.heap.size fp fk (.slice fa fn fc)) := Fd.FB.made w fp fk _
  have HB0 : Hid (Below w.heap.size w (w.alloc (.cells #[.int .i64 fp, .int .i64 fk, .slice fa fn fc] 24))) := balloc _ _
  have H14 : Hid (∀ W, Calls Tryd.prog 14 #[] W fun e w' => e = .returned (.bool true) ∧ Below W.heap.size W w') := fun W => FactD_any W
  have hpz1 : (pz == 0) = false := by simpa using hpz
  have hsz1 : (sz != 0) = true := by simpa using hsz
  go_enter Tryd.func4, Tryd.ntmps4
  go_wp2_with (first
    | (go_at_call 14; refine (H14.out _).mono ?_; rintro e w1 ⟨rfl, hb⟩; clear H14; have HB1 : Hid (Below w.heap.size w w1) := Below.next HB0.out hb; have HF1 : Hid (Fd.FB w1 w.heap.size fp fk (.slice fa fn fc)) := HF0.out.below hb; clear hb HF0 HB0)
    | (go_at_call 9; refine (H9.out _ HB1.out).mono ?_; rintro e w3 ⟨rfl, hb⟩; clear H9; have HB3 : Hid (Below w.heap.size w w3) := Below.next HB1.out hb; have HF3 : Hid (Fd.FB w3 w.heap.size fp fk (.slice fa fn fc)) := HF1.out.below hb; have hFc := HF3.out.cells; clear hb HF1 HB1)
    | (go_at_call 12; refine (H12.out _ HB3.out).mono ?_; rintro e w4 ⟨rfl, hb⟩; clear H12; have HB4 : Hid (Below w.heap.size w w4) := Below.next HB3.out hb; clear hb HF3 HB3 hFc)
    | go_in)
  go_ret
  exact ⟨rfl, HB4.out⟩
set_option maxRecDepth 100000 in
set_option maxHeartbeats 16000000 in
theorem Made_NS (p fp fk : Int) (fv : Value) (w : World) (hfv : ∃ a n c, fv = .slice a n c)
    (pz : Int) (hpz : pz ≠ 0) (H9 : Hid (∀ W, Below w.heap.size w W → Calls Tryd.prog 9 #[.int .i64 p] W fun e w' => e = .returned (.tuple #[.slice none 0 0, .int .i64 pz]) ∧ Below W.heap.size W w'))
    (P K n kl ml : Nat) (ST : List Int → Prop) (hfp : fp = (P : Int)) (hfk : fk = (K : Int)) (hP : 2 ≤ P ∧ P ≤ 61) (hK : 3 ≤ K ∧ K ≤ 6) (h64 : P ^ K ≤ 64) (hkl : rep P (K - 1) = kl) (hml : rep P (K - 2) = ml)
    (H12 : Hid (∀ W, Below w.heap.size w W → Calls Tryd.prog 12 #[.agg #[.int .i64 fp, .int .i64 fk, fv]] W fun e w' => ∃ x sl, e = .returned (.tuple #[.int .i64 (n : Int), x, .int .i64 0]) ∧ ST sl ∧ Sl w' x sl ∧ Below W.heap.size W w'))
    (H15s : Hid (∀ (x : Value) (sl : List Int) (W : World), ST sl → Sl W x sl → sl.length = kl ∧ Calls Tryd.prog 15 #[.int .i64 (n : Int), x] W fun e w' => e = .returned (.tuple #[.int .i64 (ml : Int), .int .i64 0]) ∧ Below W.heap.size W w')) :
    Calls Tryd.prog 4 #[.int .i64 p, .agg #[.int .i64 fp, .int .i64 fk, fv]] w fun e w' => e = .returned (.bool true) ∧ Below w.heap.size w w' := by
  obtain ⟨fa, fn, fc, rfl⟩ := hfv
  have HF0 : Hid (Fd.FB (w.alloc (.cells #[.int .i64 fp, .int .i64 fk, .slice fa fn fc] 24)) w.heap.size fp fk (.slice fa fn fc)) := Fd.FB.made w fp fk _
  have HB0 : Hid (Below w.heap.size w (w.alloc (.cells #[.int .i64 fp, .int .i64 fk, .slice fa fn fc] 24))) := balloc _ _
  have H14 : Hid (∀ W, Calls Tryd.prog 14 #[] W fun e w' => e = .returned (.bool true) ∧ Below W.heap.size W w') := fun W => FactD_any W
  have hpz1 : (pz == 0) = false := by simpa using hpz
  have HM : Hid (∀ i, i ≤ K → rep P i ≤ 63) := fun i hi => Nat.le_trans (rep_mono (by omega) hi) (rep_le hP.1 h64)
  obtain ⟨rr, Hrr⟩ : ∃ rr : Nat → Nat, Hid (∀ i, rep P i = rr i) := ⟨fun i => rep P i, fun _ => rfl⟩
  have HM2 : Hid (∀ i, i ≤ K → rr i ≤ 63) := fun i hi => by rw [← Hrr.out]; exact HM.out i hi
  have HU2 : Hid (∀ i, rr (i + 1) = rr i * P + 1) := fun i => by rw [← Hrr.out, ← Hrr.out]; rfl
  have H02 : Hid (rr 0 = 0) := by show _ = _; rw [← Hrr.out]; rfl
  rw [Hrr.out] at hkl hml
  have HKL : Hid (rr (K - 1) = kl ∧ rr (K - 2) = ml) := ⟨hkl, hml⟩
  subst hfp
  subst hfk
  obtain ⟨k1, hk1⟩ : ∃ k1, K = k1 + 1 := ⟨K - 1, by omega⟩
  have HK1 : Hid (K = k1 + 1) := hk1
  have hk1i : (K : Int) - 1 = (k1 : Int) := by omega
  obtain ⟨hP2, hP61⟩ := hP
  obtain ⟨hK3, hK6⟩ := hK
  clear HM Hrr h64 hkl hml hk1
  go_enter Tryd.func4, Tryd.ntmps4
  go_wp2_with (first
    | (go_at_call 14; refine (H14.out _).mono ?_; rintro e w1 ⟨rfl, hb⟩; clear H14; have HB1 : Hid (Below w.heap.size w w1) := Below.next HB0.out hb; have HF1 : Hid (Fd.FB w1 w.heap.size (P : Int) (K : Int) (.slice fa fn fc)) := HF0.out.below hb; clear hb HF0 HB0)
    | (go_at_call 9; refine (H9.out _ HB1.out).mono ?_; rintro e w3 ⟨rfl, hb⟩; clear H9; have HB3 : Hid (Below w.heap.size w w3) := Below.next HB1.out hb; have HF3 : Hid (Fd.FB w3 w.heap.size (P : Int) (K : Int) (.slice fa fn fc)) := HF1.out.below hb; have hFc := HF3.out.cells; clear hb HF1 HB1)
    | (go_at_call 12; refine (H12.out _ HB3.out).mono ?_; rintro e w4 ⟨x2, sl, rfl, hst, hx2, hb⟩; clear H12; have HB4 : Hid (Below w.heap.size w w4) := Below.next HB3.out hb; have HF4 : Hid (Fd.FB w4 w.heap.size (P : Int) (K : Int) (.slice fa fn fc)) := HF3.out.below hb; obtain ⟨hsl, C16⟩ := H15s.out x2 sl w4 hst hx2; obtain ⟨ya, yc, hye, _⟩ := hx2; rw [hsl] at hye; subst hye; clear hb HF3 HB3 hFc H15s hst hsl)
    | (go_at_call 15; refine C16.mono ?_; rintro e w5 ⟨rfl, hb⟩; clear C16; have HB5 : Hid (Below w.heap.size w w5) := Below.next HB4.out hb; have HF5 : Hid (Fd.FB w5 w.heap.size (P : Int) (K : Int) (.slice fa fn fc)) := HF4.out.below hb; have hFc := HF5.out.cells; clear hb HF4 HB4)
    | go_in)
  go_loopw [13, 14, 15] (fun kv mv iv wr => ∃ i : Nat, iv = .int .i64 (i : Int) ∧ i ≤ k1 ∧ kv = .int .i64 (rr i : Int) ∧ mv = .int .i64 (rr (i - 1) : Int) ∧ wr = w5) (fun _ _ iv _ => (k1 - intOf iv).toNat)
  case atStart => exact ⟨0, rfl, by omega, by rw [H02.out]; rfl, by rw [Nat.zero_sub, H02.out]; rfl, rfl⟩
  case round =>
    obtain ⟨i, rfl, hi, rfl, rfl, rfl⟩ := hrel
    by_cases hlt : i < k1
    · have hii : (i : Int) < (k1 : Int) := by omega
      have hdec : decide ((i : Int) < (k1 : Int)) = true := by simp; omega
      have h1 := HM2.out (i + 1) (by have := HK1.out; omega)
      have h2 := HM2.out i (by have := HK1.out; omega)
      have hU := HU2.out i
      obtain ⟨y0, Hy0⟩ : ∃ y0, Hid (rr (i - 1) = y0) := ⟨_, rfl⟩
      obtain ⟨x, Hx⟩ : ∃ x, Hid (rr i = x) := ⟨_, rfl⟩
      obtain ⟨y, Hy⟩ : ∃ y, Hid (rr (i + 1) = y) := ⟨_, rfl⟩
      rw [Hx.out] at hU h2 ⊢
      rw [Hy.out] at hU h1
      rw [Hy0.out]
      obtain ⟨m, hm⟩ : ∃ m, x * P = m := ⟨_, rfl⟩
      have hmi : (x : Int) * (P : Int) = (m : Int) := by rw [← hm]; simp
      rw [hm] at hU
      have hmb : m ≤ 63 := by omega
      have HYY : Hid ((m : Int) + 1 = (y : Int)) := by show _ = _; omega
      clear hm hU HM2 HU2 H02
      go_wp2
      go_roundw
      case rel => exact ⟨i + 1, by go_num, by omega, by rw [Hy.out, ← HYY.out], by rw [Nat.add_sub_cancel, Hx.out], by first | rfl | trivial⟩
      case measure => simp [intOf]; omega
    · have hdec : decide ((i : Int) < (k1 : Int)) = false := by simp; omega
      obtain rfl : i = k1 := by omega
      obtain ⟨e1, e2⟩ := HKL.out
      have e1' : rr i = kl := by rw [← e1]; have := HK1.out; congr 1; omega
      have e2' : rr (i - 1) = ml := by rw [← e2]; have := HK1.out; congr 1; omega
      rw [e1', e2']
      clear e1 e2 e1' e2' HKL HM2 HU2 H02
      go_wp2
      go_ret
      exact ⟨by simp, HB5.out⟩
set_option maxRecDepth 100000 in
set_option maxHeartbeats 16000000 in
theorem Made_PN (p fp fk : Int) (fv : Value) (w : World) (hfv : ∃ a n c, fv = .slice a n c)
    (pl : List Int) (pn lp : Nat) (hpn : pl.length = pn) (hp3 : 3 ≤ p ∧ p ≤ 60) (hq1 : (p - 1).tdiv 2 = (pn : Int)) (hq2 : (p - 3).tdiv 4 = (lp : Int)) (hlp : lp ≤ 60) (hpn6 : pn ≤ 60)
    (H9 : Hid (∀ W, Below w.heap.size w W → Calls Tryd.prog 9 #[.int .i64 p] W fun e w' => ∃ x, e = .returned (.tuple #[x, .int .i64 0]) ∧ Sl w' x pl ∧ Below W.heap.size W w'))
    (H15p : Hid (∀ (x : Value) (W : World), Sl W x pl → Calls Tryd.prog 15 #[.int .i64 p, x] W fun e w' => e = .returned (.tuple #[.int .i64 (lp : Int), .int .i64 0]) ∧ Below W.heap.size W w'))
    (sz : Int) (hsz : sz ≠ 0) (H12 : Hid (∀ W, Below w.heap.size w W → Calls Tryd.prog 12 #[.agg #[.int .i64 fp, .int .i64 fk, fv]] W fun e w' => e = .returned (.tuple #[.int .i64 0, .slice none 0 0, .int .i64 sz]) ∧ Below W.heap.size W w')) :
    Calls Tryd.prog 4 #[.int .i64 p, .agg #[.int .i64 fp, .int .i64 fk, fv]] w fun e w' => e = .returned (.bool true) ∧ Below w.heap.size w w' := by
  obtain ⟨fa, fn, fc, rfl⟩ := hfv
  have HF0 : Hid (Fd.FB (w.alloc (.cells #[.int .i64 fp, .int .i64 fk, .slice fa fn fc] 24)) w.heap.size fp fk (.slice fa fn fc)) := Fd.FB.made w fp fk _
  have HB0 : Hid (Below w.heap.size w (w.alloc (.cells #[.int .i64 fp, .int .i64 fk, .slice fa fn fc] 24))) := balloc _ _
  have H14 : Hid (∀ W, Calls Tryd.prog 14 #[] W fun e w' => e = .returned (.bool true) ∧ Below W.heap.size W w') := fun W => FactD_any W
  obtain ⟨hp3a, hp60⟩ := hp3
  have hq1' : (p - 1) / 2 = (pn : Int) := by rw [← hq1, Int.tdiv_eq_ediv_of_nonneg (by omega)]
  have hq2' : (p - 3) / 4 = (lp : Int) := by rw [← hq2, Int.tdiv_eq_ediv_of_nonneg (by omega)]
  have HPN : Hid (pl.length = pn) := hpn
  clear hpn
  have hsz1 : (sz != 0) = true := by simpa using hsz
  go_enter Tryd.func4, Tryd.ntmps4
  go_wp2_with (first
    | (go_at_call 14; refine (H14.out _).mono ?_; rintro e w1 ⟨rfl, hb⟩; clear H14; have HB1 : Hid (Below w.heap.size w w1) := Below.next HB0.out hb; have HF1 : Hid (Fd.FB w1 w.heap.size fp fk (.slice fa fn fc)) := HF0.out.below hb; clear hb HF0 HB0)
    | (go_at_call 9; refine (H9.out _ HB1.out).mono ?_; rintro e w2 ⟨x, rfl, hx, hb⟩; clear H9; have HB2 : Hid (Below w.heap.size w w2) := Below.next HB1.out hb; have HF2 : Hid (Fd.FB w2 w.heap.size fp fk (.slice fa fn fc)) := HF1.out.below hb; have C15 := H15p.out x w2 hx; obtain ⟨xa, xc, hxe, _⟩ := hx; rw [HPN.out] at hxe; subst hxe; clear hb HF1 HB1 H15p)
    | (go_at_call 15; refine C15.mono ?_; rintro e w3 ⟨rfl, hb⟩; clear C15; have HB3 : Hid (Below w.heap.size w w3) := Below.next HB2.out hb; have HF3 : Hid (Fd.FB w3 w.heap.size fp fk (.slice fa fn fc)) := HF2.out.below hb; have hFc := HF3.out.cells; clear hb HF2 HB2)
    | (go_at_call 12; refine (H12.out _ HB3.out).mono ?_; rintro e w4 ⟨rfl, hb⟩; clear H12; have HB4 : Hid (Below w.heap.size w w4) := Below.next HB3.out hb; clear hb HF3 HB3 hFc)
    | go_in)
  go_ret
  exact ⟨rfl, HB4.out⟩
set_option maxRecDepth 100000 in
set_option maxHeartbeats 16000000 in
theorem Made_PS (p fp fk : Int) (fv : Value) (w : World) (hfv : ∃ a n c, fv = .slice a n c)
    (pl : List Int) (pn lp : Nat) (hpn : pl.length = pn) (hp3 : 3 ≤ p ∧ p ≤ 60) (hq1 : (p - 1).tdiv 2 = (pn : Int)) (hq2 : (p - 3).tdiv 4 = (lp : Int)) (hlp : lp ≤ 60) (hpn6 : pn ≤ 60)
    (H9 : Hid (∀ W, Below w.heap.size w W → Calls Tryd.prog 9 #[.int .i64 p] W fun e w' => ∃ x, e = .returned (.tuple #[x, .int .i64 0]) ∧ Sl w' x pl ∧ Below W.heap.size W w'))
    (H15p : Hid (∀ (x : Value) (W : World), Sl W x pl → Calls Tryd.prog 15 #[.int .i64 p, x] W fun e w' => e = .returned (.tuple #[.int .i64 (lp : Int), .int .i64 0]) ∧ Below W.heap.size W w'))
    (P K n kl ml : Nat) (ST : List Int → Prop) (hfp : fp = (P : Int)) (hfk : fk = (K : Int)) (hP : 2 ≤ P ∧ P ≤ 61) (hK : 3 ≤ K ∧ K ≤ 6) (h64 : P ^ K ≤ 64) (hkl : rep P (K - 1) = kl) (hml : rep P (K - 2) = ml)
    (H12 : Hid (∀ W, Below w.heap.size w W → Calls Tryd.prog 12 #[.agg #[.int .i64 fp, .int .i64 fk, fv]] W fun e w' => ∃ x sl, e = .returned (.tuple #[.int .i64 (n : Int), x, .int .i64 0]) ∧ ST sl ∧ Sl w' x sl ∧ Below W.heap.size W w'))
    (H15s : Hid (∀ (x : Value) (sl : List Int) (W : World), ST sl → Sl W x sl → sl.length = kl ∧ Calls Tryd.prog 15 #[.int .i64 (n : Int), x] W fun e w' => e = .returned (.tuple #[.int .i64 (ml : Int), .int .i64 0]) ∧ Below W.heap.size W w')) :
    Calls Tryd.prog 4 #[.int .i64 p, .agg #[.int .i64 fp, .int .i64 fk, fv]] w fun e w' => e = .returned (.bool true) ∧ Below w.heap.size w w' := by
  obtain ⟨fa, fn, fc, rfl⟩ := hfv
  have HF0 : Hid (Fd.FB (w.alloc (.cells #[.int .i64 fp, .int .i64 fk, .slice fa fn fc] 24)) w.heap.size fp fk (.slice fa fn fc)) := Fd.FB.made w fp fk _
  have HB0 : Hid (Below w.heap.size w (w.alloc (.cells #[.int .i64 fp, .int .i64 fk, .slice fa fn fc] 24))) := balloc _ _
  have H14 : Hid (∀ W, Calls Tryd.prog 14 #[] W fun e w' => e = .returned (.bool true) ∧ Below W.heap.size W w') := fun W => FactD_any W
  obtain ⟨hp3a, hp60⟩ := hp3
  have hq1' : (p - 1) / 2 = (pn : Int) := by rw [← hq1, Int.tdiv_eq_ediv_of_nonneg (by omega)]
  have hq2' : (p - 3) / 4 = (lp : Int) := by rw [← hq2, Int.tdiv_eq_ediv_of_nonneg (by omega)]
  have HPN : Hid (pl.length = pn) := hpn
  clear hpn
  have HM : Hid (∀ i, i ≤ K → rep P i ≤ 63) := fun i hi => Nat.le_trans (rep_mono (by omega) hi) (rep_le hP.1 h64)
  obtain ⟨rr, Hrr⟩ : ∃ rr : Nat → Nat, Hid (∀ i, rep P i = rr i) := ⟨fun i => rep P i, fun _ => rfl⟩
  have HM2 : Hid (∀ i, i ≤ K → rr i ≤ 63) := fun i hi => by rw [← Hrr.out]; exact HM.out i hi
  have HU2 : Hid (∀ i, rr (i + 1) = rr i * P + 1) := fun i => by rw [← Hrr.out, ← Hrr.out]; rfl
  have H02 : Hid (rr 0 = 0) := by show _ = _; rw [← Hrr.out]; rfl
  rw [Hrr.out] at hkl hml
  have HKL : Hid (rr (K - 1) = kl ∧ rr (K - 2) = ml) := ⟨hkl, hml⟩
  subst hfp
  subst hfk
  obtain ⟨k1, hk1⟩ : ∃ k1, K = k1 + 1 := ⟨K - 1, by omega⟩
  have HK1 : Hid (K = k1 + 1) := hk1
  have hk1i : (K : Int) - 1 = (k1 : Int) := by omega
  obtain ⟨hP2, hP61⟩ := hP
  obtain ⟨hK3, hK6⟩ := hK
  clear HM Hrr h64 hkl hml hk1
  go_enter Tryd.func4, Tryd.ntmps4
  go_wp2_with (first
    | (go_at_call 14; refine (H14.out _).mono ?_; rintro e w1 ⟨rfl, hb⟩; clear H14; have HB1 : Hid (Below w.heap.size w w1) := Below.next HB0.out hb; have HF1 : Hid (Fd.FB w1 w.heap.size (P : Int) (K : Int) (.slice fa fn fc)) := HF0.out.below hb; clear hb HF0 HB0)
    | (go_at_call 9; refine (H9.out _ HB1.out).mono ?_; rintro e w2 ⟨x, rfl, hx, hb⟩; clear H9; have HB2 : Hid (Below w.heap.size w w2) := Below.next HB1.out hb; have HF2 : Hid (Fd.FB w2 w.heap.size (P : Int) (K : Int) (.slice fa fn fc)) := HF1.out.below hb; have C15 := H15p.out x w2 hx; obtain ⟨xa, xc, hxe, _⟩ := hx; rw [HPN.out] at hxe; subst hxe; clear hb HF1 HB1 H15p)
    | (go_at_call 15; refine C15.mono ?_; rintro e w3 ⟨rfl, hb⟩; clear C15; have HB3 : Hid (Below w.heap.size w w3) := Below.next HB2.out hb; have HF3 : Hid (Fd.FB w3 w.heap.size (P : Int) (K : Int) (.slice fa fn fc)) := HF2.out.below hb; have hFc := HF3.out.cells; clear hb HF2 HB2)
    | (go_at_call 12; refine (H12.out _ HB3.out).mono ?_; rintro e w4 ⟨x2, sl, rfl, hst, hx2, hb⟩; clear H12; have HB4 : Hid (Below w.heap.size w w4) := Below.next HB3.out hb; have HF4 : Hid (Fd.FB w4 w.heap.size (P : Int) (K : Int) (.slice fa fn fc)) := HF3.out.below hb; obtain ⟨hsl, C16⟩ := H15s.out x2 sl w4 hst hx2; obtain ⟨ya, yc, hye, _⟩ := hx2; rw [hsl] at hye; subst hye; clear hb HF3 HB3 hFc H15s hst hsl)
    | (go_at_call 15; refine C16.mono ?_; rintro e w5 ⟨rfl, hb⟩; clear C16; have HB5 : Hid (Below w.heap.size w w5) := Below.next HB4.out hb; have HF5 : Hid (Fd.FB w5 w.heap.size (P : Int) (K : Int) (.slice fa fn fc)) := HF4.out.below hb; have hFc := HF5.out.cells; clear hb HF4 HB4)
    | go_in)
  go_loopw [13, 14, 15] (fun kv mv iv wr => ∃ i : Nat, iv = .int .i64 (i : Int) ∧ i ≤ k1 ∧ kv = .int .i64 (rr i : Int) ∧ mv = .int .i64 (rr (i - 1) : Int) ∧ wr = w5) (fun _ _ iv _ => (k1 - intOf iv).toNat)
  case atStart => exact ⟨0, rfl, by omega, by rw [H02.out]; rfl, by rw [Nat.zero_sub, H02.out]; rfl, rfl⟩
  case round =>
    obtain ⟨i, rfl, hi, rfl, rfl, rfl⟩ := hrel
    by_cases hlt : i < k1
    · have hii : (i : Int) < (k1 : Int) := by omega
      have hdec : decide ((i : Int) < (k1 : Int)) = true := by simp; omega
      have h1 := HM2.out (i + 1) (by have := HK1.out; omega)
      have h2 := HM2.out i (by have := HK1.out; omega)
      have hU := HU2.out i
      obtain ⟨y0, Hy0⟩ : ∃ y0, Hid (rr (i - 1) = y0) := ⟨_, rfl⟩
      obtain ⟨x, Hx⟩ : ∃ x, Hid (rr i = x) := ⟨_, rfl⟩
      obtain ⟨y, Hy⟩ : ∃ y, Hid (rr (i + 1) = y) := ⟨_, rfl⟩
      rw [Hx.out] at hU h2 ⊢
      rw [Hy.out] at hU h1
      rw [Hy0.out]
      obtain ⟨m, hm⟩ : ∃ m, x * P = m := ⟨_, rfl⟩
      have hmi : (x : Int) * (P : Int) = (m : Int) := by rw [← hm]; simp
      rw [hm] at hU
      have hmb : m ≤ 63 := by omega
      have HYY : Hid ((m : Int) + 1 = (y : Int)) := by show _ = _; omega
      clear hm hU HM2 HU2 H02
      go_wp2
      go_roundw
      case rel => exact ⟨i + 1, by go_num, by omega, by rw [Hy.out, ← HYY.out], by rw [Nat.add_sub_cancel, Hx.out], by first | rfl | trivial⟩
      case measure => simp [intOf]; omega
    · have hdec : decide ((i : Int) < (k1 : Int)) = false := by simp; omega
      obtain rfl : i = k1 := by omega
      obtain ⟨e1, e2⟩ := HKL.out
      have e1' : rr i = kl := by rw [← e1]; have := HK1.out; congr 1; omega
      have e2' : rr (i - 1) = ml := by rw [← e2]; have := HK1.out; congr 1; omega
      rw [e1', e2']
      clear e1 e2 e1' e2' HKL HM2 HU2 H02
      go_wp2
      go_ret
      exact ⟨by simp, HB5.out⟩

end Go.Proofs.YtogdcjlgddleaaaDoor

namespace Go.Proofs.YtogdcjlgddleaaaDoor
open Go.RowKit Go.Maps

theorem fault_someM (p k : Int) (l : List Int) : ∃ z, Fd.FaultIs p k l z := by
  unfold Fd.FaultIs
  by_cases h1 : Fd.ordZ p k = 0
  · exact ⟨1, .inl ⟨h1, rfl⟩⟩
  · by_cases h2 : (l.length : Int) = k
    · by_cases h3 : Fd.inL p l
      · by_cases h4 : Fd.irrP (Fd.monL l) k.toNat p.toNat
        · exact ⟨0, .inr (.inr (.inr (.inr ⟨h1, h2, h3, h4, rfl⟩)))⟩
        · exact ⟨4, .inr (.inr (.inr (.inl ⟨h1, h2, h3, h4, rfl⟩)))⟩
      · exact ⟨1, .inr (.inr (.inl ⟨h1, h2, h3, rfl⟩))⟩
    · exact ⟨2, .inr (.inl ⟨h1, h2, rfl⟩)⟩
/-- What Paley answers, as a law needs it. -/
theorem paley_made (p : Int) (w : World) (hT : Fd.Tab w) :
    (∃ pz : Int, pz ≠ 0 ∧ ∀ W, Below w.heap.size w W → Calls Tryd.prog 9 #[.int .i64 p] W fun e w' => e = .returned (.tuple #[.slice none 0 0, .int .i64 pz]) ∧ Below W.heap.size W w') ∨
    ∃ (pl : List Int) (pn lp : Nat), pl.length = pn ∧ (3 ≤ p ∧ p ≤ 60) ∧ (p - 1).tdiv 2 = (pn : Int) ∧ (p - 3).tdiv 4 = (lp : Int) ∧ lp ≤ 60 ∧ pn ≤ 60 ∧
      (∀ W, Below w.heap.size w W → Calls Tryd.prog 9 #[.int .i64 p] W fun e w' => ∃ x, e = .returned (.tuple #[x, .int .i64 0]) ∧ Sl w' x pl ∧ Below W.heap.size W w') ∧
      ∀ (x : Value) (W : World), Sl W x pl → Calls Tryd.prog 15 #[.int .i64 p, x] W fun e w' => e = .returned (.tuple #[.int .i64 (lp : Int), .int .i64 0]) ∧ Below W.heap.size W w' := by
  by_cases hf : p < 1 ∨ 60 < p
  · exact .inl ⟨1, by decide, fun W hW => Paley_far p W hf⟩
  · obtain ⟨P, rfl⟩ : ∃ P : Nat, p = P := ⟨p.toNat, by omega⟩
    by_cases hn : Fd.isPrimeB (P : Int) = true ∧ P % 4 = 3
    · obtain ⟨h1, h2, h3⟩ := pal_lev ⟨P, by omega⟩ (by rw [Bool.and_eq_true]; exact ⟨hn.1, by simpa using hn.2⟩)
      have h1' : lvB P (paL P) = true := h1
      have h2' : dfN P (paL P) 1 = (P - 3) / 4 := h2
      have h3' : (paL P).length = (P - 1) / 2 := h3
      have hP3 : 3 ≤ P := by omega
      refine .inr ⟨(paL P).map Int.ofNat, (P - 1) / 2, (P - 3) / 4, by rw [List.length_map, h3'], ⟨by omega, by omega⟩, ?_, ?_, by omega, by omega, fun W hW => Paley_ok P W (hT.below hW) (by omega) (by omega) hn.1 hn.2, fun x W hx => ?_⟩
      · rw [Int.tdiv_eq_ediv_of_nonneg (by omega)]; omega
      · rw [Int.tdiv_eq_ediv_of_nonneg (by omega)]; omega
      · have := Level_main' P (paL P) x W (pal_good (by omega) (by omega)) hx
        rw [show lvL P (paL P) = (P - 3) / 4 from by rw [show lvL P (paL P) = dfN P (paL P) 1 from if_pos h1']; exact h2', show lvE P (paL P) = 0 from if_pos h1'] at this
        exact this
    · have hn' : Fd.isPrimeB (P : Int) = false ∨ P % 4 ≠ 3 := by
        by_cases h : Fd.isPrimeB (P : Int) = true
        · exact .inr fun h4 => hn ⟨h, h4⟩
        · exact .inl (by simpa using h)
      exact .inl ⟨4, by decide, fun W hW => Paley_none P W (hT.below hW) (by omega) (by omega) hn'⟩
/-- What Singer answers, as a law needs it. -/
theorem singer_made (p k : Int) (l : List Int) (v : Value) (w : World) (hT : Fd.Tab w) (hl : Sl w v l) (hll : l.length ≤ maxLen) :
    (∃ sz : Int, sz ≠ 0 ∧ ∀ W, Below w.heap.size w W → Calls Tryd.prog 12 #[.agg #[.int .i64 p, .int .i64 k, v]] W fun e w' => e = .returned (.tuple #[.int .i64 0, .slice none 0 0, .int .i64 sz]) ∧ Below W.heap.size W w') ∨
    ∃ (P K n : Nat) (ST : List Int → Prop), p = (P : Int) ∧ k = (K : Int) ∧ (2 ≤ P ∧ P ≤ 61) ∧ (3 ≤ K ∧ K ≤ 6) ∧ P ^ K ≤ 64 ∧
      (∀ W, Below w.heap.size w W → Calls Tryd.prog 12 #[.agg #[.int .i64 p, .int .i64 k, v]] W fun e w' => ∃ x sl, e = .returned (.tuple #[.int .i64 (n : Int), x, .int .i64 0]) ∧ ST sl ∧ Sl w' x sl ∧ Below W.heap.size W w') ∧
      ∀ (x : Value) (sl : List Int) (W : World), ST sl → Sl W x sl → sl.length = rep P (K - 1) ∧ Calls Tryd.prog 15 #[.int .i64 (n : Int), x] W fun e w' => e = .returned (.tuple #[.int .i64 (rep P (K - 2) : Int), .int .i64 0]) ∧ Below W.heap.size W w' := by
  obtain ⟨z, hF⟩ := fault_someM p k l
  by_cases hz : z = 0
  · subst hz
    obtain ⟨P, K, rfl, rfl, hG⟩ := Fd.good_of hF
    by_cases hK : K < 3
    · exact .inl ⟨4, by decide, fun W hW => Singer_none P K l v W (hT.below hW) (hl.below hW) hll hG hK⟩
    · by_cases hr : rep P K ≤ 60
      · refine .inr ⟨P, K, rep P K, fun sl => ∃ R, Fd.RootIs P K (Fd.monL l) R ∧ sl = (sgL P K (Fd.monL l) R (rep P K)).map Int.ofNat, rfl, rfl, ⟨hG.field.two, hG.le61⟩, ⟨by omega, hG.le6⟩, hG.le64, fun W hW => (Singer_ok P K l v W (hT.below hW) (hl.below hW) hll hG (by omega) hr).mono ?_, ?_⟩
        · rintro e w' ⟨R, x, rfl, hR, hx, hb⟩
          exact ⟨x, _, rfl, ⟨R, hR, rfl⟩, hx.sl, hb⟩
        · rintro x sl W ⟨R, hR, rfl⟩ hx
          obtain ⟨a1, a2, a3⟩ := sing_lev hG (by omega) hr hR
          refine ⟨by rw [List.length_map, a3], ?_⟩
          have h7 := rep_two (P := P) hG.field.two (show 3 ≤ K by omega)
          have := Level_main' (rep P K) _ x W (sg_good (by omega) hr) hx
          rw [show lvL (rep P K) (sgL P K (Fd.monL l) R (rep P K)) = rep P (K - 2) from by rw [show lvL (rep P K) (sgL P K (Fd.monL l) R (rep P K)) = dfN (rep P K) (sgL P K (Fd.monL l) R (rep P K)) 1 from if_pos a1]; exact a2, show lvE (rep P K) (sgL P K (Fd.monL l) R (rep P K)) = 0 from if_pos a1] at this
          exact this
      · exact .inl ⟨3, by decide, fun W hW => Singer_full P K l v W (hT.below hW) (hl.below hW) hll hG (by omega) (by omega)⟩
  · exact .inl ⟨z, hz, fun W hW => Singer_bad p k z l v W (hT.below hW) (hl.below hW) hll hF hz⟩
theorem Made_law (p fp fk : Int) (l : List Int) (fv : Value) (w : World) (hT : Fd.Tab w) (hl : Sl w fv l) (hll : l.length ≤ maxLen) :
    Calls Tryd.prog 4 #[.int .i64 p, .agg #[.int .i64 fp, .int .i64 fk, fv]] w fun e w' => e = .returned (.bool true) ∧ Below w.heap.size w w' := by
  have hfform : ∃ a n c, fv = .slice a n c := by obtain ⟨a, c, rfl, _⟩ := hl; exact ⟨a, _, c, rfl⟩
  rcases paley_made p w hT with ⟨pz, hpz, H9⟩ | ⟨pl, pn, lp, h1, h2, h3, h4, h5, h6, H9, H15p⟩
  · rcases singer_made fp fk l fv w hT hl hll with ⟨sz, hsz, H12⟩ | ⟨P, K, n, ST, e1, e2, g1, g2, g3, H12, H15s⟩
    · exact Made_NN p fp fk fv w hfform pz hpz H9 sz hsz H12
    · exact Made_NS p fp fk fv w hfform pz hpz H9 P K n _ _ ST e1 e2 g1 g2 g3 rfl rfl H12 H15s
  · rcases singer_made fp fk l fv w hT hl hll with ⟨sz, hsz, H12⟩ | ⟨P, K, n, ST, e1, e2, g1, g2, g3, H12, H15s⟩
    · exact Made_PN p fp fk fv w hfform pl pn lp h1 h2 h3 h4 h5 h6 H9 H15p sz hsz H12
    · exact Made_PS p fp fk fv w hfform pl pn lp h1 h2 h3 h4 h5 h6 H9 H15p P K n _ _ ST e1 e2 g1 g2 g3 rfl rfl H12 H15s

end Go.Proofs.YtogdcjlgddleaaaDoor
