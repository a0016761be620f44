/- The walk of Orbits. -/
import Derived.Test.YtnbkabggmomhlaaG48
import Derived.Test.YtnbkabggmomhlaaG47
import Derived.Test.YtnbkabggmomhlaaG11
namespace Go.Proofs.Ytnbkabggmomhlaa
open Go.RowKit Go.Maps

/-- The orbits, by their least points. -/
noncomputable def orbs (n : Nat) (ms : List (List Nat)) : List (List Nat) := (reps n (Gen n ms)).map (orbL n (Gen n ms))
open Classical in
theorem cutL_orbs {n : Nat} {ms : List (List Nat)} {c : Nat → Nat} (hn : n ≤ 7) (hm : ∀ m ∈ ms, IsP n m) (h : OrbC (ms.map (ext n)) c) : cutL c n n = orbs n ms := by
  have hG := gen_grp hm
  have hr : ∀ x, x < n → c x = repO n (Gen n ms) x := fun x hx => orb_least hG h.cut (fun x y hx hy => h.orb hn hm hx hy) hx
  have hbl : ∀ f, f < n → bl c n f = if repO n (Gen n ms) f = f then orbL n (Gen n ms) f else [] := by
    intro f hf
    unfold bl
    by_cases e : repO n (Gen n ms) f = f
    · rw [if_pos e]
      unfold orbL
      refine List.filter_congr fun x hx => ?_
      have hx := List.mem_range.1 hx
      rw [hr x hx, Bool.eq_iff_iff, beq_iff_eq, decide_eq_true_iff]
      constructor
      · intro e2; exact (repO_eq hG hf hx).1 (e.trans e2.symm)
      · intro e2; exact ((repO_eq hG hf hx).2 e2).symm.trans e
    · rw [if_neg e, List.filter_eq_nil_iff]
      intro x hx hh
      have hx := List.mem_range.1 hx
      have e2 : c x = f := by simpa using hh
      refine e ?_
      rw [← hr f hf, ← e2]
      exact h.cut.fix x
  have hne : ∀ f, f < n → orbL n (Gen n ms) f ≠ [] := fun f hf e => by
    have := mem_orbL.2 ⟨hf, Orb.refl hG hf⟩
    rw [e] at this; cases this
  unfold cutL orbs reps
  rw [List.filter_map]
  have e1 : (List.range n).filter ((fun l : List Nat => !l.isEmpty) ∘ fun f => bl c n f) = (List.range n).filter fun x => decide (repO n (Gen n ms) x = x) := by
    refine List.filter_congr fun f hf => ?_
    have hf := List.mem_range.1 hf
    simp only [Function.comp]
    rw [hbl f hf]
    by_cases e : repO n (Gen n ms) f = f
    · rw [if_pos e]
      have : (orbL n (Gen n ms) f).isEmpty = false := by simpa using hne f hf
      simp [this, e]
    · simp [e]
  rw [e1]
  refine List.map_congr_left fun f hf => ?_
  obtain ⟨h1, h2⟩ := List.mem_filter.1 hf
  rw [hbl f (List.mem_range.1 h1), if_pos (of_decide_eq_true h2)]
theorem reps_len (n : Nat) (G : List Nat → Prop) : (reps n G).length ≤ n := by
  unfold reps
  refine Nat.le_trans (List.length_filter_le _ _) ?_
  rw [List.length_range]; exact Nat.le_refl _
theorem Mk.ext7 {n : Nat} {ms : List (List Nat)} {v : Value} {w : World} (h : Mk n ms v w) : ∀ m ∈ ms.map (ext n), IsP 7 m := fun m hm => by
  obtain ⟨a, ha, rfl⟩ := List.mem_map.1 hm
  exact ext_isP (h.isP a ha) h.n7

set_option maxRecDepth 100000 in
set_option maxHeartbeats 1000000 in
theorem Orbits_ok (n : Nat) (ms : List (List Nat)) (v : Value) (w : World) (h : Mk n ms v w) :
    Calls Try.prog 19 #[.int .i64 (n : Int), v] w fun e w' => (∃ y, e = .returned (.tuple #[y, .int .i64 0]) ∧ SlSl w' y (orbs n ms)) ∧ Below w.heap.size w w' := by
  have C1 := h.check
  have C2 := fun W (hb : Below w.heap.size w W) => (h.below hb).moves
  have C3 := fun x W (hx : Mvs W x (ms.map (ext n))) => orbits_any (ms.map (ext n)) x W (by rw [List.length_map]; exact h.len) hx h.ext7
  have C4 := fun (c : Nat → Nat) (hc : OrbC (ms.map (ext n)) c) W => lists_any c n W h.n7 hc.cut.le
  have HE : Hid (∀ c, OrbC (ms.map (ext n)) c → cutL c n n = orbs n ms) := fun c hc => cutL_orbs h.n7 h.isP hc
  clear h
  go_enter Try.func19, Try.ntmps19
  go_wp2_with (first
    | (go_at_call 10; refine C1.mono ?_; rintro e w1 ⟨rfl, b1⟩)
    | (go_at_call 38; refine (C2 _ b1).mono ?_; rintro e w2 ⟨⟨x, rfl, hx⟩, b2⟩; replace b2 := Below.next b1 b2)
    | (go_at_call 47; refine (C3 _ _ hx).mono ?_; rintro e w3 ⟨⟨c, rfl, hc⟩, b3⟩; replace b3 := Below.next b2 b3)
    | (go_at_call 48; refine (C4 c hc _).mono ?_; rw [HE.out c hc]; rintro e w4 ⟨⟨y, rfl, hy⟩, b4⟩; replace b4 := Below.next b3 b4))
  exact bodyPost_ret (v := .tuple #[y, .int .i64 0]) (by simp [results, Try.results19, go_sem]) rfl ⟨⟨y, rfl, hy⟩, b4⟩

end Go.Proofs.Ytnbkabggmomhlaa
