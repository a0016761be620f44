/- Choices of columns as bits: the program's way is the document's. Nothing of the program. -/
import Derived.Test.YtjfjdidibglhaabDoorArF
import Derived.Test.YtjfjdidibglhaabDoorBPure
namespace Go.Proofs.YtjfjdidibglhaabDoor

/-- Does each choice of t columns pass? -/
def trB (k t : Nat) (f : Nat → Bool) : Bool := (List.range (2 ^ k)).all fun c => if pc c = t then f c else true
theorem trB_no {k t c : Nat} {f : Nat → Bool} (hc : c < 2 ^ k) (h1 : pc c = t) (h2 : f c = false) : trB k t f = false := by
  unfold trB
  rw [List.all_eq_false]
  refine ⟨c, List.mem_range.2 hc, ?_⟩
  rw [if_pos h1, h2]
  simp
theorem trB_yes {k t : Nat} {f : Nat → Bool} (h : ∀ c, c < 2 ^ k → pc c = t → f c = true) : trB k t f = true := by
  unfold trB
  rw [List.all_eq_true]
  intro c hc
  by_cases e : pc c = t
  · rw [if_pos e]; exact h c (List.mem_range.1 hc) e
  · rw [if_neg e]
theorem trB_is {k t : Nat} {f : Nat → Bool} (h : trB k t f = true) : ∀ c, c < 2 ^ k → pc c = t → f c = true := fun c hc e => by
  unfold trB at h
  have := List.all_eq_true.1 h c (List.mem_range.2 hc)
  rwa [if_pos e] at this
theorem pts_pts {k c : Nat} (hk : k ≤ 8) (hc : c < 2 ^ k) : Pts k (pts c) := by
  have h64 : c < 2 ^ 64 := Nat.lt_of_lt_of_le hc (Nat.pow_le_pow_right (by decide) (by omega))
  refine ⟨(pts_rise c).imp fun h => Nat.ne_of_lt h, fun i hi => ?_⟩
  have hb := (pts_mem' h64).1 hi
  rcases (show i < k ∨ k ≤ i by omega) with q | q
  · exact q
  · rw [testBit_high hc q] at hb; cases hb
theorem tr_str {s k t : Nat} {ls : List (List Int)} (hG : GoodA s k ls) {f : Nat → Bool} (hf : ∀ c, c < 2 ^ k → (f c = true ↔ ∀ l ∈ ls, hit (rnA ls) (pts c) (fnA l) ≤ ls.length / s ^ t)) : trB k t f = true ↔ Str s k (rnA ls) t := by
  have hs : 0 < s := by have := hG.s2; omega
  have hlen : (rnA ls).length = ls.length := List.length_map _
  have hx : ∀ {P : (Nat → Nat) → Prop}, (∀ x ∈ rnA ls, P x) ↔ ∀ l ∈ ls, P (fnA l) := fun {P} => ⟨fun h l hl => h _ (List.mem_map.2 ⟨l, hl, rfl⟩), fun h x hx => by
    obtain ⟨l, hl, rfl⟩ := List.mem_map.1 hx
    exact h l hl⟩
  constructor
  · intro h
    refine str_rise fun cs hr hlt hl => ?_
    have h64 : ∀ x ∈ cs, x < 64 := fun x hx => by have := hlt x hx; have := hG.k8; omega
    have hp := pts_sb hr h64
    have hc := sb_lt hlt
    have := (hf _ hc).1 (trB_is h _ hc (by rw [pc_sb hr h64, hl]))
    rw [hp] at this
    refine (strC_iff hs (hr.imp fun h => Nat.ne_of_lt h) fun x hx c hcm => hG.lvl x hx c (hlt c hcm)).2 (hx.2 fun l hl' => ?_)
    rw [hlen, hl]
    exact this l hl'
  · intro h
    refine trB_yes fun c hc hp => (hf c hc).2 fun l hl => ?_
    have hP := pts_pts hG.k8 hc
    have h1 := h (pts c) hP hp
    have h2 := strC_le hs h1 (fnA l) (List.mem_map.2 ⟨l, hl, rfl⟩)
    have e : (pts c).length = t := hp
    rw [hlen, e] at h2
    exact h2
end Go.Proofs.YtjfjdidibglhaabDoor
