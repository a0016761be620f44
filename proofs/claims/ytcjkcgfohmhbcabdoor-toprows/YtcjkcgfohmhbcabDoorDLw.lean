/- The walk of the document's LevelOf: the search. -/
import Derived.Test.YtcjkcgfohmhbcabDoorPList
import Derived.OwnWalk
import Derived.Test.YtcjkcgfohmhbcabDoorDGo
/- The walks of Still, Then, Undo. -/
namespace Go.Proofs.YtcjkcgfohmhbcabDoor
open Go.RowKit

theorem own_made' {w : World} {base g n : Nat} (h : w.ownsRow base 3 1 (.slice (some ⟨g, 0, none⟩) n n) n (madeCells #[Value.int .i64 0] n).toList) : Own w g n (fun _ => 0) := by
  obtain ⟨_, ⟨h1, _⟩ | ⟨g', cap, cur, e, hb, hg, h2, h3, h4, ht⟩⟩ := h
  · cases h1
  · cases e
    refine ⟨cur, hg, fun j hj => ?_⟩
    have e2 : (cur.toList.take (n * 1))[j]? = ((madeCells #[Value.int .i64 0] n).toList)[j]? := by rw [ht]
    rw [List.getElem?_take, if_pos (by omega)] at e2
    rw [← Array.getElem?_toList, e2]
    simp [madeCells, hj, Nat.mod_one]
theorem Own.pl {w : World} {g n : Nat} {h : Nat → Int} {f : Nat → Nat} (hO : Own w g n h) (cap : Nat) (e : ∀ j, j < n → h j = (f j : Int)) : Sl w (.slice (some ⟨g, 0, none⟩) n cap) (Go.Proofs.YtcjkcgfohmhbcabDoor.pl n f) := by
  have := (hO.congr (f' := fun j => (f j : Int)) e).sl cap
  exact this

/-- What undoes it. -/
noncomputable def iv (f : Nat → Nat) (y : Nat) : Nat := itr f (per f y - 1) y
end Go.Proofs.YtcjkcgfohmhbcabDoor

/- The walk of the document's LevelOf. -/
namespace Go.Proofs.YtcjkcgfohmhbcabDoor
open Go.RowKit

/-- What is read at a block's beginning. -/
def rdN (w : World) (g t : Nat) : List Nat := (List.range t).map fun j => match w.cell? ⟨g, j, none⟩ with
  | some (.int _ n) => n.toNat
  | _ => 0
theorem rd_own {w : World} {g t : Nat} {f : Nat → Nat} (h : Own w g t fun j => (f j : Int)) : rdN w g t = fl t f := by
  unfold rdN fl
  refine List.map_congr_left fun j hj => ?_
  rw [h.cell j (List.mem_range.1 hj)]
  simp
/-- A row of points, as it goes on: none, or one of the call's own. -/
def Cur (base t g : Nat) (sv : Value) (w : World) (f : Nat → Nat) : Prop := (t = 0 ∧ ∃ a c, sv = .slice a 0 c) ∨ (1 ≤ t ∧ base ≤ g ∧ (∃ cap, sv = .slice (some ⟨g, 0, none⟩) t cap) ∧ Own w g t fun j => (f j : Int))
theorem Cur.sl {base t g : Nat} {sv : Value} {w : World} {f : Nat → Nat} (h : Cur base t g sv w f) : Sl w sv ((fl t f).map Int.ofNat) := by
  rcases h with ⟨rfl, a, c, rfl⟩ | ⟨_, _, ⟨cap, rfl⟩, hO⟩
  · exact ⟨a, c, rfl, fun j hj => by simp [fl] at hj⟩
  · have := hO.sl cap
    have e : (fl t f).map Int.ofNat = (List.range t).map fun j => (f j : Int) := by
      unfold fl
      rw [List.map_map]
      rfl
    rw [e]
    exact this
theorem Cur.below {base t g : Nat} {sv : Value} {w w' : World} {f : Nat → Nat} (h : Cur base t g sv w f) (hb : Below w.heap.size w w') : Cur base t g sv w' f := by
  rcases h with h | ⟨h1, h2, h3, hO⟩
  · exact .inl h
  · exact .inr ⟨h1, h2, h3, hO.below hb⟩
theorem Cur.rd {base t g : Nat} {sv : Value} {w : World} {f : Nat → Nat} (h : Cur base t g sv w f) : rdN w g t = fl t f := by
  rcases h with ⟨rfl, _⟩ | ⟨_, _, _, hO⟩
  · rfl
  · exact rd_own hO
theorem Cur.slice {base t g : Nat} {sv : Value} {w : World} {f : Nat → Nat} (h : Cur base t g sv w f) : ∃ a c, sv = .slice a t c := by
  rcases h with ⟨rfl, a, c, rfl⟩ | ⟨_, _, ⟨cap, rfl⟩, _⟩
  · exact ⟨_, _, rfl⟩
  · exact ⟨_, _, rfl⟩
/-- Where the search for a level stands. -/
def LvS (v t : Nat) (B : List (List Nat)) (lam : Int) (s : List Nat) : Prop :=
  (lam = -1 ∧ ∀ s', Rs v 0 s' → s'.length = t → ¬ llt s' s) ∨ (∃ l : Nat, lam = l ∧ l ≤ 200 ∧ (∃ s0, Rs v 0 s0 ∧ s0.length = t ∧ nb B s0 = l) ∧ ∀ s', Rs v 0 s' → s'.length = t → llt s' s → nb B s' = l)
theorem LvS.before {v t l : Nat} {B : List (List Nat)} {lam : Int} {s : List Nat} (h : LvS v t B lam s) (hl : lam = -1 ∨ lam = l) (hs : nb B s = l) : ∀ s', Rs v 0 s' → s'.length = t → (llt s' s ∨ s' = s) → nb B s' = l := fun s' h1 h2 h3 => by
  rcases h3 with h3 | rfl
  · rcases h with ⟨_, h⟩ | ⟨m, e, _, _, h⟩
    · exact (h s' h1 h2 h3).elim
    · have : m = l := by rcases hl with hl | hl <;> omega
      subst this
      exact h s' h1 h2 h3
  · exact hs
theorem LvS.next {v t l : Nat} {B : List (List Nat)} {lam : Int} {s s2 : List Nat} (h : LvS v t B lam s) (hr : Rs v 0 s) (ht : s.length = t) (hl : lam = -1 ∨ lam = l) (hs : nb B s = l) (h200 : l ≤ 200) (hn : nx v s = some s2) : LvS v t B (l : Int) s2 := by
  obtain ⟨h1, h2, h3, h4⟩ := nx_some hr hn
  refine .inr ⟨l, rfl, h200, ⟨s, hr, ht, hs⟩, fun s' a1 a2 a3 => h.before hl hs s' a1 a2 ?_⟩
  rcases llt_tri (s := s') (t := s) (by omega) with c | c | c
  · exact .inl c
  · exact .inr c
  · rcases h4 s' a1 (by omega) c with rfl | d
    · exact (llt_irr a3).elim
    · exact (llt_asym d a3).elim
where
  llt_asym : ∀ {s t : List Nat}, llt s t → ¬ llt t s
  | [], _, h, _ => by cases h
  | _ :: _, [], h, _ => by cases h
  | x :: s, y :: t, h, h' => by
    rcases h with h | ⟨rfl, h⟩
    · rcases h' with h' | ⟨e, _⟩ <;> omega
    · rcases h' with h' | ⟨_, h'⟩
      · omega
      · exact llt_asym h h'
theorem LvS.done {v t l : Nat} {B : List (List Nat)} {lam : Int} {s : List Nat} (h : LvS v t B lam s) (hr : Rs v 0 s) (ht : s.length = t) (hl : lam = -1 ∨ lam = l) (hs : nb B s = l) (hn : nx v s = none) : Lev v B t l :=
  lev_of_rise fun s' a1 a2 a3 => h.before hl hs s' (rs_iff.2 ⟨a1, fun x hx => ⟨Nat.zero_le _, a2 x hx⟩⟩) a3 (by
    rcases llt_tri (s := s') (t := s) (by omega) with c | c | c
    · exact .inl c
    · exact .inr c
    · exact (nx_none hr hn (rs_iff.2 ⟨a1, fun x hx => ⟨Nat.zero_le _, a2 x hx⟩⟩) (by omega) c).elim)
theorem LvS.no {v t l : Nat} {B : List (List Nat)} {s : List Nat} (h : LvS v t B (l : Int) s) (hr : Rs v 0 s) (ht : s.length = t) (hs : nb B s ≠ l) : ¬ ∃ m, Lev v B t m := by
  rintro ⟨m, hm⟩
  rcases h with ⟨e, _⟩ | ⟨l', e, _, ⟨s0, r0, t0, n0⟩, _⟩
  · omega
  · have p : ∀ s, Rs v 0 s → Pts v s := fun s h => rise_pts (rs_iff.1 h).1 fun x hx => ((rs_iff.1 h).2 x hx).2
    have a := hm s0 (p s0 r0) t0
    have b := hm s (p s hr) ht
    omega
end Go.Proofs.YtcjkcgfohmhbcabDoor

namespace Go.Proofs.YtcjkcgfohmhbcabDoor
open Go.RowKit

end Go.Proofs.YtcjkcgfohmhbcabDoor
