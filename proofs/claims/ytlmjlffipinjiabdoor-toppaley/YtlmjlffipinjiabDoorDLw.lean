/- The walk of the document's LevelOf: the search. -/
import Derived.OwnWalk
import Derived.Test.YtlmjlffipinjiabDoorDGo
/- The walks of Still, Then, Undo. -/
namespace Go.Proofs.YtlmjlffipinjiabDoor
open Go.RowKit

theorem own_made' {w : World} {base g n : Nat} (h : w.ownsRow base 3 1 (.slice (some ⟨g, 0, none⟩) n n) n (madeCells #[Value.int .i64 0] n).toList) : Own w g n (fun _ => 0) := by
  obtain ⟨_, ⟨h1, _⟩ | ⟨g', cap, cur, e, hb, hg, h2, h3, h4, ht⟩⟩ := h
  · cases h1
  · cases e
    refine ⟨cur, hg, fun j hj => ?_⟩
    have e2 : (cur.toList.take (n * 1))[j]? = ((madeCells #[Value.int .i64 0] n).toList)[j]? := by rw [ht]
    rw [List.getElem?_take, if_pos (by omega)] at e2
    rw [← Array.getElem?_toList, e2]
    simp [madeCells, hj, Nat.mod_one]
theorem pl_succ (n : Nat) (f : Nat → Nat) : pl (n + 1) f = pl n f ++ [(f n : Int)] := by unfold pl; rw [List.range_succ, List.map_append]; rfl
theorem own_pl {w : World} {base n : Nat} {v : Value} {f : Nat → Nat} (h : w.ownsRow base 3 1 v n ((pl n f).map (Value.int .i64))) : Sl w v (pl n f) := Sl.owned (by rw [pl_len]; exact h)
theorem Own.pl {w : World} {g n : Nat} {h : Nat → Int} {f : Nat → Nat} (hO : Own w g n h) (cap : Nat) (e : ∀ j, j < n → h j = (f j : Int)) : Sl w (.slice (some ⟨g, 0, none⟩) n cap) (Go.Proofs.YtlmjlffipinjiabDoor.pl n f) := by
  have := (hO.congr (f' := fun j => (f j : Int)) e).sl cap
  exact this

/-- What undoes it. -/
noncomputable def iv (f : Nat → Nat) (y : Nat) : Nat := itr f (per f y - 1) y
theorem Pm.iv_lt {n : Nat} {f : Nat → Nat} (P : Pm n f) {y : Nat} (hy : y < n) : iv f y < n := P.itr_lt hy _
theorem Pm.f_iv {n : Nat} {f : Nat → Nat} (P : Pm n f) {y : Nat} (hy : y < n) : f (iv f y) = y := by
  have hp := (P.per hy).1
  show itr f (Go.Proofs.YtlmjlffipinjiabDoor.per f y - 1 + 1) y = y
  rw [show Go.Proofs.YtlmjlffipinjiabDoor.per f y - 1 + 1 = Go.Proofs.YtlmjlffipinjiabDoor.per f y by omega, hp.2.2]
theorem Pm.iv_f {n : Nat} {f : Nat → Nat} (P : Pm n f) {x : Nat} (hx : x < n) : iv f (f x) = x :=
  P.inj _ _ (P.iv_lt (P.lt x hx)) hx (P.f_iv (P.lt x hx))
theorem Pm.iv_pm {n : Nat} {f : Nat → Nat} (P : Pm n f) : Pm n (iv f) :=
  ⟨fun y hy => P.iv_lt hy, fun i j hi hj e => by rw [← P.f_iv hi, ← P.f_iv hj, e]⟩
theorem Pm.iv_of {n : Nat} {f : Nat → Nat} (P : Pm n f) {h : Nat → Int} (e : ∀ t, t < n → h (f t) = (t : Int)) : ∀ y, y < n → h y = (iv f y : Int) := fun y hy => by
  have := e _ (P.iv_lt hy)
  rw [P.f_iv hy] at this
  exact this
theorem undo_step {n k : Nat} {f : Nat → Nat} (P : Pm n f) {h : Nat → Int} (hk : k < n) (e : ∀ t, t < k → h (f t) = (t : Int)) : ∀ t, t < k + 1 → upd h (f k) (k : Int) (f t) = (t : Int) := fun t ht => by
  unfold upd
  by_cases et : t = k
  · subst et; rw [if_pos rfl]
  · rw [if_neg (fun e2 => et (P.inj t k (by omega) hk e2))]
    exact e t (by omega)

end Go.Proofs.YtlmjlffipinjiabDoor

/- The walk of the document's LevelOf. -/
namespace Go.Proofs.YtlmjlffipinjiabDoor
open Go.RowKit

/-- What is read at a block's beginning. -/
def rdN (w : World) (g t : Nat) : List Nat := (List.range t).map fun j => match w.cell? ⟨g, j, none⟩ with
  | some (.int _ n) => n.toNat
  | _ => 0
theorem rd_own {w : World} {g t : Nat} {f : Nat → Nat} (h : Own w g t fun j => (f j : Int)) : rdN w g t = fl t f := by
  unfold rdN fl
  refine List.map_congr_left fun j hj => ?_
  rw [h.cell j (List.mem_range.1 hj)]
  simp
/-- A row of points, as it goes on: none, or one of the call's own. -/
def Cur (base t g : Nat) (sv : Value) (w : World) (f : Nat → Nat) : Prop := (t = 0 ∧ ∃ a c, sv = .slice a 0 c) ∨ (1 ≤ t ∧ base ≤ g ∧ (∃ cap, sv = .slice (some ⟨g, 0, none⟩) t cap) ∧ Own w g t fun j => (f j : Int))
theorem Cur.sl {base t g : Nat} {sv : Value} {w : World} {f : Nat → Nat} (h : Cur base t g sv w f) : Sl w sv ((fl t f).map Int.ofNat) := by
  rcases h with ⟨rfl, a, c, rfl⟩ | ⟨_, _, ⟨cap, rfl⟩, hO⟩
  · exact ⟨a, c, rfl, fun j hj => by simp [fl] at hj⟩
  · have := hO.sl cap
    have e : (fl t f).map Int.ofNat = (List.range t).map fun j => (f j : Int) := by
      unfold fl
      rw [List.map_map]
      rfl
    rw [e]
    exact this
theorem Cur.below {base t g : Nat} {sv : Value} {w w' : World} {f : Nat → Nat} (h : Cur base t g sv w f) (hb : Below w.heap.size w w') : Cur base t g sv w' f := by
  rcases h with h | ⟨h1, h2, h3, hO⟩
  · exact .inl h
  · exact .inr ⟨h1, h2, h3, hO.below hb⟩
theorem Cur.rd {base t g : Nat} {sv : Value} {w : World} {f : Nat → Nat} (h : Cur base t g sv w f) : rdN w g t = fl t f := by
  rcases h with ⟨rfl, _⟩ | ⟨_, _, _, hO⟩
  · rfl
  · exact rd_own hO
theorem Cur.slice {base t g : Nat} {sv : Value} {w : World} {f : Nat → Nat} (h : Cur base t g sv w f) : ∃ a c, sv = .slice a t c := by
  rcases h with ⟨rfl, a, c, rfl⟩ | ⟨_, _, ⟨cap, rfl⟩, _⟩
  · exact ⟨_, _, rfl⟩
  · exact ⟨_, _, rfl⟩
theorem cur_start {w : World} {base t : Nat} {sv : Value} (h : w.ownsRow base 3 1 sv t ((pl t fun x => x).map (Value.int .i64))) : ∃ g, Cur base t g sv w fun x => x := by
  by_cases ht : t = 0
  · subst ht
    obtain ⟨_, ⟨rfl, _⟩ | ⟨g, cap, cur, rfl, _⟩⟩ := h
    · exact ⟨0, .inl ⟨rfl, _, _, rfl⟩⟩
    · exact ⟨0, .inl ⟨rfl, _, _, rfl⟩⟩
  · obtain ⟨g, cap, rfl, hb, hO⟩ := Own.of h (by omega)
    exact ⟨g, .inr ⟨by omega, hb, ⟨cap, rfl⟩, hO.congr fun j hj => pl_at _ hj⟩⟩
theorem fl_id (t : Nat) : fl t (fun x => x) = List.range' 0 t := by
  unfold fl
  rw [List.map_id', List.range_eq_range']
/-- Where the search for a level stands. -/
def LvS (v t : Nat) (B : List (List Nat)) (lam : Int) (s : List Nat) : Prop :=
  (lam = -1 ∧ ∀ s', Rs v 0 s' → s'.length = t → ¬ llt s' s) ∨ (∃ l : Nat, lam = l ∧ l ≤ 200 ∧ (∃ s0, Rs v 0 s0 ∧ s0.length = t ∧ nb B s0 = l) ∧ ∀ s', Rs v 0 s' → s'.length = t → llt s' s → nb B s' = l)
theorem nb_le (B : List (List Nat)) (s : List Nat) : nb B s ≤ B.length := List.countP_le_length
theorem LvS.before {v t l : Nat} {B : List (List Nat)} {lam : Int} {s : List Nat} (h : LvS v t B lam s) (hl : lam = -1 ∨ lam = l) (hs : nb B s = l) : ∀ s', Rs v 0 s' → s'.length = t → (llt s' s ∨ s' = s) → nb B s' = l := fun s' h1 h2 h3 => by
  rcases h3 with h3 | rfl
  · rcases h with ⟨_, h⟩ | ⟨m, e, _, _, h⟩
    · exact (h s' h1 h2 h3).elim
    · have : m = l := by rcases hl with hl | hl <;> omega
      subst this
      exact h s' h1 h2 h3
  · exact hs
theorem LvS.next {v t l : Nat} {B : List (List Nat)} {lam : Int} {s s2 : List Nat} (h : LvS v t B lam s) (hr : Rs v 0 s) (ht : s.length = t) (hl : lam = -1 ∨ lam = l) (hs : nb B s = l) (h200 : l ≤ 200) (hn : nx v s = some s2) : LvS v t B (l : Int) s2 := by
  obtain ⟨h1, h2, h3, h4⟩ := nx_some hr hn
  refine .inr ⟨l, rfl, h200, ⟨s, hr, ht, hs⟩, fun s' a1 a2 a3 => h.before hl hs s' a1 a2 ?_⟩
  rcases llt_tri (s := s') (t := s) (by omega) with c | c | c
  · exact .inl c
  · exact .inr c
  · rcases h4 s' a1 (by omega) c with rfl | d
    · exact (llt_irr a3).elim
    · exact (llt_asym d a3).elim
where
  llt_asym : ∀ {s t : List Nat}, llt s t → ¬ llt t s
  | [], _, h, _ => by cases h
  | _ :: _, [], h, _ => by cases h
  | x :: s, y :: t, h, h' => by
    rcases h with h | ⟨rfl, h⟩
    · rcases h' with h' | ⟨e, _⟩ <;> omega
    · rcases h' with h' | ⟨_, h'⟩
      · omega
      · exact llt_asym h h'
theorem LvS.done {v t l : Nat} {B : List (List Nat)} {lam : Int} {s : List Nat} (h : LvS v t B lam s) (hr : Rs v 0 s) (ht : s.length = t) (hl : lam = -1 ∨ lam = l) (hs : nb B s = l) (hn : nx v s = none) : Lev v B t l :=
  lev_of_rise fun s' a1 a2 a3 => h.before hl hs s' (rs_iff.2 ⟨a1, fun x hx => ⟨Nat.zero_le _, a2 x hx⟩⟩) a3 (by
    rcases llt_tri (s := s') (t := s) (by omega) with c | c | c
    · exact .inl c
    · exact .inr c
    · exact (nx_none hr hn (rs_iff.2 ⟨a1, fun x hx => ⟨Nat.zero_le _, a2 x hx⟩⟩) (by omega) c).elim)
theorem LvS.no {v t l : Nat} {B : List (List Nat)} {s : List Nat} (h : LvS v t B (l : Int) s) (hr : Rs v 0 s) (ht : s.length = t) (hs : nb B s ≠ l) : ¬ ∃ m, Lev v B t m := by
  rintro ⟨m, hm⟩
  rcases h with ⟨e, _⟩ | ⟨l', e, _, ⟨s0, r0, t0, n0⟩, _⟩
  · omega
  · have p : ∀ s, Rs v 0 s → Pts v s := fun s h => rise_pts (rs_iff.1 h).1 fun x hx => ((rs_iff.1 h).2 x hx).2
    have a := hm s0 (p s0 r0) t0
    have b := hm s (p s hr) ht
    omega
end Go.Proofs.YtlmjlffipinjiabDoor

namespace Go.Proofs.YtlmjlffipinjiabDoor
open Go.RowKit

/-- The rows of a design in memory. -/
def DRow (w : World) (a : Option Addr) (B : List (List Nat)) : Prop := ∀ (i : Nat) (b : List Nat), B[i]? = some b → ∃ bb off ua uc, a = some ⟨bb, off, none⟩ ∧ ∀ W, Below w.heap.size w W → W.cell? ⟨bb, off + i, none⟩ = some (.slice ua b.length uc) ∧ Sl W (.slice ua b.length uc) (b.map Int.ofNat)
theorem drow_of {w : World} {v : Value} {B : List (List Nat)} (h : Rw w v (toZ B)) : ∃ a cap, v = .slice a B.length cap ∧ DRow w a B := by
  obtain ⟨a, cap, rfl, h⟩ := h
  have hl : (toZ B).length = B.length := by simp [toZ]
  rw [hl]
  refine ⟨a, cap, rfl, fun i b hb => ?_⟩
  obtain ⟨bb, off, u, e, hc, hS⟩ := h i (b.map Int.ofNat) (by unfold toZ; rw [List.getElem?_map, hb]; rfl)
  have hS' := hS
  obtain ⟨ua, uc, rfl, _⟩ := hS
  rw [List.length_map] at hc hS'
  exact ⟨bb, off, ua, uc, e, fun W bW => ⟨(bW.cell (World.block_lt_of_cell? _ _ hc)).trans hc, hS'.below bW⟩⟩
theorem take_count (B : List (List Nat)) (p : List Nat → Bool) {i : Nat} {b : List Nat} (h : B[i]? = some b) : (B.take (i + 1)).countP p = (B.take i).countP p + if p b = true then 1 else 0 := by
  rw [List.take_add_one, h, List.countP_append]
  simp [List.countP_cons]
end Go.Proofs.YtlmjlffipinjiabDoor
