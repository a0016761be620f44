/- Duval's way: what it finds are the Lyndon words that the word is made of. Plain words. -/
import Derived.Test.YtcjkcgfohmhbcabWdN
import Derived.Test.YtcjkcgfohmhbcabWdF
namespace Go.Proofs.Ytcjkcgfohmhbcab

/-- What is looked at: a Lyndon word of p numbers, again and again, the last time in part. -/
structure Dv (x : List Nat) (p : Nat) : Prop where
  one : 1 ≤ p
  le : p ≤ x.length
  lyn : Lyn (x.take p)
  per : ∀ t, p ≤ t → t < x.length → x.getD t 0 = x.getD (t - p) 0
theorem Dv.start (a : Nat) : Dv [a] 1 := ⟨Nat.le_refl _, Nat.le_refl _, lyn_one a, fun t h1 h2 => by
  have : t < 1 := h2
  omega⟩
theorem getD_app_lt {x y : List Nat} {t : Nat} (h : t < x.length) : (x ++ y).getD t 0 = x.getD t 0 := by
  rw [List.getD_eq_getElem?_getD, List.getElem?_append_left h, ← List.getD_eq_getElem?_getD]
theorem getD_app_at {x : List Nat} {c : Nat} : (x ++ [c]).getD x.length 0 = c := by
  rw [List.getD_eq_getElem?_getD, List.getElem?_append_right (Nat.le_refl _), Nat.sub_self]; rfl
theorem Dv.same {x : List Nat} {p c : Nat} (h : Dv x p) (hc : x.getD (x.length - p) 0 = c) : Dv (x ++ [c]) p := by
  have h1 := h.one
  have h2 := h.le
  refine ⟨h1, by rw [List.length_append]; omega, by rw [List.take_append_of_le_length h2]; exact h.lyn, fun t ht hl => ?_⟩
  rw [List.length_append] at hl
  have hl : t < x.length + 1 := hl
  by_cases e : t = x.length
  · rw [e, getD_app_at, getD_app_lt (by omega), hc]
  · rw [getD_app_lt (by omega), getD_app_lt (by omega)]
    exact h.per t ht (by omega)
/-- So often a list. -/
def repL (u : List Nat) : Nat → List Nat
  | 0 => []
  | q + 1 => u ++ repL u q
theorem repL_len (u : List Nat) : ∀ q, (repL u q).length = q * u.length
  | 0 => by show 0 = _; rw [Nat.zero_mul]
  | q + 1 => by
    show (u ++ repL u q).length = _
    rw [List.length_append, repL_len u q, Nat.succ_mul, Nat.add_comm]
theorem repL_flat (u : List Nat) : ∀ q, (List.replicate q u).flatten = repL u q
  | 0 => rfl
  | q + 1 => by rw [List.replicate_succ, List.flatten_cons, repL_flat u q]; rfl
/-- Its parts. -/
theorem Dv.parts : ∀ (n : Nat) {x : List Nat} {p : Nat}, x.length ≤ n → Dv x p → x = repL (x.take p) (x.length / p) ++ (x.take p).take (x.length % p)
  | 0, x, p, hn, h => by have := h.one; have := h.le; omega
  | n + 1, x, p, hn, h => by
    have h1 := h.one
    have h2 := h.le
    have ht : (x.take p).length = p := by rw [List.length_take]; omega
    rcases Nat.lt_or_ge x.length (2 * p) with h3 | h3
    · have e1 : x.length / p = 1 := by
        rw [Nat.div_eq_iff (by omega)]; omega
      have e2 : x.length % p = x.length - p := by
        rw [Nat.mod_eq_sub_mod h2, Nat.mod_eq_of_lt (by omega)]
      rw [e1, e2]
      show x = x.take p ++ [] ++ (x.take p).take (x.length - p)
      rw [List.append_nil]
      have e3 : x.drop p = (x.take p).take (x.length - p) := by
        apply List.ext_getElem
        · rw [List.length_drop, List.length_take, ht]; omega
        · intro t ha hb
          rw [List.length_drop] at ha
          have hp := h.per (p + t) (by omega) (by omega)
          rw [Nat.add_sub_cancel_left, List.getD_eq_getElem?_getD, List.getD_eq_getElem?_getD, List.getElem?_eq_getElem (by omega), List.getElem?_eq_getElem (by omega)] at hp
          rw [List.getElem_drop, List.getElem_take, List.getElem_take]
          exact hp
      rw [← e3, List.take_append_drop]
    · have hd : Dv (x.drop p) p := by
        have e3 : (x.drop p).take p = x.take p := by
          apply List.ext_getElem
          · rw [List.length_take, List.length_drop, ht]; omega
          · intro t ha hb
            rw [List.length_take, List.length_drop] at ha
            have hp := h.per (p + t) (by omega) (by omega)
            rw [Nat.add_sub_cancel_left, List.getD_eq_getElem?_getD, List.getD_eq_getElem?_getD, List.getElem?_eq_getElem (by omega), List.getElem?_eq_getElem (by omega)] at hp
            rw [List.getElem_take, List.getElem_drop, List.getElem_take]
            exact hp
        refine ⟨h1, by rw [List.length_drop]; omega, by rw [e3]; exact h.lyn, fun t ha hb => ?_⟩
        rw [List.length_drop] at hb
        have hp := h.per (p + t) (by omega) (by omega)
        rw [List.getD_eq_getElem?_getD, List.getD_eq_getElem?_getD, List.getElem?_drop, List.getElem?_drop, ← List.getD_eq_getElem?_getD, ← List.getD_eq_getElem?_getD, hp]
        congr 1
        omega
      have e3 : (x.drop p).take p = x.take p := by
        apply List.ext_getElem
        · rw [List.length_take, List.length_drop, ht]; omega
        · intro t ha hb
          rw [List.length_take, List.length_drop] at ha
          have hp := h.per (p + t) (by omega) (by omega)
          rw [Nat.add_sub_cancel_left, List.getD_eq_getElem?_getD, List.getD_eq_getElem?_getD, List.getElem?_eq_getElem (by omega), List.getElem?_eq_getElem (by omega)] at hp
          rw [List.getElem_take, List.getElem_drop, List.getElem_take]
          exact hp
      have ih := Dv.parts n (x := x.drop p) (p := p) (by rw [List.length_drop]; omega) hd
      rw [e3, List.length_drop] at ih
      have e4 : x.length / p = (x.length - p) / p + 1 := by rw [Nat.div_eq x.length p, if_pos ⟨by omega, h2⟩]
      have e5 : x.length % p = (x.length - p) % p := by rw [Nat.mod_eq_sub_mod h2]
      rw [e4, e5]
      show x = (x.take p ++ repL (x.take p) ((x.length - p) / p)) ++ (x.take p).take ((x.length - p) % p)
      rw [List.append_assoc, ← ih, List.take_append_drop]
theorem repL_lyn {u v : List Nat} (hu : Lyn u) (hv : Lyn v) (h : Ah u v) : ∀ q, Lyn (repL u q ++ v) ∧ Ah u (repL u q ++ v)
  | 0 => ⟨hv, h⟩
  | q + 1 => by
    obtain ⟨h1, h2⟩ := repL_lyn hu hv h q
    show Lyn (u ++ repL u q ++ v) ∧ Ah u (u ++ repL u q ++ v)
    rw [List.append_assoc]
    exact ⟨Lyn.app hu h1 h2, ah_long u h1.ne⟩
/-- A greater number behind: all is a Lyndon word. -/
theorem Dv.more {x : List Nat} {p c : Nat} (h : Dv x p) (hc : x.getD (x.length - p) 0 < c) : Dv (x ++ [c]) (x.length + 1) := by
  have h1 := h.one
  have h2 := h.le
  have hx := Dv.parts x.length (Nat.le_refl _) h
  have ht : (x.take p).length = p := by rw [List.length_take]; omega
  have hr : x.length % p < p := Nat.mod_lt _ (by omega)
  have hs : x.take p = (x.take p).take (x.length % p) ++ (x.take p).getD (x.length % p) 0 :: (x.take p).drop (x.length % p + 1) := by
    conv => lhs; rw [← List.take_append_drop (x.length % p) (x.take p)]
    rw [List.drop_eq_getElem_cons (by omega), List.getD_eq_getElem?_getD, List.getElem?_eq_getElem (by omega)]
    rfl
  have hb : (x.take p).getD (x.length % p) 0 = x.getD (x.length - p) 0 := by
    have key : ∀ m t, t < x.length → t / p = m → x.getD t 0 = x.getD (t % p) 0 := by
      intro m
      induction m with
      | zero =>
        intro t ht2 e
        rcases Nat.lt_or_ge t p with h3 | h3
        · rw [Nat.mod_eq_of_lt h3]
        · have := Nat.div_pos h3 h1
          omega
      | succ m ih =>
        intro t ht2 e
        have h3 : p ≤ t := by
          rcases Nat.lt_or_ge t p with h4 | h4
          · rw [Nat.div_eq_of_lt h4] at e; omega
          · exact h4
        rw [h.per t h3 ht2, ih (t - p) (by omega) (by rw [Nat.div_eq t p, if_pos ⟨by omega, h3⟩] at e; omega), Nat.mod_eq_sub_mod h3]
    rw [key _ (x.length - p) (by omega) rfl, ← Nat.mod_eq_sub_mod h2]
    rw [List.getD_eq_getElem?_getD, List.getD_eq_getElem?_getD, List.getElem?_take, if_pos hr]
  have hv : Lyn ((x.take p).take (x.length % p) ++ [c]) := by
    have hL := h.lyn
    rw [hs] at hL
    exact Lyn.up hL (by rw [hb]; exact hc)
  have hA : Ah (x.take p) ((x.take p).take (x.length % p) ++ [c]) := by
    conv => arg 1; rw [hs]
    exact (ah_app _ _ _).2 (Or.inl (by rw [hb]; exact hc))
  have hL := (repL_lyn h.lyn hv hA (x.length / p)).1
  rw [← List.append_assoc, ← hx] at hL
  have hl : (x ++ [c]).length = x.length + 1 := by rw [List.length_append]; rfl
  refine ⟨by omega, by omega, ?_, fun t h3 h4 => by omega⟩
  rw [List.take_of_length_le (by omega)]
  exact hL
/-- Nothing that stands behind the pieces is behind them. -/
theorem Dv.stops {x r f g : List Nat} {p : Nat} (h : Dv x p) (hr : ∀ c r', r = c :: r' → c < x.getD (x.length - p) 0) (hf : (x.take p).take (x.length % p) ++ r = f ++ g) : ¬ Ah (x.take p) f := by
  have h1 := h.one
  have h2 := h.le
  have ht : (x.take p).length = p := by rw [List.length_take]; omega
  have hm : x.length % p < p := Nat.mod_lt _ (by omega)
  have hs : x.take p = (x.take p).take (x.length % p) ++ (x.take p).getD (x.length % p) 0 :: (x.take p).drop (x.length % p + 1) := by
    conv => lhs; rw [← List.take_append_drop (x.length % p) (x.take p)]
    rw [List.drop_eq_getElem_cons (by omega), List.getD_eq_getElem?_getD, List.getElem?_eq_getElem (by omega)]
    rfl
  have hb : (x.take p).getD (x.length % p) 0 = x.getD (x.length - p) 0 := by
    have key : ∀ m t, t < x.length → t / p = m → x.getD t 0 = x.getD (t % p) 0 := by
      intro m
      induction m with
      | zero =>
        intro t ht2 e
        rcases Nat.lt_or_ge t p with h3 | h3
        · rw [Nat.mod_eq_of_lt h3]
        · have := Nat.div_pos h3 h1
          omega
      | succ m ih =>
        intro t ht2 e
        have h3 : p ≤ t := by
          rcases Nat.lt_or_ge t p with h4 | h4
          · rw [Nat.div_eq_of_lt h4] at e; omega
          · exact h4
        rw [h.per t h3 ht2, ih (t - p) (by omega) (by rw [Nat.div_eq t p, if_pos ⟨by omega, h3⟩] at e; omega), Nat.mod_eq_sub_mod h3]
    rw [key _ (x.length - p) (by omega) rfl, ← Nat.mod_eq_sub_mod h2]
    rw [List.getD_eq_getElem?_getD, List.getD_eq_getElem?_getD, List.getElem?_take, if_pos hm]
  have hul : ((x.take p).take (x.length % p)).length = x.length % p := by rw [List.length_take, ht]; omega
  generalize hU : (x.take p).take (x.length % p) = U at *
  rcases Nat.lt_or_ge U.length f.length with hlt | hge
  · -- f goes beyond
    have e1 : f.take U.length = U := by
      have := congrArg (List.take U.length) hf
      rw [List.take_left, List.take_append_of_le_length (by omega)] at this
      exact this.symm
    have e2 : r = f.drop U.length ++ g := by
      have := congrArg (List.drop U.length) hf
      rw [List.drop_left, List.drop_append_of_le_length (by omega)] at this
      exact this
    obtain ⟨c, f', e3⟩ : ∃ c f', f.drop U.length = c :: f' := by
      cases e : f.drop U.length with
      | nil => have := congrArg List.length e; rw [List.length_drop] at this; simp at this; omega
      | cons c f' => exact ⟨c, f', rfl⟩
    have hc := hr c (f' ++ g) (by rw [e2, e3]; rfl)
    have hfe : f = U ++ c :: f' := by rw [← e3]; conv => lhs; rw [← List.take_append_drop U.length f, e1]
    rw [hs, hfe]
    intro hA
    rcases (ah_app _ _ _).1 hA with h3 | ⟨h3, _⟩
    · rw [hb] at h3; omega
    · rw [hb] at h3; omega
  · have e1 : U = f ++ U.drop f.length := by
      have := congrArg (List.take f.length) hf
      rw [List.take_left, List.take_append_of_le_length hge] at this
      conv => lhs; rw [← List.take_append_drop f.length U, this]
    rw [hs, e1, List.append_assoc]
    exact ah_pre f _
theorem Fal.more : ∀ {D : List (List Nat)} {u : List Nat}, Fal D → Lyn u → (∀ E l, D = E ++ [l] → ¬ Ah l u) → Fal (D ++ [u])
  | [], u, _, hu, _ => hu
  | [l], u, hD, hu, h => ⟨hD, h [] l rfl, hu⟩
  | l :: m :: r, u, hD, hu, h => ⟨hD.1, hD.2.1, Fal.more (D := m :: r) hD.2.2 hu fun E l' e => h (l :: E) l' (by rw [e]; rfl)⟩
/-- So many pieces alike. -/
theorem Fal.many {D : List (List Nat)} {u : List Nat} (hD : Fal D) (hu : Lyn u) (h : ∀ E l, D = E ++ [l] → ¬ Ah l u) : ∀ q, Fal (D ++ List.replicate q u)
  | 0 => by rw [List.replicate_zero, List.append_nil]; exact hD
  | q + 1 => by
    have e : D ++ List.replicate (q + 1) u = (D ++ List.replicate q u) ++ [u] := by rw [List.replicate_succ', List.append_assoc]
    rw [e]
    refine Fal.more (Fal.many hD hu h q) hu fun E l e2 => ?_
    cases q with
    | zero => rw [List.replicate_zero, List.append_nil] at e2; exact h E l e2
    | succ q =>
      rw [List.replicate_succ', ← List.append_assoc] at e2
      have := (List.append_inj' e2 rfl).2
      rw [List.cons.injEq] at this
      rw [← this.1]
      exact ah_irr u
/-- What is done and what is left, between two rounds of Duval's way. -/
structure Duv (w : List Nat) (D : List (List Nat)) (r : List Nat) : Prop where
  flat : D.flatten ++ r = w
  fal : Fal D
  beh : ∀ E l f g, D = E ++ [l] → r = f ++ g → ¬ Ah l f
theorem Duv.start (w : List Nat) : Duv w [] w := ⟨rfl, trivial, fun E l f g e => by cases E <;> cases e⟩
theorem Duv.round {w x r : List Nat} {D : List (List Nat)} {p : Nat} (h : Duv w D (x ++ r)) (hx : Dv x p) (hr : ∀ c r', r = c :: r' → c < x.getD (x.length - p) 0) :
    Duv w (D ++ List.replicate (x.length / p) (x.take p)) ((x.take p).take (x.length % p) ++ r) := by
  have hp := Dv.parts x.length (Nat.le_refl _) hx
  have hq : 1 ≤ x.length / p := Nat.div_pos hx.le hx.one
  refine ⟨?_, ?_, fun E l f g e1 e2 => ?_⟩
  · rw [List.flatten_append, repL_flat, List.append_assoc, ← List.append_assoc (repL _ _), ← hp]
    exact h.flat
  · refine Fal.many h.fal hx.lyn (fun E l e => ?_) _
    exact h.beh E l (x.take p) (x.drop p ++ r) e (by rw [← List.append_assoc, List.take_append_drop])
  · obtain ⟨q, hq2⟩ : ∃ q, x.length / p = q + 1 := ⟨x.length / p - 1, by omega⟩
    rw [hq2, List.replicate_succ', ← List.append_assoc] at e1
    have := (List.append_inj' e1 rfl).2
    rw [List.cons.injEq] at this
    rw [← this.1]
    exact hx.stops hr e2
/-- At the end: the word's pieces. -/
theorem Duv.all {w : List Nat} {D : List (List Nat)} (h : Duv w D []) : D = fcP w.length w := fcP_one h.fal (by have := h.flat; rw [List.append_nil] at this; exact this)
end Go.Proofs.Ytcjkcgfohmhbcab
