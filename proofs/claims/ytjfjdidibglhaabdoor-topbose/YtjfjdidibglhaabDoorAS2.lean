/- The walk of Squares. -/
import Derived.Test.YtjfjdidibglhaabDoorDOw
import Derived.Deep.AppendLies
import Derived.Test.YtjfjdidibglhaabDoorL3
import Derived.Deep.RegionHeld3
import Derived.Laws.MakeOwn
/- Rows of rows of one's own. -/
namespace Go.Proofs.YtjfjdidibglhaabDoor.Ar
open Go.RowKit

theorem undR : Tryd.prog.underlying 25 = some (.slice 22) := by kernel_rfl
theorem info40 : ∃ i, Tryd.prog.info? 22 = some i ∧ i.zero = some (.slice none 0 0) ∧ i.size = 1 ∧ i.bytes = 24 := by
  have h1 : (Tryd.prog.info? 22).map (·.zero) = some (some (.slice none 0 0)) := by kernel_rfl
  have h2 : (Tryd.prog.info? 22).map (·.size) = some 1 := by kernel_rfl
  have h3 : (Tryd.prog.info? 22).map (·.bytes) = some 24 := by kernel_rfl
  cases h : Tryd.prog.info? 22 with
  | none => rw [h] at h1; cases h1
  | some i =>
    rw [h] at h1 h2 h3
    exact ⟨i, rfl, Option.some.inj h1, Option.some.inj h2, Option.some.inj h3⟩
/-- A row of numbers of one's own. -/
def OZw (w : World) (base : Nat) (u : Value) (l : List Int) : Prop := w.ownsRow base 3 1 u l.length (l.map (Value.int .i64))
theorem own_keep {w w' : World} {base n : Nat} {e : TypeId} {v : Value} {xs : List Value} (h : w.ownsRow base e 1 v n xs) (k : ∀ b, base ≤ b → b < w.heap.size → w'.heap[b]? = w.heap[b]?) : w'.ownsRow base e 1 v n xs := by
  obtain ⟨h3, h4 | ⟨g, cap, cur, h5, h6, h7, h8⟩⟩ := h
  · exact ⟨h3, .inl h4⟩
  · exact ⟨h3, .inr ⟨g, cap, cur, h5, h6, (k g h6 (Array.getElem?_eq_some_iff.1 h7).1).trans h7, h8⟩⟩
def OZ (w : World) (base : Nat) (v : Value) (ls : List (List Int)) : Prop :=
  ∃ vals : List Value, w.ownsRow base 22 1 v ls.length vals ∧ ∀ (i : Nat) (u : Value) (l : List Int), vals[i]? = some u → ls[i]? = some l → OZw w base u l
theorem OZ.nil (w : World) (base : Nat) : OZ w base (.slice none 0 0) [] := ⟨[], World.ownsRow_nil _ _ _ _, fun i u l h _ => by simp at h⟩
theorem OZ.keep {w w' : World} {base : Nat} {v : Value} {ls : List (List Int)} (h : OZ w base v ls) (k : ∀ b, base ≤ b → b < w.heap.size → w'.heap[b]? = w.heap[b]?) : OZ w' base v ls := by
  obtain ⟨vals, h1, h2⟩ := h
  exact ⟨vals, own_keep h1 k, fun i u l hu hl => own_keep (h2 i u l hu hl) k⟩
theorem OZ.below {w w' : World} {base : Nat} {v : Value} {ls : List (List Int)} (h : OZ w base v ls) (k : Below w.heap.size w w') : OZ w' base v ls := h.keep fun b _ hb => k.block b hb
theorem OZw.below {w w' : World} {base : Nat} {u : Value} {l : List Int} (h : OZw w base u l) (k : Below w.heap.size w w') : OZw w' base u l := own_keep h fun b _ hb => k.block b hb
/-- One row more. -/
theorem OZ.more {wa w2 : World} {base : Nat} {v v' u : Value} {ls : List (List Int)} {l : List Int} {vals : List Value} (h1 : wa.ownsRow base 22 1 v ls.length vals) (h2 : ∀ (i : Nat) (u : Value) (l : List Int), vals[i]? = some u → ls[i]? = some l → OZw wa base u l) (hu : OZw wa base u l)
    (hown : w2.ownsRow base 22 1 v' (ls.length + 1) (vals ++ [u])) (hgr : wa.grownBy w2 v.ownBlock) : OZ w2 base v' (ls ++ [l]) := by
  have key : ∀ {u l}, OZw wa base u l → OZw w2 base u l := by
    rintro u l ⟨h0, hn | ⟨g, cap, cur, e1, hg, k1, k2⟩⟩
    · exact ⟨h0, .inl hn⟩
    · refine ⟨h0, .inr ⟨g, cap, cur, e1, hg, (hgr.block g (Array.getElem?_eq_some_iff.1 k1).1 (fun e => ?_)).trans k1, k2⟩⟩
      obtain ⟨_, ⟨rfl, _⟩ | ⟨g', cap', cur', rfl, _, hg', _⟩⟩ := h1
      · simp [Value.ownBlock] at e
      · have e2 : g = g' := by simpa [Value.ownBlock] using e
        subst e2
        rw [hg'] at k1
        simp at k1
  have hlen : vals.length = ls.length := by have := h1.1; omega
  refine ⟨vals ++ [u], by rw [List.length_append]; exact hown, fun i u' l' e1 e2 => ?_⟩
  by_cases hi : i < vals.length
  · rw [List.getElem?_append_left hi] at e1
    rw [List.getElem?_append_left (by omega)] at e2
    exact key (h2 i u' l' e1 e2)
  · rw [List.getElem?_append_right (by omega)] at e1
    rw [List.getElem?_append_right (by omega)] at e2
    have h0 : i - vals.length = 0 := by
      rcases Nat.eq_zero_or_pos (i - vals.length) with h | h
      · exact h
      · rw [List.getElem?_eq_none (by simp; omega)] at e1; simp at e1
    rw [h0] at e1
    rw [show i - ls.length = 0 by omega] at e2
    simp at e1 e2
    subst e1 e2
    exact key hu
theorem OZw.sl {w : World} {base : Nat} {u : Value} {l : List Int} (h : OZw w base u l) : Sl w u l := Sl.owned h
/-- It reads as rows of numbers. -/
theorem OZ.rw {w : World} {base : Nat} {v : Value} {ls : List (List Int)} (h : OZ w base v ls) : Rw w v ls := by
  obtain ⟨vals, h1, h2⟩ := h
  obtain ⟨h3, ⟨rfl, h4⟩ | ⟨g, cap, cur, rfl, h6, h7, h8, h9, h10, ht⟩⟩ := h1
  · refine ⟨none, 0, by rw [h4], fun i l hl => ?_⟩
    rw [List.length_eq_zero_iff.1 h4] at hl
    simp at hl
  · refine ⟨_, cap, rfl, fun i l hl => ?_⟩
    have hi : i < ls.length := (List.getElem?_eq_some_iff.1 hl).1
    have e2 : (cur.toList.take (ls.length * 1))[i]? = vals[i]? := by rw [ht]
    rw [List.getElem?_take, if_pos (by omega)] at e2
    obtain ⟨u, hu⟩ : ∃ u, vals[i]? = some u := ⟨vals[i]'(by omega), by simp⟩
    refine ⟨g, 0, u, rfl, ?_, (h2 i u l hu hl).sl⟩
    rw [cell_of_row w g _ _ _ _ h7, Nat.zero_add, ← Array.getElem?_toList, e2, hu]
theorem OZ.form {w : World} {base : Nat} {v : Value} {ls : List (List Int)} (h : OZ w base v ls) : ∃ a c, v = .slice a ls.length c := by
  obtain ⟨a, c, e, _⟩ := h.rw
  exact ⟨a, c, e⟩
theorem OZ.low {w : World} {b b' : Nat} {v : Value} {ls : List (List Int)} (h : OZ w b' v ls) (hb : b ≤ b') : OZ w b v ls := by
  have key : ∀ {e : TypeId} {size : Nat} {v : Value} {n : Nat} {xs : List Value}, w.ownsRow b' e size v n xs → w.ownsRow b e size v n xs := by
    intro e size v n xs h
    obtain ⟨h1, h2 | ⟨g, cap, cur, h3, h4, h5⟩⟩ := h
    · exact ⟨h1, .inl h2⟩
    · exact ⟨h1, .inr ⟨g, cap, cur, h3, Nat.le_trans hb h4, h5⟩⟩
  obtain ⟨vals, h1, h2⟩ := h
  exact ⟨vals, key h1, fun i u l hu hl => key (h2 i u l hu hl)⟩
theorem news_row (w : World) (u : Value) (t : TypeId) : ∀ j v, [u][j]? = some v → (w.alloc (.cells #[u] t)).cell? ((⟨w.heap.size, 0, none⟩ : Addr).add j) = some v := fun j v hj => by
  match j, hj with
  | 0, hj =>
    simp only [List.getElem?_cons_zero, Option.some.injEq] at hj
    subst hj
    rw [Addr.add_mid, cell_of_row _ _ _ _ _ _ (heap_alloc_new w _)]
    rfl
/-- Rows that are read, each with its room. -/
def RwR (w : World) (v : Value) (ls : List (List Int)) : Prop := ∃ a cap, v = .slice a ls.length cap ∧ ∀ i l, ls[i]? = some l → ∃ b off u, a = some ⟨b, off, none⟩ ∧ w.cell? ⟨b, off + i, none⟩ = some u ∧ Sl w u l ∧ ∀ a n c, u = .slice a n c → n ≤ c
theorem RwR.rw {w : World} {v : Value} {ls : List (List Int)} (h : RwR w v ls) : Rw w v ls := by
  obtain ⟨a, cap, e, h⟩ := h
  refine ⟨a, cap, e, fun i l hl => ?_⟩
  obtain ⟨b, off, u, h1, h2, h3, _⟩ := h i l hl
  exact ⟨b, off, u, h1, h2, h3⟩
theorem RwR.below {w w' : World} {v : Value} {ls : List (List Int)} (h : RwR w v ls) (hb : Below w.heap.size w w') : RwR w' v ls := by
  obtain ⟨a, cap, rfl, h⟩ := h
  refine ⟨a, cap, rfl, fun i l hl => ?_⟩
  obtain ⟨b, off, u, e, hc, hS, hr⟩ := h i l hl
  exact ⟨b, off, u, e, (hb.cell (World.block_lt_of_cell? _ _ hc)).trans hc, hS.below hb, hr⟩
theorem RwR.at {w : World} {v : Value} {ls : List (List Int)} (h : RwR w v ls) {i : Nat} {l : List Int} (hi : ls[i]? = some l) {a : Option Addr} {n cap : Nat} (e : v = .slice a n cap) (hl : 0 < l.length) : ∃ b off b2 o2 c2, a = some ⟨b, off, none⟩ ∧ w.cell? ⟨b, off + i, none⟩ = some (.slice (some ⟨b2, o2, none⟩) l.length c2) ∧ Sl w (.slice (some ⟨b2, o2, none⟩) l.length c2) l ∧ l.length ≤ c2 := by
  obtain ⟨a', cap', e', hr⟩ := h
  rw [e] at e'
  simp only [Value.slice.injEq] at e'
  obtain ⟨rfl, _, _⟩ := e'
  obtain ⟨b, off, u, h1, h2, h3, h4⟩ := hr i l hi
  obtain ⟨b2, o2, c2, rfl, _, _⟩ := h3.form rfl hl
  exact ⟨b, off, b2, o2, c2, h1, h2, h3, h4 _ _ _ rfl⟩
end Go.Proofs.YtjfjdidibglhaabDoor.Ar

/- Lists of squares that are read; the walk of checkSquares. -/
namespace Go.Proofs.YtjfjdidibglhaabDoor.Ar
open Go.RowKit

/-- A slice that reads as squares. -/
def SqL (w : World) (v : Value) (qs : List (Int × List Int)) : Prop := ∃ a cap, v = .slice a qs.length cap ∧ ∀ i q, qs[i]? = some q → ∃ b off u, a = some ⟨b, off, none⟩ ∧ w.cell? ⟨b, off + i * 2, none⟩ = some (.int .i64 q.1) ∧ w.cell? ⟨b, off + i * 2 + 1, none⟩ = some u ∧ Sl w u q.2
theorem SqL.below {w w' : World} {v : Value} {qs : List (Int × List Int)} (h : SqL w v qs) (hb : Below w.heap.size w w') : SqL w' v qs := by
  obtain ⟨a, cap, rfl, h⟩ := h
  refine ⟨a, cap, rfl, fun i q hq => ?_⟩
  obtain ⟨b, off, u, e, h1, h2, h3⟩ := h i q hq
  exact ⟨b, off, u, e, (hb.cell (World.block_lt_of_cell? _ _ h1)).trans h1, (hb.cell (World.block_lt_of_cell? _ _ h2)).trans h2, h3.below hb⟩
theorem SqL.at {w : World} {v : Value} {qs : List (Int × List Int)} (h : SqL w v qs) {i : Nat} {q : Int × List Int} (hi : qs[i]? = some q) {a : Option Addr} {n cap : Nat} (e : v = .slice a n cap) : ∃ b off u, a = some ⟨b, off, none⟩ ∧ w.cell? ⟨b, off + i * 2, none⟩ = some (.int .i64 q.1) ∧ w.cell? ⟨b, off + i * 2 + 1, none⟩ = some u ∧ Sl w u q.2 := by
  obtain ⟨a', cap', e', hr⟩ := h
  rw [e] at e'
  simp only [Value.slice.injEq] at e'
  obtain ⟨rfl, _, _⟩ := e'
  exact hr i q hi
/-- The first thing that is wrong with a square. -/
def qsF : List (Int × List Int) → Nat
  | [] => 0
  | q :: qs => if lF q.1 q.2 ≠ 0 then lF q.1 q.2 else qsF qs
def sdB (s : Int) (qs : List (Int × List Int)) : Bool := qs.all fun q => q.1 == s
def csF (qs : List (Int × List Int)) : Nat := if qs.length = 0 ∨ 6 < qs.length then 3 else if qsF qs ≠ 0 then qsF qs else if sdB (qs.headD (0, [])).1 qs then 0 else 2
theorem qsF_at : ∀ {qs : List (Int × List Int)} {i : Nat} {q : Int × List Int}, qs[i]? = some q → (∀ m p, m < i → qs[m]? = some p → lF p.1 p.2 = 0) → lF q.1 q.2 ≠ 0 → qsF qs = lF q.1 q.2
  | [], i, b, h, _, _ => by simp at h
  | c :: ls, 0, b, h, _, hn => by
    obtain rfl : c = b := by simpa using h
    unfold qsF
    rw [if_pos hn]
  | c :: ls, i + 1, b, h, hm, hn => by
    have h0 := hm 0 c (by omega) rfl
    unfold qsF
    rw [if_neg (by omega)]
    exact qsF_at (i := i) (by simpa using h) (fun m d hd e => hm (m + 1) d (by omega) (by simpa using e)) hn
theorem qsF_none : ∀ {qs : List (Int × List Int)}, (∀ (m : Nat) p, qs[m]? = some p → lF p.1 p.2 = 0) → qsF qs = 0
  | [], _ => rfl
  | c :: ls, h => by
    have h0 := h 0 c rfl
    unfold qsF
    rw [if_neg (by omega)]
    exact qsF_none fun m d e => h (m + 1) d (by simpa using e)
/-- Squares that pass. -/
structure GoodQ (n : Nat) (qs : List (Int × List Int)) : Prop where
  l1 : 1 ≤ qs.length
  l6 : qs.length ≤ 6
  sq : ∀ q ∈ qs, q.1 = (n : Int) ∧ GoodSq n q.2
theorem GoodQ.csF {n : Nat} {qs : List (Int × List Int)} (h : GoodQ n qs) : csF qs = 0 := by
  have h1 := h.l1
  have h6 := h.l6
  unfold Go.Proofs.YtjfjdidibglhaabDoor.Ar.csF
  rw [if_neg (by omega), if_neg, if_pos]
  · unfold sdB
    rw [List.all_eq_true]
    intro q hq
    cases qs with
    | nil => simp at h1
    | cons p qs => simp [(h.sq q hq).1, (h.sq p List.mem_cons_self).1]
  · rw [qsF_none fun m p hp => by
      obtain ⟨e, hg⟩ := h.sq p (List.mem_of_getElem? hp)
      rw [e]
      exact lF_good hg]
    simp
theorem sq_box2 (s : Int) (u : Value) (w : World) : (w.alloc (.cells #[.int .i64 s, u] 39)).cell? ⟨w.heap.size, 0, none⟩ = some (.int .i64 s) ∧ (w.alloc (.cells #[.int .i64 s, u] 39)).cell? ⟨w.heap.size, 1, none⟩ = some u :=
  ⟨by rw [cell_of_row _ _ _ _ _ _ (heap_alloc_new w _)]; rfl, by rw [cell_of_row _ _ _ _ _ _ (heap_alloc_new w _)]; rfl⟩
set_option maxRecDepth 100000 in
set_option maxHeartbeats 8000000 in
theorem checkSquares_any (qs : List (Int × List Int)) (v : Value) (w : World) (hv : SqL w v qs) (hl : qs.length ≤ maxLen) (hll : ∀ q ∈ qs, q.2.length ≤ maxLen) :
    Calls Tryd.prog 35 #[v] w fun e w' => e = .returned (.int .i64 (csF qs : Int)) ∧ Below w.heap.size w w' := by
  obtain ⟨z, Hz⟩ : ∃ z, Hid (csF qs = z) := ⟨_, rfl⟩
  rw [Hz.out]
  obtain ⟨n, Hn⟩ : ∃ n, Hid (qs.length = n) := ⟨_, rfl⟩
  have HV : Hid (∀ W, Below w.heap.size w W → SqL W v qs) := fun W b => hv.below b
  obtain ⟨a, cap, rfl, -⟩ := hv
  rw [Hn.out] at hl HV ⊢
  unfold maxLen at hl
  by_cases h0 : n = 0
  · obtain rfl : z = 3 := by rw [← Hz.out]; unfold csF; rw [Hn.out, if_pos (.inl h0)]
    subst h0
    go_enter Tryd.func35, Tryd.ntmps35
    go_wp2
    go_ret
    exact ⟨rfl, Below.refl _ _⟩
  · have e0 : ((n : Int) == 0) = false := by rw [beq_eq_false_iff_ne]; omega
    have e0n : (n == 0) = false := by rw [beq_eq_false_iff_ne]; omega
    by_cases h6 : 6 < n
    · obtain rfl : z = 3 := by rw [← Hz.out]; unfold csF; rw [Hn.out, if_pos (.inr h6)]
      have e1 : decide ((6 : Int) < (n : Int)) = true := by simp; omega
      have e1n : decide (6 < n) = true := by simp; omega
      go_enter Tryd.func35, Tryd.ntmps35
      go_wp2
      go_ret
      exact ⟨rfl, Below.refl _ _⟩
    · have e1 : decide ((6 : Int) < (n : Int)) = false := by simp; omega
      have e1n : decide (6 < n) = false := by simp; omega
      have hzz : z = if qsF qs ≠ 0 then qsF qs else if sdB (qs.headD (0, [])).1 qs then 0 else 2 := by
        rw [← Hz.out]; unfold csF; rw [Hn.out, if_neg (by omega)]
      have HZ1 : Hid (∀ (i : Nat) (q : Int × List Int), qs[i]? = some q → (∀ (m : Nat) (p : Int × List Int), m < i → qs[m]? = some p → lF p.1 p.2 = 0) → lF q.1 q.2 ≠ 0 → z = lF q.1 q.2) := fun i q h1 h2 h3 => by
        rw [hzz, qsF_at h1 h2 h3, if_pos h3]
      obtain ⟨q0, hq0⟩ : ∃ q0, qs[0]? = some q0 := ⟨_, List.getElem?_eq_getElem (by rw [Hn.out]; omega)⟩
      have hhd : qs.headD (0, []) = q0 := by cases qs with
        | nil => simp at hq0
        | cons x xs => simpa using hq0
      have HZ2 : Hid ((∀ (m : Nat) (p : Int × List Int), qs[m]? = some p → lF p.1 p.2 = 0) → ∀ (i : Nat) (q : Int × List Int), qs[i]? = some q → q.1 ≠ q0.1 → z = 2) := fun h i q hi hne => by
        rw [hzz, qsF_none h, if_neg (by simp), hhd, if_neg]
        intro hs
        unfold sdB at hs
        have := List.all_eq_true.1 hs q (List.mem_of_getElem? hi)
        exact hne (by simpa using this)
      have HZ0 : Hid ((∀ (m : Nat) (p : Int × List Int), qs[m]? = some p → lF p.1 p.2 = 0) → (∀ (m : Nat) (p : Int × List Int), qs[m]? = some p → p.1 = q0.1) → z = 0) := fun h h2 => by
        rw [hzz, qsF_none h, if_neg (by simp), hhd, if_pos]
        unfold sdB
        rw [List.all_eq_true]
        intro p hp
        obtain ⟨i, hi⟩ := List.getElem?_of_mem hp
        simpa using h2 i p hi
      have HQ0 : Hid (qs[0]? = some q0) := hq0
      have HAT : Hid (∀ i, i < n → ∃ b, qs[i]? = some b) := fun i hi => ⟨_, List.getElem?_eq_getElem (by rw [Hn.out]; exact hi)⟩
      have HLE : Hid (∀ (i : Nat) (q : Int × List Int), qs[i]? = some q → i < n) := fun i b h => by rw [← Hn.out]; exact (List.getElem?_eq_some_iff.1 h).1
      have HCK : Hid (∀ (W : World) (u : Value) (i : Nat) (q : Int × List Int), qs[i]? = some q → Sl W u q.2 → Calls Tryd.prog 73 #[.agg #[.int .i64 q.1, u]] W fun e w' => e = .returned (.int .i64 (lF q.1 q.2 : Int)) ∧ Below W.heap.size W w') := fun W u i q hi hu => LCheck_any q.1 q.2 u W hu (hll q (List.mem_of_getElem? hi))
      clear hll hzz hhd hq0 Hz
      go_enter Tryd.func35, Tryd.ntmps35
      go_wp2
      go_loopw [4, 5, 18] (fun _ _ iv wr => ∃ i : Nat, iv = .int .i64 (i : Int) ∧ i ≤ n ∧ Hid (∀ (m : Nat) (p : Int × List Int), m < i → qs[m]? = some p → lF p.1 p.2 = 0) ∧ Below w.heap.size w wr) (fun _ _ iv _ => (n - intOf iv).toNat)
      case atStart => exact ⟨0, rfl, by omega, (show ∀ (m : Nat) (p : Int × List Int), m < 0 → _ from fun m c h => by omega), Below.refl _ _⟩
      case round =>
        obtain ⟨i, rfl, hi, HI, hB⟩ := hrel
        by_cases hlt : i < n
        · have hdi : decide ((i : Int) < (n : Int)) = true := by simp; omega
          have hii : (i : Int) < (n : Int) := by omega
          obtain ⟨⟨s, L⟩, hqi⟩ := HAT.out i hlt
          have HQI : Hid (qs[i]? = some (s, L)) := hqi
          obtain ⟨b, off, u, rfl, c1, c2, hSu⟩ := (HV.out wr hB).at hqi rfl
          dsimp only at c1 c2 hSu
          have bx := balloc wr (.cells #[.int .i64 s, u] 39)
          have C := HCK.out (wr.alloc (.cells #[.int .i64 s, u] 39)) u i (s, L) hqi (hSu.below bx)
          dsimp only at C
          obtain ⟨x0, x1⟩ := sq_box2 s u wr
          obtain ⟨ua, uc, rfl, -⟩ := id hSu
          obtain ⟨ul, Hul⟩ : ∃ ul, Hid (L.length = ul) := ⟨_, rfl⟩
          rw [Hul.out] at C x0 x1 c2 bx
          obtain ⟨f, Hf⟩ : ∃ f, Hid (lF s L = f) := ⟨_, rfl⟩
          rw [Hf.out] at C
          clear hSu hqi
          by_cases hf : f = 0
          · subst hf
            have HI2 : Hid (∀ (m : Nat) (p : Int × List Int), m < i + 1 → qs[m]? = some p → lF p.1 p.2 = 0) := fun m p hm hp => by
              by_cases e : m = i
              · subst e
                have := HQI.out.symm.trans hp
                cases this
                exact Hf.out
              · exact HI.out m p (by omega) hp
            clear HI
            go_wp2_with (go_at_call 73; refine C.mono ?_; rintro e1 w1 ⟨rfl, b1⟩; clear C)
            go_roundw
            case rel => exact ⟨i + 1, by go_num, by omega, HI2, Below.next hB (Below.next bx b1)⟩
            case measure => simp [intOf]; omega
          · have hd : ((f : Int) != 0) = true := by simp; omega
            obtain rfl : z = f := by rw [HZ1.out i (s, L) HQI.out HI.out (by dsimp only; rw [Hf.out]; exact hf)]; exact Hf.out
            go_wp2_with (go_at_call 73; refine C.mono ?_; rintro e1 w1 ⟨rfl, b1⟩; clear C)
            go_ret
            exact ⟨rfl, Below.next hB (Below.next bx b1)⟩
        · have hdi : decide ((i : Int) < (n : Int)) = false := by simp; omega
          obtain rfl : i = n := by omega
          have HALL : Hid (∀ (m : Nat) (p : Int × List Int), qs[m]? = some p → lF p.1 p.2 = 0) := fun m p hp => HI.out m p (HLE.out m p hp) hp
          clear HI hlt
          go_wp2
          go_loopw [7, 30] (fun _ jv wr' => ∃ j : Nat, jv = .int .i64 (j : Int) ∧ j ≤ i ∧ Hid (∀ (m : Nat) (p : Int × List Int), m < j → qs[m]? = some p → p.1 = q0.1) ∧ Below w.heap.size w wr') (fun _ jv _ => (i - intOf jv).toNat)
          case atStart => exact ⟨0, rfl, by omega, (show ∀ (m : Nat) (p : Int × List Int), m < 0 → _ from fun m c h => by omega), hB⟩
          case round =>
            clear hB
            obtain ⟨j, rfl, hj, HJ, hB⟩ := hrel
            by_cases hlj : j < i
            · have hdj : decide ((j : Int) < (i : Int)) = true := by simp; omega
              have hji : (j : Int) < (i : Int) := by omega
              have h0i : (0 : Int) < (i : Int) := by omega
              obtain ⟨⟨s, L⟩, hqj⟩ := HAT.out j hlj
              have HQJ : Hid (qs[j]? = some (s, L)) := hqj
              obtain ⟨b, off, u, rfl, c1, c2, hSu⟩ := (HV.out wr hB).at hqj rfl
              obtain ⟨b', off', u', eb, c3, _, _⟩ := (HV.out wr hB).at HQ0.out rfl
              simp only [Option.some.injEq, Addr.mk.injEq, and_true] at eb
              obtain ⟨rfl, rfl⟩ := eb
              dsimp only at c1 c2 hSu
              have bx := balloc wr (.cells #[.int .i64 s, u] 39)
              obtain ⟨x0, x1⟩ := sq_box2 s u wr
              obtain ⟨ua, uc, rfl, -⟩ := id hSu
              obtain ⟨ul, Hul⟩ : ∃ ul, Hid (L.length = ul) := ⟨_, rfl⟩
              rw [Hul.out] at x0 x1 c2 bx
              obtain ⟨s0, Hs0⟩ : ∃ s0, Hid (q0.1 = s0) := ⟨_, rfl⟩
              rw [Nat.zero_mul, Nat.add_zero, Hs0.out] at c3
              have hbl := block_lt_of_cell c3
              have c4 := (bx.cell (p := ⟨b, off, none⟩) hbl).trans c3
              clear hSu hqj c3
              by_cases hs : s = s0
              · have hd : (s != s0) = false := by rw [hs]; simp
                have HJ2 : Hid (∀ (m : Nat) (p : Int × List Int), m < j + 1 → qs[m]? = some p → p.1 = q0.1) := fun m p hm hp => by
                  by_cases e : m = j
                  · subst e
                    have := HQJ.out.symm.trans hp
                    cases this
                    exact hs.trans Hs0.out.symm
                  · exact HJ.out m p (by omega) hp
                clear HJ hs
                go_wp2
                go_quiet (fail)
                go_wp2
                go_roundw
                case rel => exact ⟨j + 1, by go_num, by omega, HJ2, Below.next hB (bdrewN bx _)⟩
                case measure => simp [intOf]; omega
              · have hd : (s != s0) = true := by simpa using hs
                obtain rfl : z = 2 := HZ2.out HALL.out j (s, L) HQJ.out (by dsimp only; rw [Hs0.out]; exact hs)
                clear HJ hs
                go_wp2
                go_quiet (fail)
                go_wp2
                go_ret
                exact ⟨rfl, Below.next hB (bdrewN bx _)⟩
            · have hdj : decide ((j : Int) < (i : Int)) = false := by simp; omega
              obtain rfl : j = i := by omega
              obtain rfl : z = 0 := HZ0.out HALL.out fun m p hp => HJ.out m p (HLE.out m p hp) hp
              go_wp2
              go_ret
              exact ⟨rfl, hB⟩
end Go.Proofs.YtjfjdidibglhaabDoor.Ar

namespace Go.Proofs.YtjfjdidibglhaabDoor.Ar
open Go.RowKit

/-- The run of a cell. -/
def roQ (n : Nat) (qs : List (Int × List Int)) (j : Nat) : List Int := [((j / n : Nat) : Int), ((j % n : Nat) : Int)] ++ qs.map fun q => q.2.getD j 0
def rwQ (n : Nat) (qs : List (Int × List Int)) : List (List Int) := (List.range (n * n)).map (roQ n qs)
theorem roQ_len (n : Nat) (qs : List (Int × List Int)) (j : Nat) : (roQ n qs j).length = qs.length + 2 := by simp [roQ]
theorem roQ_more {n i j : Nat} {qs : List (Int × List Int)} {q : Int × List Int} (h : qs[i]? = some q) : (roQ n (qs.take (i + 1)) j).map (Value.int .i64) = (roQ n (qs.take i) j).map (Value.int .i64) ++ [.int .i64 (q.2.getD j 0)] := by
  unfold roQ
  rw [List.take_add_one, h]
  simp
theorem run_makeR (n : Nat) (hn : n ≤ 999) (w : World) : (Instr.makeSlice 25 (.int .i64 (n : Int)) (.int .i64 (n : Int))).run Tryd.prog w = .ok (.slice (some ⟨w.heap.size, 0, none⟩) n n) (w.alloc (.cells (madeCells #[.slice none 0 0] n) 22)) := by
  obtain ⟨i22, hi, hz0, hz1, hz2⟩ := info40
  have h := run_make (P := Tryd.prog) w 25 22 i22 (.slice none 0 0) undR hi hz0 .i64 .i64 n n (by omega) (by omega) (by rw [hz2]; omega) (by omega)
  simpa [hz1, Value.cells] using h
/-- All blocks but one stay. -/
structure Kg (g B : Nat) (w w' : World) : Prop where
  size : w.heap.size ≤ w'.heap.size
  block : ∀ k, k < B → k ≠ g → w'.heap[k]? = w.heap[k]?
theorem Kg.trans {g B : Nat} {a b c : World} (h : Kg g B a b) (k : Kg g B b c) : Kg g B a c := ⟨Nat.le_trans h.size k.size, fun j hj hne => (k.block j hj hne).trans (h.block j hj hne)⟩
theorem Kg.refl (g B : Nat) (w : World) : Kg g B w w := ⟨Nat.le_refl _, fun _ _ _ => rfl⟩
theorem Kg.alloc {g B : Nat} {a b : World} (h : Kg g B a b) (hB : B ≤ b.heap.size) (o : Obj) : Kg g B a (b.alloc o) := ⟨by have := h.size; simp; omega, fun k hk hne => (Below.heap_alloc _ _ _ (by omega)).trans (h.block k hk hne)⟩
theorem Kg.drew {g B : Nat} {a b : World} (h : Kg g B a b) : Kg g B a b.drew := ⟨h.size, h.block⟩
theorem Kg.set {g B : Nat} {a b : World} (h : Kg g B a b) (i : Nat) (v : Value) : Kg g B a (b.setCell ⟨g, i, none⟩ v) := ⟨by simpa using h.size, fun k hk hne => (heap_setCell_other b ⟨g, i, none⟩ k v hne).trans (h.block k hk hne)⟩
theorem Kg.grown {g B : Nat} {a b c : World} {ob : Option Nat} (h : Kg g B a b) (hG : b.grownBy c ob) (hB : B ≤ b.heap.size) (hob : ∀ k, ob = some k → B ≤ k) : Kg g B a c := ⟨Nat.le_trans h.size hG.size, fun k hk hne => (hG.block k (by omega) (fun e => by have := hob k e.symm; omega)).trans (h.block k hk hne)⟩
theorem set_same {w : World} {g c : Nat} {cur : Array Value} {t : TypeId} (h : w.heap[g]? = some (.cells cur t (0, 0))) (u : Value) : (w.setCell ⟨g, c, none⟩ u).heap[g]? = some (.cells (cur.setIfInBounds c u) t (0, 0)) := heap_setCell_same w g c _ _ _ h
theorem own_set {w : World} {base n g c : Nat} {e : TypeId} {v u : Value} {xs : List Value} (h : w.ownsRow base e 1 v n xs) (hg : g < base) : (w.setCell ⟨g, c, none⟩ u).ownsRow base e 1 v n xs := own_keep h fun b hb _ => heap_setCell_other w ⟨g, c, none⟩ b u (by show b ≠ g; omega)
theorem own_sliceI' {w : World} {base n : Nat} {v : Value} {xs : List Value} (h : w.ownsRow base 3 1 v n xs) : ∃ a c, v = .slice a n c := by
  obtain ⟨_, ⟨rfl, rfl⟩ | ⟨g, cap, cur, rfl, _⟩⟩ := h
  · exact ⟨_, _, rfl⟩
  · exact ⟨_, _, rfl⟩
theorem own_two (w : World) (x y : Int) : (w.alloc (.cells #[.int .i64 x, .int .i64 y] 3)).ownsRow w.heap.size 3 1 (.slice (some ⟨w.heap.size, 0, none⟩) 2 2) 2 [.int .i64 x, .int .i64 y] :=
  ⟨rfl, .inr ⟨w.heap.size, 2, #[.int .i64 x, .int .i64 y], rfl, Nat.le_refl _, heap_alloc_new w _, by omega, by unfold maxLen; omega, rfl, rfl⟩⟩
/-- Rows of one's own, and no error. -/
def OzQ (w : World) (ls : List (List Int)) (e : Ending) (w' : World) : Prop := ∃ y, e = .returned (.tuple #[y, .int .i64 0]) ∧ OZ w' w.heap.size y ls
set_option maxRecDepth 100000 in
set_option maxHeartbeats 16000000 in
theorem Squares_ok (n : Nat) (qs : List (Int × List Int)) (v : Value) (w : World) (hv : SqL w v qs) (hG : GoodQ n qs) (h1 : 1 ≤ n) (h8 : n ≤ 8) :
    Calls Tryd.prog 15 #[v] w fun e w' => OzQ w (rwQ n qs) e w' ∧ Below w.heap.size w w' := by
  obtain ⟨i3, ti, tz0, tz1, tz2⟩ := info3
  have HI3 : Hid (Tryd.prog.info? 3 = some i3 ∧ i3.zero = some (.int .i64 0) ∧ i3.size = 1 ∧ i3.bytes = 8) := ⟨ti, tz0, tz1, tz2⟩
  clear ti tz0 tz1 tz2
  obtain ⟨z, Hz⟩ : ∃ z, Hid (n * n = z) := ⟨_, rfl⟩
  have hz64 : z ≤ 99 := by rw [← Hz.out]; exact Nat.le_trans (Nat.mul_le_mul h8 h8) (by decide)
  have hz1 : 1 ≤ z := by rw [← Hz.out]; exact Nat.mul_pos h1 h1
  have HLL : Hid (∀ (i : Nat) (q : Int × List Int), qs[i]? = some q → q.1 = (n : Int) ∧ q.2.length = z) := fun i q h => by
    obtain ⟨e, hg⟩ := hG.sq q (List.mem_of_getElem? h)
    exact ⟨e, by rw [← Hz.out]; exact hg.len⟩
  have hq6 := hG.l6
  have hq1 := hG.l1
  have C := checkSquares_any qs v w hv (by unfold maxLen; omega) (fun q hq => by obtain ⟨i, hi⟩ := List.getElem?_of_mem hq; rw [(HLL.out i q hi).2]; unfold maxLen; omega)
  rw [hG.csF] at C
  obtain ⟨q, Hq⟩ : ∃ q, Hid (qs.length = q) := ⟨_, rfl⟩
  have HV : Hid (∀ W, Below w.heap.size w W → SqL W v qs) := fun W b => hv.below b
  obtain ⟨q0, hq0⟩ : ∃ q0, qs[0]? = some q0 := ⟨_, List.getElem?_eq_getElem (by omega)⟩
  have HQ0 : Hid (qs[0]? = some q0) := hq0
  obtain ⟨a, cap, rfl, -⟩ := hv
  rw [Hq.out] at C HV hq6 hq1 ⊢
  obtain ⟨b, off, u0, rfl, c0, -, -⟩ := (HV.out w (Below.refl _ _)).at hq0 rfl
  rw [(HLL.out 0 q0 hq0).1, Nat.zero_mul, Nat.add_zero] at c0
  have hbl0 := block_lt_of_cell c0
  have HC0 : Hid (∀ W, Below w.heap.size w W → W.cell? ⟨b, off, none⟩ = some (.int .i64 (n : Int))) := fun W bW => (bW.cell (p := ⟨b, off, none⟩) hbl0).trans c0
  have hmul : (n : Int) * (n : Int) = (z : Int) := by rw [← Hz.out]; simp
  have hni : (n : Int) ≠ 0 := by omega
  have hqi : (0 : Int) < (q : Int) := by omega
  have hmk := run_makeR z (by omega)
  have HAT : Hid (∀ i, i < q → ∃ b, qs[i]? = some b) := fun i hi => ⟨_, List.getElem?_eq_getElem (by rw [Hq.out]; exact hi)⟩
  have HROW : Hid (rwQ n qs = (List.range z).map (roQ n qs)) := by show _ = _; unfold rwQ; rw [Hz.out]
  have HRL : Hid (∀ j, (roQ n qs j).length = q + 2) := fun j => by rw [roQ_len, Hq.out]
  have HMORE : Hid (∀ (i j : Nat) (p : Int × List Int), qs[i]? = some p → (roQ n (qs.take (i + 1)) j).map (Value.int .i64) = (roQ n (qs.take i) j).map (Value.int .i64) ++ [.int .i64 (p.2.getD j 0)]) := fun i j p h => roQ_more h
  have HEND : Hid (∀ j, roQ n (qs.take q) j = roQ n qs j) := fun j => by rw [List.take_of_length_le (by rw [Hq.out]; exact Nat.le_refl _)]
  have H00 : Hid (∀ j, (roQ n (qs.take 0) j).map (Value.int .i64) = [.int .i64 ((j / n : Nat) : Int), .int .i64 ((j % n : Nat) : Int)]) := fun j => by simp [roQ]
  clear hG hq0 c0
  go_enter Tryd.func15, Tryd.ntmps15
  go_wp2_with (go_at_call 35; refine C.mono ?_; rintro e1 w1 ⟨rfl, b1⟩; clear C; have c0 := HC0.out _ b1)
  obtain ⟨g, Hg⟩ : ∃ g, Hid (w1.heap.size = g) := ⟨_, rfl⟩
  have hgw : w.heap.size ≤ g := by rw [← Hg.out]; exact b1.size
  have hm0 : (w1.alloc (.cells (madeCells #[.slice none 0 0] z) 22)).heap[g]? = some (.cells (madeCells #[.slice none 0 0] z) 22 (0, 0)) := by rw [← Hg.out]; exact heap_alloc_new w1 _
  have hb0 : Below w.heap.size w (w1.alloc (.cells (madeCells #[.slice none 0 0] z) 22)) := Below.next b1 (balloc _ _)
  have hsz0 : (madeCells #[Value.slice none 0 0] z).size = z := by rw [size_madeCells]
  rw [Hg.out]
  go_loopw [7, 9, 25, 40] (fun _ _ iv _ wr => ∃ (c : Nat) (cur : Array Value), iv = .int .i64 (c : Int) ∧ c ≤ z ∧ wr.heap[g]? = some (.cells cur 22 (0, 0)) ∧ cur.size = z ∧ Hid (∀ j, j < c → ∃ u, cur[j]? = some u ∧ wr.ownsRow (g + 1) 3 1 u (q + 2) ((roQ n qs j).map (Value.int .i64))) ∧ Below w.heap.size w wr) (fun _ _ iv _ _ => (z - intOf iv).toNat)
  case atStart => exact ⟨0, _, rfl, by omega, hm0, hsz0, (show ∀ j, j < 0 → _ from fun j h => by omega), hb0⟩
  case round =>
    clear hm0 hb0 hsz0 c0 b1
    obtain ⟨c, cur, rfl, hc, hgb, hcs, HR, hB⟩ := hrel
    have hgl : g < wr.heap.size := (Array.getElem?_eq_some_iff.1 hgb).1
    by_cases hlt : c < z
    · have hdc : decide ((c : Int) < (z : Int)) = true := by simp; omega
      have hci : (c : Int) < (z : Int) := by omega
      obtain ⟨x, Hx⟩ : ∃ x, Hid (c / n = x) := ⟨_, rfl⟩
      obtain ⟨y, Hy⟩ : ∃ y, Hid (c % n = y) := ⟨_, rfl⟩
      have hx1 : (c : Int).tdiv (n : Int) = (x : Int) := by rw [← Hx.out]; rfl
      have hy1 : (c : Int).tmod (n : Int) = (y : Int) := by rw [← Hy.out]; rfl
      have hxl : x ≤ c := by rw [← Hx.out]; exact Nat.div_le_self _ _
      have hyl : y ≤ c := by rw [← Hy.out]; exact Nat.mod_le _ _
      obtain ⟨w2, Hw2⟩ : ∃ w2 : World, Hid (w2 = wr) := ⟨_, rfl⟩
      have HB2 : Hid (Below w.heap.size w w2) := by rw [Hw2.out]; exact hB
      have hs2 : w.heap.size ≤ wr.heap.size := hB.size
      -- the block of runs, in a world that keeps it
      have HCELL : Hid (∀ (W : World) (cu : Array Value), W.heap[g]? = some (.cells cu 22 (0, 0)) → cu.size = z → (∃ u, W.cell? ⟨g, c, none⟩ = some u) ∧ W.frozen? ⟨g, c, none⟩ = false) := fun W cu h hz => ⟨⟨cu[c]'(by omega), by rw [cell_of_row W g c _ _ _ h]; simp [hz, hlt]⟩, frozen_of_row W g c _ _ h⟩
      obtain ⟨⟨oldc, hold⟩, hfz⟩ := HCELL.out wr cur hgb hcs
      have hgS := set_same (c := c) hgb (.slice (some ⟨wr.heap.size, 0, none⟩) 2 2)
      have hsS : (wr.setCell ⟨g, c, none⟩ (.slice (some ⟨wr.heap.size, 0, none⟩) 2 2)).heap.size = wr.heap.size := by simp
      have hoS := own_two (wr.setCell ⟨g, c, none⟩ (.slice (some ⟨wr.heap.size, 0, none⟩) 2 2)) x y
      rw [hsS] at hoS
      have hBB : Below w.heap.size w ((wr.setCell ⟨g, c, none⟩ (.slice (some ⟨wr.heap.size, 0, none⟩) 2 2)).alloc (.cells #[.int .i64 (x : Int), .int .i64 (y : Int)] 3)).drew := ((hB.setCell (p := ⟨g, c, none⟩) hgw _).alloc (by rw [hsS]; exact hs2) _).drew
      have hKB : Kg g w2.heap.size w2 ((wr.setCell ⟨g, c, none⟩ (.slice (some ⟨wr.heap.size, 0, none⟩) 2 2)).alloc (.cells #[.int .i64 (x : Int), .int .i64 (y : Int)] 3)).drew := by
        rw [Hw2.out]
        exact (((Kg.refl g _ wr).set c _).alloc (by rw [hsS]; exact Nat.le_refl _) _).drew
      have e00 := H00.out c
      rw [Hx.out, Hy.out] at e00
      have HST : Hid (∃ (cu : Array Value) (xv : Value), ((wr.setCell ⟨g, c, none⟩ (.slice (some ⟨wr.heap.size, 0, none⟩) 2 2)).alloc (.cells #[.int .i64 (x : Int), .int .i64 (y : Int)] 3)).drew.heap[g]? = some (.cells cu 22 (0, 0)) ∧ cu.size = z ∧ cu[c]? = some xv ∧ (∀ j, j ≠ c → cu[j]? = cur[j]?) ∧ ((wr.setCell ⟨g, c, none⟩ (.slice (some ⟨wr.heap.size, 0, none⟩) 2 2)).alloc (.cells #[.int .i64 (x : Int), .int .i64 (y : Int)] 3)).drew.ownsRow w2.heap.size 3 1 xv (0 + 2) ((roQ n (qs.take 0) c).map (Value.int .i64))) := by
        refine ⟨_, _, (Below.heap_alloc _ _ _ (by rw [hsS]; exact hgl)).trans hgS, by simp [hcs], ?_, fun j hj => ?_, by rw [Hw2.out, e00]; exact hoS⟩
        · rw [Array.getElem?_setIfInBounds, if_pos rfl, if_pos (by omega)]
        · rw [Array.getElem?_setIfInBounds, if_neg (Ne.symm hj)]
      have hn0 : ¬ n = 0 := by omega
      clear hgS hoS e00 hsS
      go_wp2_with fail
      refine wp_region_noPanic ?_
      refine wp_region_held_drew (S := fun _ => True) (by kernel_rfl) trivial (fun hSx => ?_)
      refine wpAnyH_take (i := 0) (v := .slice (some ⟨g, 0, none⟩) z z) rfl (by kernel_rfl) (by kernel_rfl) (by kernel_rfl) (fun _ _ _ h => h) (Or.inl ⟨by rfl, fun w' hSw => by go_simp⟩) hSx ?_
      try simp only [Act.put, List.setIfInBounds_toArray]
      refine wpAnyH_take (i := 1) (v := .int .i64 (c : Int)) rfl (by kernel_rfl) (by kernel_rfl) (by kernel_rfl) (fun _ _ _ h => h) (Or.inl ⟨by rfl, fun w' hSw => by go_simp⟩) hSx ?_
      try simp only [Act.put]
      refine wpAnyH_take (i := 2) (v := .int .i64 (c : Int)) rfl (by kernel_rfl) (by kernel_rfl) (by kernel_rfl) (fun _ _ _ h => h) (Or.inl ⟨by rfl, fun w' hSw => by go_simp⟩) hSx ?_
      try simp only [Act.put]
      refine wpAnyH_take (i := 3) (v := .int .i64 (n : Int)) rfl (by kernel_rfl) (by kernel_rfl) (by kernel_rfl) (fun _ _ _ h => h) (Or.inl ⟨by rfl, fun w' hSw => by go_simp⟩) hSx ?_
      try simp only [Act.put]
      refine wpAnyH_take (i := 4) (v := .int .i64 (x : Int)) rfl (by kernel_rfl) (by kernel_rfl) (by kernel_rfl) (fun _ _ _ h => h) (Or.inl ⟨by rfl, fun w' hSw => by go_simp; rw [IntKind.wrap_i64]; omega⟩) hSx ?_
      try simp only [Act.put]
      refine wpAnyH_take (i := 5) (v := .int .i64 (c : Int)) rfl (by kernel_rfl) (by kernel_rfl) (by kernel_rfl) (fun _ _ _ h => h) (Or.inl ⟨by rfl, fun w' hSw => by go_simp⟩) hSx ?_
      try simp only [Act.put]
      refine wpAnyH_take (i := 6) (v := .int .i64 (n : Int)) rfl (by kernel_rfl) (by kernel_rfl) (by kernel_rfl) (fun _ _ _ h => h) (Or.inl ⟨by rfl, fun w' hSw => by go_simp⟩) hSx ?_
      try simp only [Act.put]
      refine wpAnyH_take (i := 7) (v := .int .i64 (y : Int)) rfl (by kernel_rfl) (by kernel_rfl) (by kernel_rfl) (fun _ _ _ h => h) (Or.inl ⟨by rfl, fun w' hSw => by go_simp⟩) hSx ?_
      try simp only [Act.put]
      refine wpAnyH_ready (rs := [8]) (by kernel_rfl) (by simp) ?_
      refine (AllReadyH.cons rfl (fun J hJ => ?_) AllReadyH.nil)
      go_simp
      refine hJ.out _ _ (trivial) (fun hSx => ?_)
      clear hJ J
      try simp only [Act.put, List.setIfInBounds_toArray, List.set_cons_zero, List.set_cons_succ]
      refine wpAnyH_take (i := 9) (v := .pointer (some ⟨g, c, none⟩)) rfl (by kernel_rfl) (by kernel_rfl) (by kernel_rfl) (fun _ _ _ h => h) (Or.inl ⟨by rfl, fun w' hSw => by go_simp⟩) hSx ?_
      try simp only [Act.put, List.setIfInBounds_toArray]
      refine wpAnyH_ready (rs := [10]) (by kernel_rfl) (by simp) ?_
      refine (AllReadyH.cons rfl (fun J hJ => ?_) AllReadyH.nil)
      go_simp
      refine hJ.out _ _ (trivial) (fun hSx => ?_)
      clear hJ J
      try simp only [Act.put, List.setIfInBounds_toArray, List.set_cons_zero, List.set_cons_succ]
      refine wpAnyH_done (by kernel_rfl) ?_ _
      refine NoPanic.normal ?_
      clear hSx hold hfz
      revert HST hKB hBB
      generalize ((wr.setCell ⟨g, c, none⟩ (.slice (some ⟨wr.heap.size, 0, none⟩) 2 2)).alloc (.cells #[.int .i64 (x : Int), .int .i64 (y : Int)] 3)).drew = w3
      intro hBB hKB HST
      go_wp2
      go_loopw [9, 40] (fun _ iv wr' => ∃ (i : Nat) (cu : Array Value) (xv : Value), iv = .int .i64 (i : Int) ∧ i ≤ q ∧ wr'.heap[g]? = some (.cells cu 22 (0, 0)) ∧ cu.size = z ∧ cu[c]? = some xv ∧ Hid (∀ j, j ≠ c → cu[j]? = cur[j]?) ∧ wr'.ownsRow w2.heap.size 3 1 xv (i + 2) ((roQ n (qs.take i) c).map (Value.int .i64)) ∧ Kg g w2.heap.size w2 wr' ∧ Below w.heap.size w wr') (fun _ iv _ => (q - intOf iv).toNat)
      case atStart =>
        obtain ⟨cu, xv, k1, k2, k3, k4, k5⟩ := HST.out
        exact ⟨0, cu, xv, rfl, by omega, k1, k2, k3, k4, k5, hKB, hBB⟩
      case round =>
        have hgw2 : g < w2.heap.size := by rw [Hw2.out]; exact hgl
        have hww2 : w.heap.size ≤ w2.heap.size := by rw [Hw2.out]; exact hs2
        clear HST hKB hBB hB
        obtain ⟨i, cu, xv, rfl, hi, k1, k2, k3, K4, k5, k6, hB⟩ := hrel
        have hsz := k6.size
        by_cases hli : i < q
        · have hdi : decide ((i : Int) < (q : Int)) = true := by simp; omega
          have hii : (i : Int) < (q : Int) := by omega
          obtain ⟨⟨s, M⟩, hqi2⟩ := HAT.out i hli
          obtain ⟨es, el⟩ := HLL.out i (s, M) hqi2
          dsimp only at es el
          subst es
          have HMO : Hid ((roQ n (qs.take (i + 1)) c).map (Value.int .i64) = (roQ n (qs.take i) c).map (Value.int .i64) ++ [.int .i64 (M.getD c 0)]) := HMORE.out i c _ hqi2
          obtain ⟨b', off', u, eb, c1w, c2w, hSu⟩ := (HV.out w (Below.refl _ _)).at hqi2 rfl
          simp only [Option.some.injEq, Addr.mk.injEq, and_true] at eb
          obtain ⟨rfl, rfl⟩ := eb
          dsimp only at c1w c2w hSu
          obtain ⟨mb, mo, mc, rfl, hmb, hm0⟩ := hSu.form el (show 0 < z by omega)
          have hmcw := hm0 c hlt
          obtain ⟨yv, Hyv⟩ : ∃ yv, Hid (M.getD c 0 = yv) := ⟨_, rfl⟩
          rw [Hyv.out] at hmcw HMO
          have c1 := (hB.cell (p := ⟨b, off + i * 2, none⟩) (World.block_lt_of_cell? _ _ c1w)).trans c1w
          have c2 := (hB.cell (p := ⟨b, off + i * 2 + 1, none⟩) (World.block_lt_of_cell? _ _ c2w)).trans c2w
          obtain ⟨fl, Hfl⟩ : ∃ fl, Hid ((roQ n (qs.take i) c).map (Value.int .i64) = fl) := ⟨_, rfl⟩
          rw [Hfl.out] at k5 HMO
          have bx := balloc wr (.cells #[.int .i64 (n : Int), .slice (some ⟨mb, mo, none⟩) z mc] 39)
          obtain ⟨x0, x1⟩ := sq_box2 (n : Int) (.slice (some ⟨mb, mo, none⟩) z mc) wr
          have HbB : Hid ((wr.alloc (.cells #[.int .i64 (n : Int), .slice (some ⟨mb, mo, none⟩) z mc] 39)).heap.size = wr.heap.size + 1) := by show _ = _; simp
          obtain ⟨w4, Hw4⟩ : ∃ w4, Hid (wr.alloc (.cells #[.int .i64 (n : Int), .slice (some ⟨mb, mo, none⟩) z mc] 39) = w4) := ⟨_, rfl⟩
          rw [Hw4.out] at x0 x1 bx HbB
          have hB4 := Below.next hB bx
          have hgr : g < wr.heap.size := (Array.getElem?_eq_some_iff.1 k1).1
          have hxb : ∀ h, xv.ownBlock = some h → w2.heap.size ≤ h ∧ h < wr.heap.size := fun h hh => ⟨(k5.lt h hh).1, (k5.lt h hh).2⟩
          have HS : Hid (∀ W, Below w.heap.size w W → W.heap[wr.heap.size]? = w4.heap[wr.heap.size]? → W.cell? ⟨wr.heap.size, 1, none⟩ = some (.slice (some ⟨mb, mo, none⟩) z mc) ∧ W.cell? ⟨mb, mo + c, none⟩ = some (.int .i64 yv)) := fun W bW hW =>
            ⟨(World.cell?_of_block (a := ⟨wr.heap.size, 1, none⟩) hW).trans x1, (bW.cell (p := ⟨mb, mo + c, none⟩) hmb).trans hmcw⟩
          -- the worlds of the region
          have k5A : (w4.alloc (.cells #[.int .i64 yv] 3)).drew.ownsRow w2.heap.size 3 1 xv (i + 2) fl := own_keep k5 fun k _ hk => ((Below.heap_alloc _ _ _ (by have := HbB.out; omega)).trans (bx.block k hk))
          have k1A : (w4.alloc (.cells #[.int .i64 yv] 3)).drew.heap[g]? = some (.cells cu 22 (0, 0)) := (Below.heap_alloc _ _ _ (by have := HbB.out; omega)).trans ((bx.block g hgr).trans k1)
          have k14 : w4.heap[g]? = some (.cells cu 22 (0, 0)) := (bx.block g hgr).trans k1
          have hcA : (w4.alloc (.cells #[.int .i64 yv] 3)).drew.cell? ⟨g, c, none⟩ = some xv := by rw [cell_of_row _ g c _ _ _ k1A]; exact k3
          have hc4 : w4.cell? ⟨g, c, none⟩ = some xv := by rw [cell_of_row _ g c _ _ _ k14]; exact k3
          have hKA : Kg g w2.heap.size w2 (w4.alloc (.cells #[.int .i64 yv] 3)).drew := by
            have h4 : Kg g w2.heap.size w2 w4 := by rw [← Hw4.out]; exact k6.alloc (by omega) _
            exact (h4.alloc (by have := HbB.out; omega) _).drew
          have hBA : Below w.heap.size w (w4.alloc (.cells #[.int .i64 yv] 3)).drew := (hB4.alloc hB4.size _).drew
          have hbA : (w4.alloc (.cells #[.int .i64 yv] 3)).drew.heap[wr.heap.size]? = w4.heap[wr.heap.size]? := Below.heap_alloc _ _ _ (by have := HbB.out; omega)
          have HSA : Hid ((w4.alloc (.cells #[.int .i64 yv] 3)).drew.heap.size = wr.heap.size + 1 + 1) := by show (w4.alloc (.cells #[.int .i64 yv] 3)).heap.size = _; have := HbB.out; simp; omega
          obtain ⟨xa, xc, rfl⟩ := own_sliceI' k5
          clear hm0 hSu hqi2 c1w c2w
          go_wp2_with fail
          rw [Hw4.out]
          go_wp2_with fail
          refine wp_region_noPanic ?_
          refine wp_region_held_drew (S := fun W => W.cell? ⟨wr.heap.size, 1, none⟩ = some (.slice (some ⟨mb, mo, none⟩) z mc) ∧ W.cell? ⟨mb, mo + c, none⟩ = some (.int .i64 yv)) (by kernel_rfl) (HS.out _ hB4.drew rfl) (fun hSx => ?_)
          refine wpAnyH_take (i := 0) (v := .slice (some ⟨g, 0, none⟩) z z) rfl (by kernel_rfl) (by kernel_rfl) (by kernel_rfl) (fun _ _ _ h => h) (Or.inl ⟨by rfl, fun w' hSw => by (try dsimp only at hSw); obtain ⟨hs0, hs1⟩ := hSw; go_simp⟩) hSx ?_
          try simp only [Act.put, List.setIfInBounds_toArray]
          refine wpAnyH_take (i := 1) (v := .int .i64 (c : Int)) rfl (by kernel_rfl) (by kernel_rfl) (by kernel_rfl) (fun _ _ _ h => h) (Or.inl ⟨by rfl, fun w' hSw => by (try dsimp only at hSw); obtain ⟨hs0, hs1⟩ := hSw; go_simp⟩) hSx ?_
          try simp only [Act.put]
          refine wpAnyH_take (i := 2) (v := .slice (some ⟨g, 0, none⟩) z z) rfl (by kernel_rfl) (by kernel_rfl) (by kernel_rfl) (fun _ _ _ h => h) (Or.inl ⟨by rfl, fun w' hSw => by (try dsimp only at hSw); obtain ⟨hs0, hs1⟩ := hSw; go_simp⟩) hSx ?_
          try simp only [Act.put]
          refine wpAnyH_take (i := 3) (v := .int .i64 (c : Int)) rfl (by kernel_rfl) (by kernel_rfl) (by kernel_rfl) (fun _ _ _ h => h) (Or.inl ⟨by rfl, fun w' hSw => by (try dsimp only at hSw); obtain ⟨hs0, hs1⟩ := hSw; go_simp⟩) hSx ?_
          try simp only [Act.put]
          refine wpAnyH_take (i := 4) (v := .pointer (some ⟨g, c, none⟩)) rfl (by kernel_rfl) (by kernel_rfl) (by kernel_rfl) (fun _ _ _ h => h) (Or.inl ⟨by rfl, fun w' hSw => by (try dsimp only at hSw); obtain ⟨hs0, hs1⟩ := hSw; go_simp⟩) hSx ?_
          try simp only [Act.put]
          refine wpAnyH_take (i := 6) (v := .pointer (some ⟨wr.heap.size, 1, none⟩)) rfl (by kernel_rfl) (by kernel_rfl) (by kernel_rfl) (fun _ _ _ h => h) (Or.inl ⟨by rfl, fun w' hSw => by (try dsimp only at hSw); obtain ⟨hs0, hs1⟩ := hSw; go_simp⟩) hSx ?_
          try simp only [Act.put]
          refine wpAnyH_take (i := 7) (v := .slice (some ⟨mb, mo, none⟩) z mc) rfl (by kernel_rfl) (by kernel_rfl) (by kernel_rfl) (fun _ _ _ h => h) (Or.inl ⟨by rfl, fun w' hSw => by (try dsimp only at hSw); obtain ⟨hs0, hs1⟩ := hSw; go_simp⟩) hSx ?_
          try simp only [Act.put]
          refine wpAnyH_take (i := 8) (v := .int .i64 (c : Int)) rfl (by kernel_rfl) (by kernel_rfl) (by kernel_rfl) (fun _ _ _ h => h) (Or.inl ⟨by rfl, fun w' hSw => by (try dsimp only at hSw); obtain ⟨hs0, hs1⟩ := hSw; go_simp⟩) hSx ?_
          try simp only [Act.put]
          refine wpAnyH_take (i := 9) (v := .pointer (some ⟨mb, mo + c, none⟩)) rfl (by kernel_rfl) (by kernel_rfl) (by kernel_rfl) (fun _ _ _ h => h) (Or.inl ⟨by rfl, fun w' hSw => by (try dsimp only at hSw); obtain ⟨hs0, hs1⟩ := hSw; go_simp⟩) hSx ?_
          try simp only [Act.put]
          refine wpAnyH_take (i := 10) (v := .int .i64 yv) rfl (by kernel_rfl) (by kernel_rfl) (by kernel_rfl) (fun _ _ _ h => h) (Or.inl ⟨by rfl, fun w' hSw => by (try dsimp only at hSw); obtain ⟨hs0, hs1⟩ := hSw; go_simp⟩) hSx ?_
          try simp only [Act.put]
          refine wpAnyH_ready (rs := [5, 11]) (by kernel_rfl) (by simp) ?_
          refine (AllReadyH.cons rfl (fun J hJ => ?_) (AllReadyH.cons rfl (fun J hJ => ?_) AllReadyH.nil))
          · go_simp
            refine hJ.out _ _ (HS.out _ hB4.drew rfl) (fun hSx => ?_)
            clear hJ J
            try simp only [Act.put, List.setIfInBounds_toArray, List.set_cons_zero, List.set_cons_succ]
            refine wpAnyH_ready (rs := [11]) (by kernel_rfl) (by simp) ?_
            refine (AllReadyH.cons rfl (fun J hJ => ?_) AllReadyH.nil)
            go_simp
            refine hJ.out _ _ (HS.out _ hBA hbA) (fun hSx => ?_)
            clear hJ J
            try simp only [Act.put, List.setIfInBounds_toArray, List.set_cons_zero, List.set_cons_succ]
            refine wpAnyH_ready (rs := [12]) (by kernel_rfl) (by simp) ?_
            refine (AllReadyH.cons rfl (fun J hJ => ?_) AllReadyH.nil)
            rw [if_pos (by rfl)]
            refine wp_append_lies _ _ _ 22 rfl w2.heap.size 3 i3 (.int .i64 0) 1 8 und22 HI3.out.1 HI3.out.2.1 HI3.out.2.2.1 HI3.out.2.2.2 rfl (by decide) (.slice xa (i + 2) xc) (i + 2) fl rfl k5A ⟨w4.heap.size, 0, none⟩ 1 1 [.int .i64 yv] rfl rfl (news_row w4 _ _) (fun u hu => by simp at hu; subst hu; rfl) (by decide) (by unfold maxLen; omega) (by omega) (by have := HSA.out; omega) _ rfl ?_
            intro og oc w7 hW7 hg7 _ _
            have hK7 : Kg g w2.heap.size w2 w7 := hKA.grown hg7 (by have := HSA.out; omega) (fun k hk => (hxb k hk).1)
            have hB7 : Below w.heap.size w w7 := hBA.grown hg7 (by have := HSA.out; omega) (fun k hk => by have := (hxb k hk).1; omega)
            have hb7 : w7.heap[wr.heap.size]? = w4.heap[wr.heap.size]? := (hg7.block wr.heap.size (by have := HSA.out; omega) (fun e => by have := (hxb _ e.symm).2; omega)).trans hbA
            have k17 : w7.heap[g]? = some (.cells cu 22 (0, 0)) := (hg7.block g (by have := HSA.out; omega) (fun e => by have := (hxb _ e.symm).1; omega)).trans k1A
            refine hJ.out _ _ (HS.out _ hB7 hb7) (fun hSx => ?_)
            clear hJ J
            try simp only [Act.put, List.setIfInBounds_toArray]
            refine wpAnyH_take (i := 13) (v := .pointer (some ⟨g, c, none⟩)) rfl (by kernel_rfl) (by kernel_rfl) (by kernel_rfl) (fun _ _ _ h => h) (Or.inl ⟨by rfl, fun w' hSw => by (try dsimp only at hSw); obtain ⟨hs0, hs1⟩ := hSw; go_simp⟩) hSx ?_
            try simp only [Act.put]
            obtain ⟨⟨oldc, hold⟩, hfz⟩ := HCELL.out _ cu k17 k2
            have hb8 : (w7.setCell ⟨g, c, none⟩ (.slice (some ⟨og, 0, none⟩) (i + 2 + 1) oc)).heap[wr.heap.size]? = w4.heap[wr.heap.size]? := (heap_setCell_other w7 ⟨g, c, none⟩ wr.heap.size _ (by show wr.heap.size ≠ g; omega)).trans hb7
            have hB8 := hB7.setCell (p := ⟨g, c, none⟩) hgw (.slice (some ⟨og, 0, none⟩) (i + 2 + 1) oc)
            refine wpAnyH_ready (rs := [14]) (by kernel_rfl) (by simp) ?_
            refine (AllReadyH.cons rfl (fun J hJ => ?_) AllReadyH.nil)
            go_simp
            refine hJ.out _ _ (HS.out _ hB8 hb8) (fun hSx => ?_)
            clear hJ J
            try simp only [Act.put, List.setIfInBounds_toArray, List.set_cons_zero, List.set_cons_succ]
            refine wpAnyH_done (by kernel_rfl) ?_ _
            refine NoPanic.normal ?_
            have k18 := set_same (c := c) k17 (.slice (some ⟨og, 0, none⟩) (i + 2 + 1) oc)
            have hO8 : (w7.setCell ⟨g, c, none⟩ (.slice (some ⟨og, 0, none⟩) (i + 2 + 1) oc)).ownsRow w2.heap.size 3 1 (.slice (some ⟨og, 0, none⟩) (i + 2 + 1) oc) (i + 1 + 2) ((roQ n (qs.take (i + 1)) c).map (Value.int .i64)) := by
              rw [HMO.out]
              exact own_set hW7 hgw2
            clear hSx HS hold hfz hcA hc4
            go_wp2
            go_roundw
            case rel => exact ⟨i + 1, _, _, by go_num, by omega, k18, by simp [k2], by rw [Array.getElem?_setIfInBounds, if_pos rfl, if_pos (by omega)], (show ∀ j, j ≠ c → _ from fun j hj => by rw [Array.getElem?_setIfInBounds, if_neg (Ne.symm hj)]; exact K4.out j hj), hO8, hK7.set c _, hB8⟩
            case measure => simp [intOf]; omega
          · go_simp
            refine hJ.out _ _ (HS.out _ hBA hbA) (fun hSx => ?_)
            clear hJ J
            try simp only [Act.put, List.setIfInBounds_toArray, List.set_cons_zero, List.set_cons_succ]
            refine wpAnyH_ready (rs := [5]) (by kernel_rfl) (by simp) ?_
            refine (AllReadyH.cons rfl (fun J hJ => ?_) AllReadyH.nil)
            go_simp
            refine hJ.out _ _ (HS.out _ hBA hbA) (fun hSx => ?_)
            clear hJ J
            try simp only [Act.put, List.setIfInBounds_toArray, List.set_cons_zero, List.set_cons_succ]
            refine wpAnyH_ready (rs := [12]) (by kernel_rfl) (by simp) ?_
            refine (AllReadyH.cons rfl (fun J hJ => ?_) AllReadyH.nil)
            rw [if_pos (by rfl)]
            refine wp_append_lies _ _ _ 22 rfl w2.heap.size 3 i3 (.int .i64 0) 1 8 und22 HI3.out.1 HI3.out.2.1 HI3.out.2.2.1 HI3.out.2.2.2 rfl (by decide) (.slice xa (i + 2) xc) (i + 2) fl rfl k5A ⟨w4.heap.size, 0, none⟩ 1 1 [.int .i64 yv] rfl rfl (news_row w4 _ _) (fun u hu => by simp at hu; subst hu; rfl) (by decide) (by unfold maxLen; omega) (by omega) (by have := HSA.out; omega) _ rfl ?_
            intro og oc w7 hW7 hg7 _ _
            have hK7 : Kg g w2.heap.size w2 w7 := hKA.grown hg7 (by have := HSA.out; omega) (fun k hk => (hxb k hk).1)
            have hB7 : Below w.heap.size w w7 := hBA.grown hg7 (by have := HSA.out; omega) (fun k hk => by have := (hxb k hk).1; omega)
            have hb7 : w7.heap[wr.heap.size]? = w4.heap[wr.heap.size]? := (hg7.block wr.heap.size (by have := HSA.out; omega) (fun e => by have := (hxb _ e.symm).2; omega)).trans hbA
            have k17 : w7.heap[g]? = some (.cells cu 22 (0, 0)) := (hg7.block g (by have := HSA.out; omega) (fun e => by have := (hxb _ e.symm).1; omega)).trans k1A
            refine hJ.out _ _ (HS.out _ hB7 hb7) (fun hSx => ?_)
            clear hJ J
            try simp only [Act.put, List.setIfInBounds_toArray]
            refine wpAnyH_take (i := 13) (v := .pointer (some ⟨g, c, none⟩)) rfl (by kernel_rfl) (by kernel_rfl) (by kernel_rfl) (fun _ _ _ h => h) (Or.inl ⟨by rfl, fun w' hSw => by (try dsimp only at hSw); obtain ⟨hs0, hs1⟩ := hSw; go_simp⟩) hSx ?_
            try simp only [Act.put]
            obtain ⟨⟨oldc, hold⟩, hfz⟩ := HCELL.out _ cu k17 k2
            have hb8 : (w7.setCell ⟨g, c, none⟩ (.slice (some ⟨og, 0, none⟩) (i + 2 + 1) oc)).heap[wr.heap.size]? = w4.heap[wr.heap.size]? := (heap_setCell_other w7 ⟨g, c, none⟩ wr.heap.size _ (by show wr.heap.size ≠ g; omega)).trans hb7
            have hB8 := hB7.setCell (p := ⟨g, c, none⟩) hgw (.slice (some ⟨og, 0, none⟩) (i + 2 + 1) oc)
            refine wpAnyH_ready (rs := [14]) (by kernel_rfl) (by simp) ?_
            refine (AllReadyH.cons rfl (fun J hJ => ?_) AllReadyH.nil)
            go_simp
            refine hJ.out _ _ (HS.out _ hB8 hb8) (fun hSx => ?_)
            clear hJ J
            try simp only [Act.put, List.setIfInBounds_toArray, List.set_cons_zero, List.set_cons_succ]
            refine wpAnyH_done (by kernel_rfl) ?_ _
            refine NoPanic.normal ?_
            have k18 := set_same (c := c) k17 (.slice (some ⟨og, 0, none⟩) (i + 2 + 1) oc)
            have hO8 : (w7.setCell ⟨g, c, none⟩ (.slice (some ⟨og, 0, none⟩) (i + 2 + 1) oc)).ownsRow w2.heap.size 3 1 (.slice (some ⟨og, 0, none⟩) (i + 2 + 1) oc) (i + 1 + 2) ((roQ n (qs.take (i + 1)) c).map (Value.int .i64)) := by
              rw [HMO.out]
              exact own_set hW7 hgw2
            clear hSx HS hold hfz hcA hc4
            go_wp2
            go_roundw
            case rel => exact ⟨i + 1, _, _, by go_num, by omega, k18, by simp [k2], by rw [Array.getElem?_setIfInBounds, if_pos rfl, if_pos (by omega)], (show ∀ j, j ≠ c → _ from fun j hj => by rw [Array.getElem?_setIfInBounds, if_neg (Ne.symm hj)]; exact K4.out j hj), hO8, hK7.set c _, hB8⟩
            case measure => simp [intOf]; omega
        · have hdi : decide ((i : Int) < (q : Int)) = false := by simp; omega
          obtain rfl : i = q := by omega
          rw [HEND.out c] at k5
          have HR2 : Hid (∀ j, j < c + 1 → ∃ u, cu[j]? = some u ∧ wr.ownsRow (g + 1) 3 1 u (i + 2) ((roQ n qs j).map (Value.int .i64))) := fun j hj => by
            by_cases e : j = c
            · subst e
              exact ⟨xv, k3, by
                obtain ⟨h1, h2 | ⟨g', cap', cur', h3, h4, h5⟩⟩ := k5
                · exact ⟨h1, .inl h2⟩
                · exact ⟨h1, .inr ⟨g', cap', cur', h3, by omega, h5⟩⟩⟩
            · obtain ⟨u, hu1, hu2⟩ := HR.out j (by omega)
              refine ⟨u, (K4.out j e).trans hu1, own_keep (by rw [← Hw2.out] at hu2; exact hu2) fun b hb1 hb2 => k6.block b hb2 (by omega)⟩
          clear HR k5
          go_wp2
          go_roundw
          case rel => exact ⟨c + 1, cu, by go_num, by omega, k1, k2, HR2, hB⟩
          case measure => simp [intOf]; omega
    · have hdc : decide ((c : Int) < (z : Int)) = false := by simp; omega
      obtain rfl : c = z := by omega
      have HO : Hid (OZ wr w.heap.size (.slice (some ⟨g, 0, none⟩) c c) (rwQ n qs)) := by
        rw [HROW.out]
        refine ⟨cur.toList, ⟨by simp [hcs], .inr ⟨g, c, cur, by simp, hgw, hgb, by simp, by unfold maxLen; omega, by omega, by rw [List.take_of_length_le]; simp [hcs]⟩⟩, fun j u l hu hl => ?_⟩
        have hjc : j < c := by have := (List.getElem?_eq_some_iff.1 hl).1; simpa using this
        obtain ⟨u', hu1, hu2⟩ := HR.out j hjc
        have e1 : roQ n qs j = l := by simpa [hjc] using hl
        rw [Array.getElem?_toList, hu1] at hu
        obtain rfl := Option.some.inj hu
        subst e1
        unfold OZw
        rw [HRL.out j]
        obtain ⟨h1, h2 | ⟨g', cap', cur', h3, h4, h5⟩⟩ := hu2
        · exact ⟨h1, .inl h2⟩
        · exact ⟨h1, .inr ⟨g', cap', cur', h3, by omega, h5⟩⟩
      clear HR
      go_wp2
      go_ret2
      exact ⟨⟨_, rfl, HO.out⟩, hB⟩
end Go.Proofs.YtjfjdidibglhaabDoor.Ar
