/- A list of members that grows till it is closed. -/
import Derived.Test.YtmaplmgecohjbaaG57
import Derived.Test.YtmaplmgecohjbaaG38
namespace Go.Proofs.Ytmaplmgecohjbaa
open Go.RowKit Go.Maps

def addL (L : List (List Nat)) (x : List Nat) : List (List Nat) := open Classical in if x ∈ L then L else L ++ [x]
theorem mem_addL {L : List (List Nat)} {x y : List Nat} : y ∈ addL L x ↔ y ∈ L ∨ y = x := by
  unfold addL
  split
  · exact ⟨fun h => .inl h, fun h => h.elim id (fun e => by rw [e]; assumption)⟩
  · simp
theorem addL_at {L : List (List Nat)} {x y : List Nat} {t : Nat} (h : L[t]? = some y) : (addL L x)[t]? = some y := by
  unfold addL
  split
  · exact h
  · rw [List.getElem?_append_left (List.getElem?_eq_some_iff.1 h).1]; exact h
theorem addL_len (L : List (List Nat)) (x : List Nat) : L.length ≤ (addL L x).length := by
  unfold addL
  split
  · exact Nat.le_refl _
  · simp
theorem addL_nodup {L : List (List Nat)} {x : List Nat} (h : L.Nodup) : (addL L x).Nodup := by
  unfold addL
  split
  · exact h
  · rename_i hx
    exact List.nodup_append.2 ⟨h, by simp, fun a ha b hb => by
      obtain rfl : b = x := by simpa using hb
      exact fun e => hx (e ▸ ha)⟩
theorem addL_ext {n : Nat} {L : List (List Nat)} {x : List Nat} (hn : n ≤ 7) (hL : ∀ y ∈ L, y.length = n) (hx : x.length = n) : (addL L x).map (ext n) = addL (L.map (ext n)) (ext n x) := by
  unfold addL
  by_cases h : x ∈ L
  · rw [if_pos h, if_pos (List.mem_map.2 ⟨x, h, rfl⟩)]
  · rw [if_neg h, if_neg, List.map_append]
    · rfl
    · rintro h2
      obtain ⟨y, hy, e⟩ := List.mem_map.1 h2
      exact h (ext_inj (hL y hy) hx hn e ▸ hy)

/-- Distinct members, what moves nothing among them. -/
structure MadeS (n : Nat) (ms L : List (List Nat)) : Prop where
  nd : L.Nodup
  one : idL n ∈ L
  gen : ∀ a ∈ L, Gen n ms a
theorem MadeS.isP {n : Nat} {ms L : List (List Nat)} (hm : ∀ m ∈ ms, IsP n m) (h : MadeS n ms L) : ∀ a ∈ L, IsP n a := fun a ha => (h.gen a ha).isP hm
theorem MadeS.len {n : Nat} {ms L : List (List Nat)} (hm : ∀ m ∈ ms, IsP n m) (hn : n ≤ 7) (h : MadeS n ms L) : L.length ≤ 5040 := by
  have := perms_le h.nd (h.isP hm)
  have h2 : fac n ≤ fac 7 := fac_mono hn
  have h3 : fac 7 = 5040 := by decide
  omega
/-- Each of the first i with each maker, the next one with the first j, is there. -/
structure Clo (ms L : List (List Nat)) (i j : Nat) : Prop where
  low : ∀ t a m, t < i → L[t]? = some a → m ∈ ms → thenL a m ∈ L
  now : ∀ a q m, L[i]? = some a → q < j → ms[q]? = some m → thenL a m ∈ L
theorem Clo.start {ms L : List (List Nat)} : Clo ms L 0 0 := ⟨fun t a m h => by omega, fun a q m _ h => by omega⟩
theorem Clo.next {ms L : List (List Nat)} {i j : Nat} {a m : List Nat} (h : Clo ms L i j) (hi : i < L.length) (ha : L[i]? = some a) (hm : ms[j]? = some m) : Clo ms (addL L (thenL a m)) i (j + 1) := by
  have back : ∀ t b, t ≤ i → (addL L (thenL a m))[t]? = some b → L[t]? = some b := fun t b ht hb => by
    have h1 : L[t]? = some L[t] := List.getElem?_eq_getElem (by omega)
    have h2 := addL_at (x := thenL a m) h1
    rw [hb] at h2
    rw [h1, h2]
  refine ⟨fun t b q ht hb hq => mem_addL.2 (.inl (h.low t b q ht (back t b (by omega) hb) hq)), fun b q m' hb hq hm' => ?_⟩
  have hb' := back i b (Nat.le_refl _) hb
  by_cases e : q = j
  · subst e
    rw [hm] at hm'
    rw [ha] at hb'
    obtain rfl : m = m' := by simpa using hm'
    obtain rfl : a = b := by simpa using hb'
    exact mem_addL.2 (.inr rfl)
  · exact mem_addL.2 (.inl (h.now b q m' hb' (by omega) hm'))
theorem Clo.turn {ms L : List (List Nat)} {i : Nat} (h : Clo ms L i ms.length) : Clo ms L (i + 1) 0 := by
  refine ⟨fun t a m ht ha hm => ?_, fun a q m _ hq => by omega⟩
  by_cases e : t = i
  · subst e
    obtain ⟨q, hq, rfl⟩ := List.mem_iff_getElem.1 hm
    exact h.now a q _ ha hq (List.getElem?_eq_getElem hq)
  · exact h.low t a m (by omega) ha hm
theorem Clo.done {n : Nat} {ms L : List (List Nat)} (hS : MadeS n ms L) (h : Clo ms L L.length 0) (a : List Nat) : a ∈ L ↔ Gen n ms a :=
  gen_closed hS.one hS.gen (fun a ha m hm => by
    obtain ⟨t, ht, rfl⟩ := List.mem_iff_getElem.1 ha
    exact h.low t _ m ht (List.getElem?_eq_getElem ht) hm) a
theorem MadeS.add {n : Nat} {ms L : List (List Nat)} (h : MadeS n ms L) {a m : List Nat} (ha : a ∈ L) (hm : m ∈ ms) : MadeS n ms (addL L (thenL a m)) :=
  ⟨addL_nodup h.nd, mem_addL.2 (.inl h.one), fun b hb => by
    rcases mem_addL.1 hb with h1 | rfl
    · exact h.gen b h1
    · exact .step a m (h.gen a ha) hm⟩

theorem add_any (n base G : Nat) (L : List (List Nat)) (x : List Nat) (w : World) (hn : n ≤ 7) (hM : Mem base w G (L.map (ext n))) (hbs : base ≤ w.heap.size) (hL : ∀ y ∈ L, IsP n y) (hx : IsP n x) (hlen : L.length ≤ 6000) :
    Calls Try.prog 71 #[.pointer (some ⟨G, 0, none⟩), mv (ext n x)] w fun e w' => e = .returned (.tuple #[]) ∧ Mem base w' G ((addL L x).map (ext n)) ∧ Below base w w' := by
  have hS : ∀ y ∈ L.map (ext n), Small y := fun y hy => by
    obtain ⟨z, hz, rfl⟩ := List.mem_map.1 hy
    exact (ext_isP (hL z hz) hn).small
  have hxS := (ext_isP hx hn).small
  rw [addL_ext hn (fun y hy => (hL y hy).len) hx.len]
  by_cases h : ext n x ∈ L.map (ext n)
  · have e : addL (L.map (ext n)) (ext n x) = L.map (ext n) := by unfold addL; rw [if_pos h]
    rw [e]
    exact add_yes base G _ _ w hM hbs hS hxS h
  · have e : addL (L.map (ext n)) (ext n x) = L.map (ext n) ++ [ext n x] := by unfold addL; rw [if_neg h]
    rw [e]
    exact add_no base G _ _ w hM hbs hS hxS h (by rw [List.length_map]; exact hlen)
theorem flat_range {L : List (List Nat)} : ∀ {i : Nat} {x : List Nat}, L[i]? = some x → ∀ j v, (mvL x)[j]? = some v → (L.flatMap mvL)[i * 7 + j]? = some v := by
  induction L with
  | nil => intro i x h; simp at h
  | cons y L ih =>
    intro i x h j v hv
    rw [List.flatMap_cons]
    cases i with
    | zero =>
      obtain rfl : y = x := by simpa using h
      rw [Nat.zero_mul, Nat.zero_add, List.getElem?_append_left (List.getElem?_eq_some_iff.1 hv).1]; exact hv
    | succ i =>
      rw [List.getElem?_append_right (by rw [mvL_len]; omega), mvL_len, show (i + 1) * 7 + j - 7 = i * 7 + j by omega]
      exact ih (by simpa using h) j v hv
/-- What the block of members shows to a reader. -/
theorem Mem.open {base G : Nat} {w : World} {L : List (List Nat)} (h : Mem base w G L) (hne : 0 < L.length) : ∃ g cap, w.cell? ⟨G, 0, none⟩ = some (.slice (some ⟨g, 0, none⟩) L.length cap) ∧ g < w.heap.size ∧ G < w.heap.size ∧ cap ≤ maxLen ∧ L.length ≤ cap ∧ ∀ i x, L[i]? = some x → w.rangeAt g (i * 7) (mvL x) := by
  obtain ⟨v, B, h1, h2, _⟩ := h
  obtain ⟨_, ⟨rfl, h0⟩ | ⟨g, cap, cur, rfl, _, h7, h8, h9, h10, ht⟩⟩ := h2
  · omega
  · refine ⟨g, cap, cell_of_row w G 0 _ _ _ h1, (Array.getElem?_eq_some_iff.1 h7).1, (Array.getElem?_eq_some_iff.1 h1).1, h9, h8, fun i x hx j v hv => ?_⟩
    rw [cell_of_row w g _ _ _ _ h7]
    have h3 := flat_range hx j v hv
    rw [← ht] at h3
    have hj : j < 7 := by have := (List.getElem?_eq_some_iff.1 hv).1; rwa [mvL_len] at this
    have hi : i < L.length := (List.getElem?_eq_some_iff.1 hx).1
    rw [List.getElem?_take, if_pos (by omega)] at h3
    rw [← Array.getElem?_toList]; exact h3
theorem Mem.mvs {base G : Nat} {w : World} {L : List (List Nat)} (h : Mem base w G L) (hne : 0 < L.length) : ∃ v, w.cell? ⟨G, 0, none⟩ = some v ∧ Mvs w v L ∧ G < w.heap.size := by
  obtain ⟨g, cap, h1, h2, h3, _, _, h4⟩ := h.open hne
  exact ⟨_, h1, ⟨_, cap, rfl, fun i x hx => ⟨g, 0, rfl, h2, by rw [Nat.zero_add]; exact h4 i x hx⟩⟩, h3⟩

end Go.Proofs.Ytmaplmgecohjbaa
