/- The walk of tell. -/
import Derived.Test.YtdeofjmgjhfkcaaB4
namespace Go.Proofs.Ytdeofjmgjhfkcaa
open Go.RowKit

/-- Blocks in their order. -/
structure Srtd (L Z : List (List Nat)) : Prop where
  perm : Z.Perm L
  ord : Z.Pairwise fun a b => ¬ llt b a
theorem Srtd.len {L Z : List (List Nat)} (h : Srtd L Z) : Z.length = L.length := h.perm.length_eq
theorem OR.put {w : World} {base t i : Nat} {v u : Value} {ls : List (List Nat)} {c : Array Value} {fr : Nat × Nat} (h : OR w base v ls) (ht : w.heap[t]? = some (.cells c 24 fr)) : OR (w.setCell ⟨t, i, none⟩ u) base v ls := by
  have key : ∀ {e : TypeId} {x : Value} {n : Nat} {xs : List Value}, e ≠ 24 → w.ownsRow base e 1 x n xs → (w.setCell ⟨t, i, none⟩ u).ownsRow base e 1 x n xs := by
    rintro e x n xs he ⟨k0, k | ⟨g, cap, cur, e1, hg, k1, k2⟩⟩
    · exact ⟨k0, .inl k⟩
    · refine ⟨k0, .inr ⟨g, cap, cur, e1, hg, (heap_setCell_other w ⟨t, i, none⟩ g u fun e2 => ?_).trans k1, k2⟩⟩
      have e2 : g = t := e2
      rw [e2, ht] at k1
      simp at k1
      exact he k1.2.1.symm
  obtain ⟨vals, h1, h2⟩ := h
  exact ⟨vals, key (by decide) h1, fun j x l a b => key (by decide) (h2 j x l a b)⟩
theorem OR.none_ne {w : World} {base b : Nat} {v : Value} {ls : List (List Nat)} (h : OR w base v ls) (hb : w.heap.size ≤ b) : v.ownBlock ≠ some b := by
  obtain ⟨vals, ⟨_, ⟨rfl, _⟩ | ⟨g, cap, cur, rfl, _, k1, _⟩⟩, _⟩ := h
  · simp [Value.ownBlock]
  · have := (Array.getElem?_eq_some_iff.1 k1).1
    intro e
    have : g = b := by simpa [Value.ownBlock] using e
    omega
set_option maxRecDepth 100000 in
set_option maxHeartbeats 4000000 in
theorem tell_any (p base gb : Nat) (ty : TypeId) (rest : List Value) (L : List (List Nat)) (w : World) (h : Lst w base gb ty rest L) (h3 : ∀ l ∈ L, l.length = 3) (h6 : L.length ≤ 6000) :
    Calls Try.prog 43 #[.pointer (some ⟨gb, 0, none⟩), .int .i64 (p : Int)] w fun e w' => ∃ x Z, e = .returned (.agg #[.int .i64 (p : Int), x]) ∧ Srtd L Z ∧ OR w' base x Z ∧ Below base w w' := by
  obtain ⟨v, hbx, hO, hgb, hbs⟩ := h
  have ba := balloc w (.cells #[.int .i64 0, .slice none 0 0] 24)
  have C := sort_any base base L v (w.alloc (.cells #[.int .i64 0, .slice none 0 0] 24)) (Nat.le_refl _) (hO.below ba) h3 h6 (Nat.le_trans hbs ba.size)
  have hlt : gb < w.heap.size := by omega
  have c0 : (w.alloc (.cells #[.int .i64 0, .slice none 0 0] 24)).cell? ⟨gb, 0, none⟩ = some v := by rw [cell_of_row _ _ _ _ _ _ ((ba.block gb hlt).trans hbx)]; rfl
  obtain ⟨va, vc, rfl⟩ := hO.cap
  have HBX : Hid (∀ W, Below base (w.alloc (.cells #[.int .i64 0, .slice none 0 0] 24)) W → W.cell? ⟨gb, 0, none⟩ = some (.slice va L.length vc)) := fun W b => by
    rw [cell_of_row _ _ _ _ _ _ ((b.block gb hgb).trans ((ba.block gb hlt).trans hbx))]; rfl
  have HT : Hid (∀ W : World, (∀ b, b < (w.alloc (.cells #[.int .i64 0, .slice none 0 0] 24)).heap.size → (Value.slice va L.length vc).ownBlock ≠ some b → W.heap[b]? = (w.alloc (.cells #[.int .i64 0, .slice none 0 0] 24)).heap[b]?) → W.heap[w.heap.size]? = some (.cells #[.int .i64 0, .slice none 0 0] 24 (0, 0))) := fun W hW =>
    (hW w.heap.size (by simp) (hO.none_ne (Nat.le_refl _))).trans (heap_alloc_new w _)
  have HC : Hid (Calls Try.prog 63 #[.slice va L.length vc, .func (.func 64) #[] #[]] (w.alloc (.cells #[.int .i64 0, .slice none 0 0] 24)) fun e w' => e = .returned (.tuple #[]) ∧ (∃ Z, Z.Perm L ∧ Z.Pairwise (fun a b => ¬ llt b a) ∧ OR w' base (.slice va L.length vc) Z) ∧ Below base (w.alloc (.cells #[.int .i64 0, .slice none 0 0] 24)) w' ∧ ∀ b, b < (w.alloc (.cells #[.int .i64 0, .slice none 0 0] 24)).heap.size → (Value.slice va L.length vc).ownBlock ≠ some b → w'.heap[b]? = (w.alloc (.cells #[.int .i64 0, .slice none 0 0] 24)).heap[b]?) := C
  have HBA : Hid (Below base w (w.alloc (.cells #[.int .i64 0, .slice none 0 0] 24))) := ba.mono hbs
  generalize L.length = n at *
  clear C hbx hO ba
  go_enter Try.func43, Try.ntmps43
  go_wp2_with (first
    | (go_at_call 63; refine HC.out.mono ?_; rintro e w1 ⟨rfl, ⟨Z, hp, hs, hZ⟩, hB, hf⟩; clear HC; have HZ : Hid (Srtd L Z) := ⟨hp, hs⟩; have ht := HT.out w1 hf; have c1 := HBX.out w1 hB; have HB : Hid (Below base w w1) := HBA.out.trans hB; clear HT hf hB hp hs HBA c0; have t0 : w1.cell? ⟨w.heap.size, 0, none⟩ = some (.int .i64 0) := (by rw [cell_of_row _ _ _ _ _ _ ht]; rfl); have t1 : w1.cell? ⟨w.heap.size, 1, none⟩ = some (.slice none 0 0) := (by rw [cell_of_row _ _ _ _ _ _ ht]; rfl); have f0 : w1.frozen? ⟨w.heap.size, 0, none⟩ = false := frozen_of_row w1 _ 0 _ _ ht; have f1 : w1.frozen? ⟨w.heap.size, 1, none⟩ = false := frozen_of_row w1 _ 1 _ _ ht; have hn1 := heap_setCell_same w1 w.heap.size 0 _ _ (.int .i64 (p : Int)) ht; have hn2 := heap_setCell_same _ w.heap.size 1 _ _ (.slice va n vc) hn1; have HO2 : Hid (OR ((w1.setCell ⟨w.heap.size, 0, none⟩ (.int .i64 (p : Int))).setCell ⟨w.heap.size, 1, none⟩ (.slice va n vc)) base (.slice va n vc) Z) := (hZ.put ht).put hn1; have HN2 : Hid (((w1.setCell ⟨w.heap.size, 0, none⟩ (.int .i64 (p : Int))).setCell ⟨w.heap.size, 1, none⟩ (.slice va n vc)).heap[w.heap.size]? = _) := hn2; clear ht hn1 hn2 hZ)
    | go_in)
  exact post_d 4 Try.results43 rfl HN2.out rfl ⟨_, Z, rfl, HZ.out, HO2.out, (HB.out.setCell (p := ⟨w.heap.size, 0, none⟩) hbs _).setCell (p := ⟨w.heap.size, 1, none⟩) hbs _⟩

end Go.Proofs.Ytdeofjmgjhfkcaa
