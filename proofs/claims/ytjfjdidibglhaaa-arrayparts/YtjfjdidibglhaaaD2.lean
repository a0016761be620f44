/- The walk of without. -/
import Derived.Test.YtjfjdidibglhaaaD1
import Derived.Deep.RegionHeld3
namespace Go.Proofs.Ytjfjdidibglhaaa
open Go.RowKit

theorem ownsRow_low {w : World} {b b' : Nat} {e : TypeId} {size : Nat} {v : Value} {n : Nat} {xs : List Value} (h : w.ownsRow b' e size v n xs) (hb : b ≤ b') : w.ownsRow b e size v n xs := by
  obtain ⟨h1, h2 | ⟨g, cap, cur, h3, h4, h5⟩⟩ := h
  · exact ⟨h1, .inl h2⟩
  · exact ⟨h1, .inr ⟨g, cap, cur, h3, Nat.le_trans hb h4, h5⟩⟩
theorem cutHi (b o c m cap : Nat) (h : c ≤ cap) (W : World) : (Instr.sliceAt 40 (.slice (some ⟨b, o, none⟩) m cap) none (some (.int .i64 (c : Int))) none).run Try.prog W = .ok (.slice (some ⟨b, o, none⟩) c cap) W := by
  have h1 : (c : Int) ≤ (cap : Int) := by omega
  go_simp
theorem cutLo (b o i n k cap : Nat) (h : i < cap) (hn : i ≤ n) (hk : n = i + k) (W : World) : (Instr.sliceAt 40 (.slice (some ⟨b, o, none⟩) n cap) (some (.int .i64 (i : Int))) none none).run Try.prog W = .ok (.slice (some ⟨b, o + i, none⟩) k (cap - i)) W := by
  have h1 : (i : Int) ≤ (n : Int) := by omega
  have h2 : ¬ cap = i := by omega
  have h3 : n - i = k := by omega
  go_simp
  intro q
  omega
theorem cutEnd (b o n : Nat) (W : World) : (Instr.sliceAt 40 (.slice (some ⟨b, o, none⟩) n n) (some (.int .i64 (n : Int))) none none).run Try.prog W = .ok (.slice (some ⟨b, o, none⟩) 0 0) W := by
  go_simp
/-- What is left behind a place. -/
theorem cut_any (b o i n cap : Nat) (l : List Int) (w : World) (hn : i ≤ n) (hc : n ≤ cap) (hl : l.length = n) (hs : Sl w (.slice (some ⟨b, o, none⟩) n cap) l) :
    ∃ a k c, (∀ W, (Instr.sliceAt 40 (.slice (some ⟨b, o, none⟩) n cap) (some (.int .i64 (i : Int))) none none).run Try.prog W = .ok (.slice a k c) W) ∧ Sl w (.slice a k c) (l.drop i) := by
  by_cases h : i < cap
  · refine ⟨_, n - i, _, cutLo b o i n (n - i) cap h hn (by omega), some ⟨b, o + i, none⟩, cap - i, by rw [List.length_drop, hl], fun j hj => ⟨b, o + i, rfl, ?_⟩⟩
    rw [List.length_drop, hl] at hj
    obtain ⟨a, c, e, hh⟩ := hs
    cases e
    obtain ⟨b', o', e', hcc⟩ := hh (i + j) (by omega)
    simp only [Option.some.injEq, Addr.mk.injEq, and_true] at e'
    obtain ⟨rfl, rfl⟩ := e'
    rw [show o + i + j = o + (i + j) by omega, hcc]
    simp [List.getD_eq_getElem?_getD]
  · obtain rfl : i = n := by omega
    obtain rfl : i = cap := by omega
    have e : l.drop i = [] := List.drop_eq_nil_of_le (by omega)
    refine ⟨_, _, _, cutEnd b o i, ?_⟩
    rw [e]
    exact ⟨_, _, rfl, fun j hj => by simp at hj⟩
theorem sl_take {w : World} {b o n cap c : Nat} {l : List Int} (hl : l.length = n) (hc : c ≤ n) (hs : Sl w (.slice (some ⟨b, o, none⟩) n cap) l) : Sl w (.slice (some ⟨b, o, none⟩) c cap) (l.take c) := by
  obtain ⟨a, c', e, hh⟩ := hs
  cases e
  refine ⟨_, cap, by rw [List.length_take, hl, Nat.min_eq_left hc], fun j hj => ?_⟩
  rw [List.length_take, hl, Nat.min_eq_left hc] at hj
  obtain ⟨b', o', e', hcc⟩ := hh j (by omega)
  refine ⟨b', o', e', ?_⟩
  rw [hcc]
  simp [List.getD_eq_getElem?_getD, hj]
theorem two_rw {w : World} {x y : Value} {l m : List Int} (hx : Sl w x l) (hy : Sl w y m) : Rw (w.alloc (.cells #[x, y] 40)) (.slice (some ⟨w.heap.size, 0, none⟩) 2 2) [l, m] := by
  refine ⟨_, 2, rfl, fun i z hi => ⟨w.heap.size, 0, ?_⟩⟩
  have hn := heap_alloc_new w (.cells #[x, y] 40)
  have b := balloc w (.cells #[x, y] 40)
  have hil : i < 2 := (List.getElem?_eq_some_iff.1 hi).1
  rcases (show i = 0 ∨ i = 1 by omega) with rfl | rfl
  · obtain rfl : l = z := by simpa using hi
    exact ⟨x, rfl, by rw [cell_of_row _ _ _ _ _ _ hn]; rfl, hx.below b⟩
  · obtain rfl : m = z := by simpa using hi
    exact ⟨y, rfl, by rw [cell_of_row _ _ _ _ _ _ hn]; rfl, hy.below b⟩
set_option maxRecDepth 100000 in
set_option maxHeartbeats 8000000 in
theorem without_any (b o k cap c : Nat) (l : List Int) (w : World) (hs : Sl w (.slice (some ⟨b, o, none⟩) k cap) l) (hl : l.length = k) (hcap : k ≤ cap) (hk2 : 2 ≤ k) (hk8 : k ≤ 8) (hc : c < k) :
    Calls Try.prog 27 #[.slice (some ⟨b, o, none⟩) k cap, .int .i64 (c : Int)] w fun e w' => ∃ y, e = .returned y ∧ w'.ownsRow w.heap.size 3 1 y (k - 1) ((l.eraseIdx c).map (Value.int .i64)) ∧ Below w.heap.size w w' := by
  obtain ⟨a2, k2, c2, hcut, hs2⟩ := cut_any b o (c + 1) k cap l w (by omega) hcap hl hs
  have hs1 := sl_take hl (show c ≤ k by omega) hs
  have hrw : ∀ n, Rw ((w.drewN n).alloc (.cells #[.slice (some ⟨b, o, none⟩) c cap, .slice a2 k2 c2] 40)) (.slice (some ⟨w.heap.size, 0, none⟩) 2 2) [l.take c, l.drop (c + 1)] := fun n => two_rw (w := w.drewN n) (hs1.below (bdrewN (Below.refl _ _) n)) (hs2.below (bdrewN (Below.refl _ _) n))
  have hfl : [l.take c, l.drop (c + 1)].flatten = l.eraseIdx c := by
    rw [List.eraseIdx_eq_take_drop_succ]
    simp
  have hfn : (l.eraseIdx c).length = k - 1 := by rw [List.length_eraseIdx, if_pos (by omega), hl]
  have HB : Hid (Below w.heap.size w (w.drew.alloc (.cells #[.slice (some ⟨b, o, none⟩) c cap, .slice a2 k2 c2] 40))) := (Below.refl _ w).drew.alloc (Nat.le_refl _) _
  have C := Concat_any _ _ _ (show Rw (w.drew.alloc (.cells #[.slice (some ⟨b, o, none⟩) c cap, .slice a2 k2 c2] 40)) (.slice (some ⟨w.heap.size, 0, none⟩) 2 2) [l.take c, l.drop (c + 1)] from two_rw (w := w.drew) (hs1.below (Below.refl _ w).drew) (hs2.below (Below.refl _ w).drew)) (by simp) (by rw [hfl, hfn]; omega) (by rw [hfl, hfn]; omega)
  rw [hfl, hfn] at C
  have HCU : Hid (∀ W, (Instr.sliceAt 40 (.slice (some ⟨b, o, none⟩) k cap) (some (.int .i64 ((c : Int) + 1))) none none).run Try.prog W = .ok (.slice a2 k2 c2) W) := hcut
  have HCH : Hid (∀ W, (Instr.sliceAt 40 (.slice (some ⟨b, o, none⟩) k cap) none (some (.int .i64 (c : Int))) none).run Try.prog W = .ok (.slice (some ⟨b, o, none⟩) c cap) W) := cutHi b o c k cap (by omega)
  obtain ⟨xs, Hxs⟩ : ∃ xs, Hid ((l.eraseIdx c).map (Value.int .i64) = xs) := ⟨_, rfl⟩
  rw [Hxs.out] at C ⊢
  obtain ⟨kk, Hkk⟩ : ∃ kk, Hid (k - 1 = kk) := ⟨_, rfl⟩
  rw [Hkk.out] at C ⊢
  clear hrw hfl hfn hs1 hs2 hs hcut hl
  go_enter Try.func27, Try.ntmps27
  go_wp2_with fail
  refine wp_region_noPanic ?_
  refine wp_region_held_drew (S := fun _ => True) (by kernel_rfl) trivial (fun hSx => ?_)
  refine wpAnyH_take (i := 0) (v := .slice (some ⟨b, o, none⟩) k cap) rfl (by kernel_rfl) (by kernel_rfl) (by kernel_rfl) (fun _ _ _ h => h) (Or.inl ⟨by rfl, fun w' hSw => by go_simp⟩) hSx ?_
  try simp only [Act.put, List.setIfInBounds_toArray]
  refine wpAnyH_take (i := 1) (v := .int .i64 (c : Int)) rfl (by kernel_rfl) (by kernel_rfl) (by kernel_rfl) (fun _ _ _ h => h) (Or.inl ⟨by rfl, fun w' hSw => by go_simp⟩) hSx ?_
  try simp only [Act.put]
  refine wpAnyH_take (i := 2) (v := .slice (some ⟨b, o, none⟩) c cap) rfl (by kernel_rfl) (by kernel_rfl) (by kernel_rfl) (fun _ _ _ h => h) (Or.inl ⟨by rfl, fun w' hSw => by have hh := HCH.out w'; go_simp⟩) hSx ?_
  try simp only [Act.put]
  refine wpAnyH_take (i := 3) (v := .slice (some ⟨b, o, none⟩) k cap) rfl (by kernel_rfl) (by kernel_rfl) (by kernel_rfl) (fun _ _ _ h => h) (Or.inl ⟨by rfl, fun w' hSw => by go_simp⟩) hSx ?_
  try simp only [Act.put]
  refine wpAnyH_take (i := 4) (v := .int .i64 (c : Int)) rfl (by kernel_rfl) (by kernel_rfl) (by kernel_rfl) (fun _ _ _ h => h) (Or.inl ⟨by rfl, fun w' hSw => by go_simp⟩) hSx ?_
  try simp only [Act.put]
  refine wpAnyH_take (i := 5) (v := .int .i64 ((c : Int) + 1)) rfl (by kernel_rfl) (by kernel_rfl) (by kernel_rfl) (fun _ _ _ h => h) (Or.inl ⟨by rfl, fun w' hSw => by go_simp; rw [IntKind.wrap_i64]; omega⟩) hSx ?_
  try simp only [Act.put]
  refine wpAnyH_take (i := 6) (v := .slice a2 k2 c2) rfl (by kernel_rfl) (by kernel_rfl) (by kernel_rfl) (fun _ _ _ h => h) (Or.inl ⟨by rfl, fun w' hSw => by have hh := HCU.out w'; go_simp⟩) hSx ?_
  try simp only [Act.put]
  refine wpAnyH_ready (rs := [7]) (by kernel_rfl) (by simp) ?_
  refine (AllReadyH.cons rfl (fun J hJ => ?_) AllReadyH.nil)
  go_simp
  refine hJ.out _ _ (trivial) (fun hSx => ?_)
  clear hJ J
  try simp only [Act.put, List.setIfInBounds_toArray, List.set_cons_zero, List.set_cons_succ]
  refine wpAnyH_ready (rs := [8]) (by kernel_rfl) (by simp) ?_
  refine (AllReadyH.cons rfl (fun J hJ => ?_) AllReadyH.nil)
  go_simp
  refine C.mono ?_
  rintro e w3 ⟨y, rfl, hown, b3⟩
  go_wp2_with fail
  refine hJ.out _ _ (trivial) (fun hSx => ?_)
  clear hJ J
  try simp only [Act.put, List.setIfInBounds_toArray, List.set_cons_zero, List.set_cons_succ]
  refine wpAnyH_ready (rs := [9]) (by kernel_rfl) (by simp) ?_
  refine (AllReadyH.cons rfl (fun J hJ => ?_) AllReadyH.nil)
  go_simp
  refine hJ.out _ _ (trivial) (fun hSx => ?_)
  clear hJ J
  try simp only [Act.put, List.setIfInBounds_toArray, List.set_cons_zero, List.set_cons_succ]
  refine wpAnyH_done (by kernel_rfl) ?_ _
  refine NoPanic.normal ?_
  clear hSx
  go_wp2
  go_ret
  exact ⟨_, rfl, ownsRow_low hown (by simp), Below.next HB.out b3⟩
end Go.Proofs.Ytjfjdidibglhaaa
