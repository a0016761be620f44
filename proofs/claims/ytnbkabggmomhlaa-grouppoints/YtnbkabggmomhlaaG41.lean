/- The walks of list, Element. -/
import Derived.Test.YtnbkabggmomhlaaG12
namespace Go.Proofs.Ytnbkabggmomhlaa
open Go.RowKit

theorem sizeOf3' (w : World) : (Go.sizeOf 3).run Try.prog w = .ok 1 w := by kernel_rfl

set_option maxRecDepth 100000 in
set_option maxHeartbeats 1000000 in
theorem list_any (n : Nat) (a : List Nat) (w : World) (hn : n ≤ 7) (ha : a.length = n) :
    Calls Try.prog 41 #[mv (ext n a), .int .i64 (n : Int)] w fun e w' => (∃ y, e = .returned y ∧ Sl w' y (a.map Int.ofNat)) ∧ Below w.heap.size w w' := by
  obtain ⟨i3, ti, tz0, tz1, tz2⟩ := info3
  have hk0 := MRow.made 62 w (fun j => ((ext n a).getD j 0 : Int))
  have hB0 := balloc w (.cells (mrow fun j => ((ext n a).getD j 0 : Int)) 62)
  have hnews : ∀ j u, (vl a)[j]? = some u → (w.alloc (.cells (mrow fun j => ((ext n a).getD j 0 : Int)) 62)).cell? ⟨w.heap.size, 0 + j, none⟩ = some u := fun j u hu => by
    have hj : j < n := by have := (List.getElem?_eq_some_iff.1 hu).1; simp [vl] at this; omega
    rw [Nat.zero_add, hk0.cell j (by omega), ext_lo hn a hj]
    have hj' : j < a.length := by omega
    simp [vl, hj'] at hu ⊢
    exact hu
  have C := AnyE.slices_Clone cloneInt i3 (.int .i64 0) 1 8 ti tz0 tz1 tz2 (by simp [Value.cells]) (by omega) sizeOf3' w.heap.size 0 n 7 (vl a) _ (by simp [vl, ha]) (by unfold maxLen; omega) (by omega) hnews (fun u hu => by
    simp only [vl, List.mem_map] at hu
    obtain ⟨x, _, rfl⟩ := hu
    rfl)
  change Calls Try.prog 64 _ _ _ at C
  have C' := C.mono (R' := fun e w' => (∃ y, e = .returned y ∧ Sl w' y (a.map Int.ofNat)) ∧ Below w.heap.size w w') (fun e w' ⟨v', h1, h2, _, h4⟩ => ⟨⟨v', h1, own_vl h2 ha⟩, Below.next hB0 h4⟩)
  clear C hnews ti tz0 tz1 tz2
  unfold mv
  obtain ⟨F, HF⟩ : ∃ F : Nat → Int, Hid ((fun j => ((ext n a).getD j 0 : Int)) = F) := ⟨_, rfl⟩
  rw [HF.out] at C' hk0 hB0 ⊢
  have hn0 : (0 : Int) ≤ (n : Int) := by omega
  have hn7 : (n : Int) ≤ 7 := by omega
  go_enter Try.func41, Try.ntmps41
  go_wp2_with (first
    | (go_at_call 64; refine C'.mono ?_; rintro e w1 ⟨⟨y, rfl, hy⟩, b1⟩))
  go_ret
  exact ⟨⟨y, rfl, hy⟩, b1⟩

theorem sorted_els {n : Nat} {ms L M : List (List Nat)} (hm : ∀ m ∈ ms, IsP n m) (hn : n ≤ 7) (nd : L.Nodup) (hg : ∀ a, a ∈ L ↔ Gen n ms a) (hp : M.Perm (L.map (ext n))) (hs : M.Pairwise fun a b => ¬ LexLt 7 (fun i => b.getD i 0) (fun i => a.getD i 0)) : M = (els n (Gen n ms)).map (ext n) := by
  have hp2 : M.Perm ((els n (Gen n ms)).map (ext n)) := hp.trans ((gen_perm hm nd hg).map _)
  refine lex_sorted_eq hp2 (fun a ha => ?_) hs ?_
  · obtain ⟨b, _, rfl⟩ := List.mem_map.1 (hp.mem_iff.1 ha)
    exact ext_len _ _
  · rw [List.pairwise_map]
    refine List.Pairwise.imp (fun {a b} h h2 => ?_) (els_lex n (Gen n ms))
    exact LexLt.irrefl ((ext_lex hn h).trans h2)
theorem ord_le' {n : Nat} {ms : List (List Nat)} (hm : ∀ m ∈ ms, IsP n m) (hn : n ≤ 7) : ordG n ms ≤ 5040 := (gen_bound hm hn (els_nodup n (Gen n ms)) (fun _ => (gen_grp hm).mem)).2
theorem els_at {n : Nat} {ms : List (List Nat)} {k : Nat} (hk : k < ordG n ms) : ∃ a, (els n (Gen n ms))[k]? = some a ∧ IsP n a ∧ Gen n ms a := by
  unfold ordG at hk
  refine ⟨(els n (Gen n ms))[k], List.getElem?_eq_getElem hk, ?_, ?_⟩
  · exact (mem_els.1 (List.getElem_mem hk)).1
  · exact (mem_els.1 (List.getElem_mem hk)).2

set_option maxRecDepth 100000 in
set_option maxHeartbeats 2000000 in
theorem Element_ok (n k : Nat) (ms : List (List Nat)) (a : List Nat) (v : Value) (w : World) (h : Mk n ms v w) (hk : k < ordG n ms) (ha : (els n (Gen n ms))[k]? = some a) (hap : IsP n a) :
    Calls Try.prog 12 #[.int .i64 (n : Int), v, .int .i64 (k : Int)] w fun e w' => (∃ y, e = .returned (.tuple #[y, .int .i64 0]) ∧ Sl w' y (a.map Int.ofNat)) ∧ Below w.heap.size w w' := by
  have C1 := h.check
  have C2 := fun W (hb : Below w.heap.size w W) => (h.below hb).moves
  have C3 := fun x W hx => h.made x W hx
  have C4 := fun base G (L : List (List Nat)) W (hM : Mem base W G (L.map (ext n))) (nd : L.Nodup) (hg : ∀ a, a ∈ L ↔ Gen n ms a) => order_any base G _ W hM (by rw [List.length_map]; exact (gen_bound h.isP h.n7 nd hg).1)
  have E1 : Hid (∀ (L : List (List Nat)), L.Nodup → (∀ a, a ∈ L ↔ Gen n ms a) → (L.map (ext n)).length = ordG n ms) := fun L nd hg => by rw [List.length_map]; exact gen_len h.isP nd hg
  have C5 := fun base G (L : List (List Nat)) W (hM : Mem base W G (L.map (ext n))) (nd : L.Nodup) (hg : ∀ a, a ∈ L ↔ Gen n ms a) => (inOrder_any base G _ W hM (by rw [List.length_map]; exact (gen_bound h.isP h.n7 nd hg).1) (by rw [List.length_map]; have := (gen_bound h.isP h.n7 nd hg).2; omega)).mono (R' := fun e w' => (∃ b off c, e = .returned (.slice (some ⟨b, off, none⟩) (ordG n ms) c) ∧ b < w'.heap.size ∧ w'.rangeAt b (off + k * 7) (mvL (ext n a))) ∧ Below W.heap.size W w') (fun e w' ⟨⟨x, M', h1, h2, h3, h4⟩, h5⟩ => by
    have e1 := sorted_els h.isP h.n7 nd hg h3 h4
    subst e1
    obtain ⟨xa, xc, e2, h6⟩ := h2
    obtain ⟨b, off, e3, h7, h8⟩ := h6 k (ext n a) (by rw [List.getElem?_map, ha]; rfl)
    refine ⟨⟨b, off, xc, ?_, h7, h8⟩, h5⟩
    rw [h1, e2, e3, List.length_map]; rfl)
  have C6 := fun W => list_any n a W h.n7 hap.len
  simp only [mv_eq] at C6
  have hinf := inf62L (ext n a)
  have hob := (ord_le' h.isP h.n7)
  obtain ⟨X, HX⟩ : ∃ X, Hid (mvL (ext n a) = X) := ⟨_, rfl⟩
  rw [HX.out] at C5 C6 hinf
  obtain ⟨o, Ho⟩ : ∃ o, Hid (ordG n ms = o) := ⟨_, rfl⟩
  rw [Ho.out] at C5 E1 hk hob
  have hki : (k : Int) < (o : Int) := by omega
  have hd : decide ((k : Int) < 0) = false := decide_eq_false (by omega)
  have hd2 : decide ((o : Int) ≤ (k : Int)) = false := decide_eq_false (by omega)
  clear h ha hap
  go_enter Try.func12, Try.ntmps12
  go_wp2_with (first
    | (go_at_call 10; refine C1.mono ?_; rintro e w1 ⟨rfl, b1⟩)
    | (go_at_call 38; refine (C2 _ b1).mono ?_; rintro e w2 ⟨⟨x, rfl, hx⟩, b2⟩; replace b2 := Below.next b1 b2)
    | (go_at_call 37; refine (C3 _ _ hx).mono ?_; rintro e w3 ⟨⟨G, L, rfl, hM, nd, hg⟩, b3⟩; replace b3 := Below.next b2 b3)
    | (go_at_call 39; refine (C4 _ _ _ _ hM nd hg).mono ?_; rw [E1.out L nd hg]; rintro e w4 ⟨rfl, h⟩; replace h := h.symm; subst h)
    | (go_at_call 40; refine (C5 _ _ _ _ hM nd hg).mono ?_; rintro e w5 ⟨⟨b, off, c, rfl, hbl, hr5⟩, b5⟩; replace b5 := Below.next b3 b5)
    | (refine wpList_load_mid rfl 62 _ rfl b (off + k * 7) rfl X _ hr5 und62 rfl hinf ?_)
    | (go_at_call 41; refine (C6 _).mono ?_; rintro e w6 ⟨⟨y, rfl, hy⟩, b6⟩; replace b6 := Below.next b5 b6))
  exact bodyPost_ret (v := .tuple #[y, .int .i64 0]) (by simp [results, Try.results12, go_sem]) rfl ⟨⟨y, rfl, hy⟩, b6⟩

set_option maxRecDepth 100000 in
set_option maxHeartbeats 2000000 in
theorem Element_far (n : Nat) (k : Int) (ms : List (List Nat)) (v : Value) (w : World) (h : Mk n ms v w) (hk : k < 0 ∨ (ordG n ms : Int) ≤ k) :
    Calls Try.prog 12 #[.int .i64 (n : Int), v, .int .i64 k] w fun e w' => e = .returned (.tuple #[.slice none 0 0, .int .i64 1]) ∧ Below w.heap.size w w' := by
  have C1 := h.check
  have C2 := fun W (hb : Below w.heap.size w W) => (h.below hb).moves
  have C3 := fun x W hx => h.made x W hx
  have C4 := fun base G (L : List (List Nat)) W (hM : Mem base W G (L.map (ext n))) (nd : L.Nodup) (hg : ∀ a, a ∈ L ↔ Gen n ms a) => order_any base G _ W hM (by rw [List.length_map]; exact (gen_bound h.isP h.n7 nd hg).1)
  have E1 : Hid (∀ (L : List (List Nat)), L.Nodup → (∀ a, a ∈ L ↔ Gen n ms a) → (L.map (ext n)).length = ordG n ms) := fun L nd hg => by rw [List.length_map]; exact gen_len h.isP nd hg
  obtain ⟨o, Ho⟩ : ∃ o, Hid (ordG n ms = o) := ⟨_, rfl⟩
  rw [Ho.out] at E1 hk
  clear h
  by_cases h0 : k < 0
  · have hd : decide (k < 0) = true := decide_eq_true h0
    go_enter Try.func12, Try.ntmps12
    go_wp2_with (first
      | (go_at_call 10; refine C1.mono ?_; rintro e w1 ⟨rfl, b1⟩)
      | (go_at_call 38; refine (C2 _ b1).mono ?_; rintro e w2 ⟨⟨x, rfl, hx⟩, b2⟩; replace b2 := Below.next b1 b2)
      | (go_at_call 37; refine (C3 _ _ hx).mono ?_; rintro e w3 ⟨⟨G, L, rfl, hM, nd, hg⟩, b3⟩; replace b3 := Below.next b2 b3))
    exact bodyPost_ret (v := .tuple #[.slice none 0 0, .int .i64 1]) (by simp [results, Try.results12, go_sem]) rfl ⟨rfl, b3⟩
  · have hd : decide (k < 0) = false := decide_eq_false h0
    have hd2 : decide ((o : Int) ≤ k) = true := decide_eq_true (by omega)
    clear hk h0
    go_enter Try.func12, Try.ntmps12
    go_wp2_with (first
      | (go_at_call 10; refine C1.mono ?_; rintro e w1 ⟨rfl, b1⟩)
      | (go_at_call 38; refine (C2 _ b1).mono ?_; rintro e w2 ⟨⟨x, rfl, hx⟩, b2⟩; replace b2 := Below.next b1 b2)
      | (go_at_call 37; refine (C3 _ _ hx).mono ?_; rintro e w3 ⟨⟨G, L, rfl, hM, nd, hg⟩, b3⟩; replace b3 := Below.next b2 b3)
      | (go_at_call 39; refine (C4 _ _ _ _ hM nd hg).mono ?_; rw [E1.out L nd hg]; rintro e w4 ⟨rfl, h⟩; replace h := h.symm; subst h))
    exact bodyPost_ret (v := .tuple #[.slice none 0 0, .int .i64 1]) (by simp [results, Try.results12, go_sem]) rfl ⟨rfl, b3⟩

end Go.Proofs.Ytnbkabggmomhlaa
