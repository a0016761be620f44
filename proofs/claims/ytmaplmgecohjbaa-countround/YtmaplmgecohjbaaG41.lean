/- The walks of list, Element. -/
import Derived.Test.YtmaplmgecohjbaaG12
namespace Go.Proofs.Ytmaplmgecohjbaa
open Go.RowKit

theorem sizeOf3' (w : World) : (Go.sizeOf 3).run Try.prog w = .ok 1 w := by kernel_rfl

set_option maxRecDepth 100000 in
set_option maxHeartbeats 1000000 in
theorem list_any (n : Nat) (a : List Nat) (w : World) (hn : n ≤ 7) (ha : a.length = n) :
    Calls Try.prog 77 #[mv (ext n a), .int .i64 (n : Int)] w fun e w' => (∃ y, e = .returned y ∧ Sl w' y (a.map Int.ofNat)) ∧ Below w.heap.size w w' := by
  obtain ⟨i3, ti, tz0, tz1, tz2⟩ := info3
  have hk0 := MRow.made 90 w (fun j => ((ext n a).getD j 0 : Int))
  have hB0 := balloc w (.cells (mrow fun j => ((ext n a).getD j 0 : Int)) 90)
  have hnews : ∀ j u, (vl a)[j]? = some u → (w.alloc (.cells (mrow fun j => ((ext n a).getD j 0 : Int)) 90)).cell? ⟨w.heap.size, 0 + j, none⟩ = some u := fun j u hu => by
    have hj : j < n := by have := (List.getElem?_eq_some_iff.1 hu).1; simp [vl] at this; omega
    rw [Nat.zero_add, hk0.cell j (by omega), ext_lo hn a hj]
    have hj' : j < a.length := by omega
    simp [vl, hj'] at hu ⊢
    exact hu
  have C := AnyE.slices_Clone cloneInt i3 (.int .i64 0) 1 8 ti tz0 tz1 tz2 (by simp [Value.cells]) (by omega) sizeOf3' w.heap.size 0 n 7 (vl a) _ (by simp [vl, ha]) (by unfold maxLen; omega) (by omega) hnews (fun u hu => by
    simp only [vl, List.mem_map] at hu
    obtain ⟨x, _, rfl⟩ := hu
    rfl)
  change Calls Try.prog 70 _ _ _ at C
  have C' := C.mono (R' := fun e w' => (∃ y, e = .returned y ∧ Sl w' y (a.map Int.ofNat)) ∧ Below w.heap.size w w') (fun e w' ⟨v', h1, h2, _, h4⟩ => ⟨⟨v', h1, own_vl h2 ha⟩, Below.next hB0 h4⟩)
  clear C hnews ti tz0 tz1 tz2
  unfold mv
  obtain ⟨F, HF⟩ : ∃ F : Nat → Int, Hid ((fun j => ((ext n a).getD j 0 : Int)) = F) := ⟨_, rfl⟩
  rw [HF.out] at C' hk0 hB0 ⊢
  have hn0 : (0 : Int) ≤ (n : Int) := by omega
  have hn7 : (n : Int) ≤ 7 := by omega
  go_enter Try.func77, Try.ntmps77
  go_wp2_with (first
    | (go_at_call 70; refine C'.mono ?_; rintro e w1 ⟨⟨y, rfl, hy⟩, b1⟩))
  go_ret
  exact ⟨⟨y, rfl, hy⟩, b1⟩

theorem sorted_els {n : Nat} {ms L M : List (List Nat)} (hm : ∀ m ∈ ms, IsP n m) (hn : n ≤ 7) (nd : L.Nodup) (hg : ∀ a, a ∈ L ↔ Gen n ms a) (hp : M.Perm (L.map (ext n))) (hs : M.Pairwise fun a b => ¬ LexLt 7 (fun i => b.getD i 0) (fun i => a.getD i 0)) : M = (els n (Gen n ms)).map (ext n) := by
  have hp2 : M.Perm ((els n (Gen n ms)).map (ext n)) := hp.trans ((gen_perm hm nd hg).map _)
  refine lex_sorted_eq hp2 (fun a ha => ?_) hs ?_
  · obtain ⟨b, _, rfl⟩ := List.mem_map.1 (hp.mem_iff.1 ha)
    exact ext_len _ _
  · rw [List.pairwise_map]
    refine List.Pairwise.imp (fun {a b} h h2 => ?_) (els_lex n (Gen n ms))
    exact LexLt.irrefl ((ext_lex hn h).trans h2)
theorem ord_le' {n : Nat} {ms : List (List Nat)} (hm : ∀ m ∈ ms, IsP n m) (hn : n ≤ 7) : ordG n ms ≤ 5040 := (gen_bound hm hn (els_nodup n (Gen n ms)) (fun _ => (gen_grp hm).mem)).2
theorem els_at {n : Nat} {ms : List (List Nat)} {k : Nat} (hk : k < ordG n ms) : ∃ a, (els n (Gen n ms))[k]? = some a ∧ IsP n a ∧ Gen n ms a := by
  unfold ordG at hk
  refine ⟨(els n (Gen n ms))[k], List.getElem?_eq_getElem hk, ?_, ?_⟩
  · exact (mem_els.1 (List.getElem_mem hk)).1
  · exact (mem_els.1 (List.getElem_mem hk)).2

end Go.Proofs.Ytmaplmgecohjbaa
