/- The faces of the group, where something is wrong; order, Order, Has. -/
import Derived.Test.YtmaplmgecohjbaaG36
import Derived.Test.YtmaplmgecohjbaaG37
namespace Go.Proofs.Ytmaplmgecohjbaa
open Go.RowKit Go.Maps

theorem order_any (base G : Nat) (L : List (List Nat)) (w : World) (hM : Mem base w G L) (h0 : 0 < L.length) :
    Calls Try.prog 53 #[.pointer (some ⟨G, 0, none⟩)] w fun e w' => e = .returned (.int .i64 (L.length : Int)) ∧ w' = w := by
  obtain ⟨g, cap, hc, _, hG, _, _, _⟩ := hM.open h0
  obtain ⟨r, Hr⟩ : ∃ r, Hid (L.length = r) := ⟨_, rfl⟩
  rw [Hr.out] at hc ⊢
  clear hM h0
  go_enter Try.func53, Try.ntmps53
  go_wp2
  go_ret
  exact ⟨rfl, rfl⟩
/-- As many as there are. -/
theorem gen_len {n : Nat} {ms L : List (List Nat)} (hm : ∀ m ∈ ms, IsP n m) (nd : L.Nodup) (h : ∀ a, a ∈ L ↔ Gen n ms a) : L.length = (els n (Gen n ms)).length :=
  List.Perm.length_eq ((List.perm_ext_iff_of_nodup nd (els_nodup _ _)).2 fun a => by rw [h a, (gen_grp hm).mem])
theorem gen_perm {n : Nat} {ms L : List (List Nat)} (hm : ∀ m ∈ ms, IsP n m) (nd : L.Nodup) (h : ∀ a, a ∈ L ↔ Gen n ms a) : L.Perm (els n (Gen n ms)) :=
  (List.perm_ext_iff_of_nodup nd (els_nodup _ _)).2 fun a => by rw [h a, (gen_grp hm).mem]
theorem gen_bound {n : Nat} {ms L : List (List Nat)} (hm : ∀ m ∈ ms, IsP n m) (hn : n ≤ 7) (nd : L.Nodup) (h : ∀ a, a ∈ L ↔ Gen n ms a) : 0 < L.length ∧ L.length ≤ 5040 := by
  have hS : MadeS n ms L := ⟨nd, (h _).2 .one, fun a ha => (h a).1 ha⟩
  exact ⟨List.length_pos_iff.2 (fun e => by have := hS.one; rw [e] at this; cases this), hS.len hm hn⟩
/-- How many members. -/
noncomputable def ordG (n : Nat) (ms : List (List Nat)) : Nat := (els n (Gen n ms)).length
/-- The makers, as they lie in memory, and what is known of them. -/
structure Mk (n : Nat) (ms : List (List Nat)) (v : Value) (w : World) : Prop where
  n1 : 1 ≤ n
  n7 : n ≤ 7
  len : ms.length ≤ 4
  isP : ∀ m ∈ ms, IsP n m
  sl : SlSl w v ms
theorem Mk.below {n : Nat} {ms : List (List Nat)} {v : Value} {w w' : World} (h : Mk n ms v w) (hb : Below w.heap.size w w') : Mk n ms v w' := ⟨h.n1, h.n7, h.len, h.isP, h.sl.below hb⟩
theorem Mk.check {n : Nat} {ms : List (List Nat)} {v : Value} {w : World} (h : Mk n ms v w) : Calls Try.prog 34 #[.int .i64 (n : Int), v] w fun e w' => e = .returned (.int .i64 0) ∧ Below w.heap.size w w' := by
  have := GCheck_any n _ v w h.sl.sls (fun l hl => by
    obtain ⟨m, hm, rfl⟩ := List.mem_map.1 hl
    rw [List.length_map, (h.isP m hm).len]; have := h.n7; unfold maxLen; omega) (by rw [List.length_map]; have := h.len; unfold maxLen; omega)
  rw [gF_isP h.n1 h.n7 h.len h.isP] at this
  exact this
theorem Mk.moves {n : Nat} {ms : List (List Nat)} {v : Value} {w : World} (h : Mk n ms v w) : Calls Try.prog 52 #[v] w fun e w' => (∃ x, e = .returned x ∧ Mvs w' x (ms.map (ext n))) ∧ Below w.heap.size w w' :=
  movesOf_any n ms v w h.n7 h.n1 h.len h.sl h.isP
theorem Mk.made {n : Nat} {ms : List (List Nat)} {v : Value} {w : World} (h : Mk n ms v w) (x : Value) (W : World) (hx : Mvs W x (ms.map (ext n))) : Calls Try.prog 51 #[x] W fun e w' => (∃ (G : Nat) (L : List (List Nat)), e = .returned (.pointer (some ⟨G, 0, none⟩)) ∧ Mem W.heap.size w' G (L.map (ext n)) ∧ L.Nodup ∧ ∀ a, a ∈ L ↔ Gen n ms a) ∧ Below W.heap.size W w' :=
  made_any n ms x W h.n7 (by have := h.len; omega) hx h.isP

set_option maxRecDepth 100000 in
set_option maxHeartbeats 1000000 in
theorem Order_ok (n : Nat) (ms : List (List Nat)) (v : Value) (w : World) (h : Mk n ms v w) :
    Calls Try.prog 26 #[.int .i64 (n : Int), v] w fun e w' => e = .returned (.tuple #[.int .i64 (ordG n ms : Int), .int .i64 0]) ∧ Below w.heap.size w w' := by
  have C1 := h.check
  have C2 := fun W (hb : Below w.heap.size w W) => (h.below hb).moves
  have C3 := fun x W hx => h.made x W hx
  have C4 := fun base G (L : List (List Nat)) W (hM : Mem base W G (L.map (ext n))) (nd : L.Nodup) (hg : ∀ a, a ∈ L ↔ Gen n ms a) => order_any base G _ W hM (by rw [List.length_map]; exact (gen_bound h.isP h.n7 nd hg).1)
  have e1 : ∀ (L : List (List Nat)), L.Nodup → (∀ a, a ∈ L ↔ Gen n ms a) → (L.map (ext n)).length = ordG n ms := fun L nd hg => by rw [List.length_map]; exact gen_len h.isP nd hg
  have E1 : Hid (∀ (L : List (List Nat)), L.Nodup → (∀ a, a ∈ L ↔ Gen n ms a) → (L.map (ext n)).length = ordG n ms) := e1
  clear e1 h
  go_enter Try.func26, Try.ntmps26
  go_wp2_with (first
    | (go_at_call 34; refine C1.mono ?_; rintro e w1 ⟨rfl, b1⟩)
    | (go_at_call 52; refine (C2 _ b1).mono ?_; rintro e w2 ⟨⟨x, rfl, hx⟩, b2⟩; replace b2 := Below.next b1 b2)
    | (go_at_call 51; refine (C3 _ _ hx).mono ?_; rintro e w3 ⟨⟨G, L, rfl, hM, nd, hg⟩, b3⟩; replace b3 := Below.next b2 b3)
    | (go_at_call 53; refine (C4 _ _ _ _ hM nd hg).mono ?_; rw [E1.out L nd hg]; rintro e w4 ⟨rfl, rfl⟩))
  exact bodyPost_ret (v := .tuple #[.int .i64 (ordG n ms : Int), .int .i64 0]) (by simp [results, Try.results26, go_sem]) rfl ⟨rfl, b3⟩

set_option maxRecDepth 100000 in
theorem Order_bad (n : Int) (ls : List (List Int)) (v : Value) (w : World) (hv : Sls w v ls) (hls : ∀ l ∈ ls, l.length ≤ maxLen) (hlm : ls.length ≤ maxLen) (z : Int) (hz : gF n ls = z) (h0 : z ≠ 0) :
    Calls Try.prog 26 #[.int .i64 n, v] w fun e w' => e = .returned (.tuple #[.int .i64 0, .int .i64 z]) ∧ Below w.heap.size w w' := by
  have C := GCheck_any n ls v w hv hls hlm
  rw [hz] at C
  have hzd : (z != 0) = true := by simpa using h0
  obtain ⟨a, cap, rfl, _⟩ := hv
  clear h0 hz
  go_enter Try.func26, Try.ntmps26
  go_wp2_with (first | (go_at_call 34; refine C.mono ?_; rintro e w1 ⟨rfl, b1⟩))
  exact bodyPost_ret (v := .tuple #[.int .i64 0, .int .i64 z]) (by simp [results, Try.results26, go_sem]) rfl ⟨rfl, b1⟩

end Go.Proofs.Ytmaplmgecohjbaa
