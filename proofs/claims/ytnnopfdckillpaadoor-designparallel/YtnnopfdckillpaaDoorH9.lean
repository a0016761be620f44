/- The walk of Parallel. -/
import Derived.Test.YtnnopfdckillpaaDoorH8
import Derived.Test.YtnnopfdckillpaaDoorE9
import Derived.Test.YtnnopfdckillpaaDoorLL
namespace Go.Proofs.YtnnopfdckillpaaDoor
open Go.RowKit Go.Shelf

set_option maxRecDepth 100000 in
set_option maxHeartbeats 2000000 in
theorem Parallel_bad (p : Int) (ls : List (List Int)) (v : Value) (w : World) (hv : Rw w v ls) (hl : ls.length ≤ maxLen) (hll : ∀ l ∈ ls, l.length ≤ maxLen) (hz : dF p ls ≠ 0) :
    Calls Tryd.prog 20 #[.agg #[.int .i64 p, v]] w fun e w' => e = .returned (.tuple #[.slice none 0 0, .int .i64 (dF p ls : Int)]) ∧ Below w.heap.size w w' := by
  obtain ⟨x0, x1⟩ := lv_box p v w
  have b0 := balloc w (.cells #[.int .i64 p, v] 24)
  have C1 := open_any p ls v _ (hv.below b0) hl hll
  generalize dF p ls = z at *
  have hd : ((z : Int) != 0) = true := by simp; omega
  clear hv hl hll
  go_enter Tryd.func20, Tryd.ntmps20
  go_wp2_with (go_at_call 24; refine C1.mono ?_; rintro e w3 ⟨⟨x, rfl, _, _⟩, hb3⟩; clear C1)
  exact bodyPost_ret (v := .tuple #[.slice none 0 0, .int .i64 (z : Int)]) (by simp [results, Tryd.results20, go_sem]) rfl ⟨rfl, Below.next b0 hb3⟩

set_option maxRecDepth 100000 in
set_option maxHeartbeats 2000000 in
theorem Parallel_far (v : Nat) (B : List (List Nat)) (u : Value) (w : World) (G : GoodD v B) (hu : Rw w u (toZ B)) (hv : 15 < v) :
    Calls Tryd.prog 20 #[.agg #[.int .i64 (v : Int), u]] w fun e w' => e = .returned (.tuple #[.slice none 0 0, .int .i64 3]) ∧ Below w.heap.size w w' := by
  obtain ⟨x0, x1⟩ := lv_box v u w
  have b0 := balloc w (.cells #[.int .i64 (v : Int), u] 24)
  have HC : Hid (∀ W, Below (w.alloc (.cells #[.int .i64 (v : Int), u] 24)).heap.size (w.alloc (.cells #[.int .i64 (v : Int), u] 24)) W → W.cell? ⟨w.heap.size, 0, none⟩ = some (.int .i64 (v : Int))) := fun W hW => (des_box v u w W hW).1
  have C1 := open_good v B u _ G (hu.below b0)
  have hd : decide ((v : Int) > 15) = true := by simp; omega
  have hd2 : decide ((15 : Int) < (v : Int)) = true := by simp; omega
  clear hu hv
  go_enter Tryd.func20, Tryd.ntmps20
  go_wp2_with (go_at_call 24; refine C1.mono ?_; rintro e w3 ⟨⟨x, rfl, _⟩, hb3⟩; clear C1; have y0 := HC.out _ hb3)
  exact bodyPost_ret (v := .tuple #[.slice none 0 0, .int .i64 3]) (by simp [results, Tryd.results20, go_sem]) rfl ⟨rfl, Below.next b0 hb3⟩

set_option maxRecDepth 100000 in
set_option maxHeartbeats 2000000 in
theorem Parallel_good (v : Nat) (B : List (List Nat)) (u : Value) (w : World) (hT : Tab w) (G : GoodD v B) (hu : Rw w u (toZ B)) (hv : v ≤ 15) :
    Calls Tryd.prog 20 #[.agg #[.int .i64 (v : Int), u]] w fun e w' => ((fcB v B 0 (fun _ => false) = none ∧ e = .returned (.tuple #[.slice none 0 0, .int .i64 4])) ∨ ∃ l x, fcB v B 0 (fun _ => false) = some l ∧ e = .returned (.tuple #[x, .int .i64 0]) ∧ Sl w' x (l.map Int.ofNat)) ∧ Below w.heap.size w w' := by
  obtain ⟨x0, x1⟩ := lv_box v u w
  have b0 := balloc w (.cells #[.int .i64 (v : Int), u] 24)
  have HB0 : Hid (Below w.heap.size w (w.alloc (.cells #[.int .i64 (v : Int), u] 24))) := b0
  have HC : Hid (∀ W, Below (w.alloc (.cells #[.int .i64 (v : Int), u] 24)).heap.size (w.alloc (.cells #[.int .i64 (v : Int), u] 24)) W → W.cell? ⟨w.heap.size, 0, none⟩ = some (.int .i64 (v : Int))) := fun W hW => (des_box v u w W hW).1
  have C1 := open_good v B u _ G (hu.below b0)
  have hT0 : Hid (Tab (w.alloc (.cells #[.int .i64 (v : Int), u] 24))) := hT.next b0
  have hd : decide ((v : Int) > 15) = false := by simp; omega
  have hd2 : decide ((15 : Int) < (v : Int)) = false := by simp; omega
  have CB : Hid (∀ W, Calls Tryd.prog 25 #[.int .i64 (v : Int)] W fun e w' => e = .returned (.int .u64 ((2 ^ v - 1 : Nat) : Int)) ∧ w' = W) := fun W => below_any v (by omega) W
  have hfc : fcB v B 0 (dn (2 ^ v - 1)) = fcB v B 0 (fun _ => false) := fc_congr G.bls fun x hx => by
    show (!(2 ^ v - 1).testBit x) = false
    rw [low_bit]; simp [hx]
  have CF : Hid (∀ (x : Value) (W : World), Tab W → SC W x (B.map sb) → Calls Tryd.prog 36 #[.int .u64 ((2 ^ v - 1 : Nat) : Int), x] W fun e w' => ((fcB v B 0 (fun _ => false) = none ∧ e = .returned (.tuple #[.slice none 0 0, .bool false])) ∨ ∃ l x, fcB v B 0 (fun _ => false) = some l ∧ e = .returned (.tuple #[x, .bool true]) ∧ Sl w' x (l.map Int.ofNat)) ∧ Below W.heap.size W w') := fun x W hTW hx => by
    have := firstCut_any v B G hv x W hTW hx
    rw [hfc] at this
    refine this.mono ?_
    rintro e w' ⟨h | ⟨l, y, h1, h2, h3⟩, hb⟩
    · exact ⟨.inl h, hb⟩
    · exact ⟨.inr ⟨l, y, h1, h2, Sl.owned (by rw [List.length_map]; exact h3)⟩, hb⟩
  obtain ⟨al, Hal⟩ : ∃ al, Hid (2 ^ v - 1 = al) := ⟨_, (rfl : 2 ^ v - 1 = 2 ^ v - 1)⟩
  rw [Hal.out] at CB CF
  obtain ⟨F, HF⟩ : ∃ F, Hid (fcB v B 0 (fun _ => false) = F) := ⟨_, rfl⟩
  rw [HF.out] at CF ⊢
  clear hu hv hfc Hal HF b0
  go_enter Tryd.func20, Tryd.ntmps20
  go_wp2_with (first
    | (go_at_call 24; refine C1.mono ?_; rintro e w3 ⟨⟨x, rfl, hrow⟩, hb3⟩; clear C1; have y0 := HC.out _ hb3; have HROW : Hid (SC w3 x (B.map sb)) := SRow.sc hrow; clear hrow)
    | (go_at_call 25; refine (CB.out _).mono ?_; rintro e w4 ⟨rfl, hw4⟩; replace hw4 := hw4.symm; subst hw4)
    | (go_at_call 36; refine (CF.out _ _ (hT0.out.next hb3) HROW.out).mono ?_; rintro e w5 ⟨⟨hF, rfl⟩ | ⟨l, y, hF, rfl, hy⟩, hb5⟩))
  · exact bodyPost_ret (v := .tuple #[.slice none 0 0, .int .i64 4]) (by simp [results, Tryd.results20, go_sem]) rfl ⟨.inl ⟨hF, rfl⟩, Below.next HB0.out (Below.next hb3 hb5)⟩
  · exact bodyPost_ret (v := .tuple #[y, .int .i64 0]) (by simp [results, Tryd.results20, go_sem]) rfl ⟨.inr ⟨l, _, hF, rfl, hy⟩, Below.next HB0.out (Below.next hb3 hb5)⟩

end Go.Proofs.YtnnopfdckillpaaDoor
