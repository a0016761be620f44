/- The walk of Check. -/
import Derived.Test.YtjfjdidibglhaabDoorDLx
import Derived.Test.YtjfjdidibglhaabDoorF1
import Derived.Test.YtjfjdidibglhaabDoorDMe
import Derived.Test.YtjfjdidibglhaabDoorRY
import Derived.Maps.AppendAt
import Derived.Test.YtjfjdidibglhaabDoorP14
import Derived.Test.YtjfjdidibglhaabDoorPlT
/- The law DesignLevels. -/
/- The walk of together. -/
namespace Go.Proofs.YtjfjdidibglhaabDoor
open Go.RowKit Go.Shelf

attribute [local go_sem] Oper.semAt_some

def hN (S : List Nat) (s : Nat) : Nat := S.countP fun b => decide (an s b = 0)

theorem res_two {fn : Func} {a b : Tmp} {tmps : Array Value} {w : World} {g1 g2 : Nat} {x : Int} {q : Bool} (h : fn.results = #[.cell a 3, .cell b 4]) (p1 : tmps.getD a undef = .pointer (some ⟨g1, 0, none⟩)) (p2 : tmps.getD b undef = .pointer (some ⟨g2, 0, none⟩)) (h1 : Boxed w g1 3 (.int .i64 x)) (h2 : Boxed w g2 4 (.bool q)) :
    (results fn tmps).run Tryd.prog w = .ok (.tuple #[.int .i64 x, .bool q]) w := by
  have e1 := h1.cell
  have e2 := h2.cell
  rw [Array.getD_eq_getD_getElem?] at p1 p2
  simp [results, h, go_sem, p1, p2, e1, e2]

/-- What together holds. -/
structure TgI (w w3 : World) (u r6 r7 : Value) (lam : Nat) (B : World) : Prop where
  b5 : Boxed B w.heap.size 70 u
  b6 : Boxed B (w.heap.size + 1) 3 r6
  b7 : Boxed B (w.heap.size + 1 + 1) 4 r7
  b8 : Boxed B w3.heap.size 3 (.int .i64 (lam : Int))
  bw : Below w.heap.size w B
theorem TgI.mv {w w3 A B : World} {u r6 r7 : Value} {lam : Nat} (h : TgI w w3 u r6 r7 lam A) (k : Below (w3.heap.size + 1) A B) (h3 : w3.heap.size = w.heap.size + 3) : TgI w w3 u r6 r7 lam B :=
  ⟨boxBelow h.b5 k (by omega), boxBelow h.b6 k (by omega), boxBelow h.b7 k (by omega), boxBelow h.b8 k (by omega), h.bw.trans (k.mono (by omega))⟩

set_option maxRecDepth 100000 in
set_option maxHeartbeats 8000000 in
theorem together_any (v t : Nat) (S : List Nat) (u : Value) (w : World) (hv : v ≤ 40) (ht : t ≤ 4) (hu : SS w u S) (hl : S.length ≤ 200) (hS : ∀ x ∈ S, x < 2 ^ 64) :
    Calls Tryd.prog 38 #[.int .i64 (v : Int), .int .i64 (t : Int), u] w fun e w' => ((e = .returned (.tuple #[.int .i64 (hN S (2 ^ t - 1) : Int), .bool true]) ∧ ∀ s ∈ chL t v, hN S s = hN S (2 ^ t - 1)) ∨ (e = .returned (.tuple #[.int .i64 0, .bool false]) ∧ ∃ s ∈ chL t v, hN S s ≠ hN S (2 ^ t - 1))) ∧ Below w.heap.size w w' := by
  refine (callsIn_wide (n := 4)).1 ?_
  have hu0 := hu
  obtain ⟨ua, uc, eu, _⟩ := hu0
  have hb3 : Below w.heap.size w (((w.alloc (.cells #[u] 70)).alloc (.cells #[.int .i64 0] 3)).alloc (.cells #[.bool false] 4)) := ((balloc w _).alloc (by simp) _).alloc (by simp; omega) _
  have f5 : Boxed (((w.alloc (.cells #[u] 70)).alloc (.cells #[.int .i64 0] 3)).alloc (.cells #[.bool false] 4)) w.heap.size 70 u := ((Boxed.new w 70 u).alloc _).alloc _
  have f6 : Boxed (((w.alloc (.cells #[u] 70)).alloc (.cells #[.int .i64 0] 3)).alloc (.cells #[.bool false] 4)) (w.heap.size + 1) 3 (.int .i64 0) := by
    have h := Boxed.new (w.alloc (.cells #[u] 70)) 3 (.int .i64 0)
    rw [World.size_alloc] at h
    exact h.alloc _
  have f7 : Boxed (((w.alloc (.cells #[u] 70)).alloc (.cells #[.int .i64 0] 3)).alloc (.cells #[.bool false] 4)) (w.heap.size + 1 + 1) 4 (.bool false) := by
    have h := Boxed.new ((w.alloc (.cells #[u] 70)).alloc (.cells #[.int .i64 0] 3)) 4 (.bool false)
    rw [World.size_alloc, World.size_alloc] at h
    exact h
  have s3 : (((w.alloc (.cells #[u] 70)).alloc (.cells #[.int .i64 0] 3)).alloc (.cells #[.bool false] 4)).heap.size = w.heap.size + 3 := by simp
  obtain ⟨w3, Hw3⟩ : ∃ w3, Hid (w3 = ((w.alloc (.cells #[u] 70)).alloc (.cells #[.int .i64 0] 3)).alloc (.cells #[.bool false] 4)) := ⟨_, rfl⟩
  rw [← Hw3.out] at hb3 f5 f6 f7 s3
  have HH : Hid (∀ (s : Nat) C, s < 2 ^ 64 → Below w.heap.size w C → Calls Tryd.prog 77 #[u, .int .u64 (s : Int)] C fun e w' => e = .returned (.int .i64 (hN S s : Int)) ∧ w' = C) := fun s C hs hb => holding_any S s u C (hu.below hb) hl hs hS
  have HB : Hid (∀ C, Calls Tryd.prog 78 #[.int .i64 (t : Int)] C fun e w' => e = .returned (.int .u64 ((2 ^ t - 1 : Nat) : Int)) ∧ w' = C) := fun C => below_any t (by omega) C
  have h64 : 2 ^ t - 1 < 2 ^ 64 := by have := pow_lt64 (n := t) (m := 64) (by omega); omega
  obtain ⟨m, Hm⟩ : ∃ m, Hid (m = 2 ^ t - 1) := ⟨_, (rfl : 2 ^ t - 1 = 2 ^ t - 1)⟩
  rw [← Hm.out] at HB h64 ⊢
  obtain ⟨lam, Hlam⟩ : ∃ lam, Hid (hN S m = lam) := ⟨_, rfl⟩
  rw [Hlam.out]
  have HS3 : Hid (w3.heap.size = w.heap.size + 3) := s3
  have q5 := f5.cell
  have q5d : w3.drew.cell? ⟨w.heap.size, 0, none⟩ = some u := q5
  have q5a : (w3.alloc (.cells #[.int .i64 0] 3)).cell? ⟨w.heap.size, 0, none⟩ = some u := (f5.alloc _).cell
  have C20 : Calls Tryd.prog 77 #[u, .int .u64 (m : Int)] w3.drew fun e w' => e = .returned (.int .i64 (lam : Int)) ∧ w' = w3.drew := by rw [← Hlam.out]; exact HH.out m _ h64 (bdrewN hb3 1)
  have C20a : Calls Tryd.prog 77 #[u, .int .u64 (m : Int)] ((w3.alloc (.cells #[.int .i64 0] 3)).drew) fun e w' => e = .returned (.int .i64 (lam : Int)) ∧ w' = (w3.alloc (.cells #[.int .i64 0] 3)).drew := by rw [← Hlam.out]; exact HH.out m _ h64 (bdrewN (hb3.alloc (by have := HS3.out; omega) _) 1)
  clear s3
  subst eu
  generalize S.length = sl at *
  refine callsIn_of_wp_marks Tryd.func38 rfl trivial ?_ rfl
  simp only [Tryd.ntmps38, List.size_toArray, List.length_cons, List.length_nil, Nat.reduceAdd, Nat.reduceSub, Array.replicate_succ, Array.replicate_zero, List.push_toArray, List.append_toArray, List.nil_append, List.cons_append]
  gi_wp2
  rw [← Hw3.out]
  refine wpIn_mono (Q := fun e a' w' => e = .normal ∧ a' = { tmps := #[.int .i64 (v : Int), .int .i64 (t : Int), .slice ua sl uc, undef, undef, .pointer (some ⟨w.heap.size, 0, none⟩), .pointer (some ⟨w.heap.size + 1, 0, none⟩), .pointer (some ⟨w.heap.size + 1 + 1, 0, none⟩), .pointer (some ⟨w3.heap.size, 0, none⟩), undef, .slice ua sl uc, .int .i64 (t : Int), .int .u64 (m : Int), .int .i64 (lam : Int), undef, undef, undef, undef, undef, undef, undef, undef, undef, undef], defers := [] } ∧ w' = (w3.alloc (.cells #[.int .i64 (lam : Int)] 3)).drew) ?region ?rest
  case region =>
    refine wpIn_region_any (by kernel_rfl) ?_
    try (change wpAnyIn _ _ _ _ _ _ _ _ _ (World.drew _))
    refine wpAnyIn_take (i := 1) (v := .int .i64 (t : Int)) rfl rfl (by kernel_rfl) (by kernel_rfl) (by kernel_rfl) (by intro _ _ _ h; first | exact h | cases h.1) ⟨Or.inl ⟨by rfl, fun w => by go_simp⟩, fun _ => rfl⟩ ?_
    refine wpAnyIn_ready (rs := [0, 2, 4]) (by kernel_rfl) (by simp) (AllReadyIn.cons rfl (fun K hK => ?_) (AllReadyIn.cons rfl (fun K hK => ?_) (AllReadyIn.cons rfl (fun K hK => ?_) AllReadyIn.nil)))
    · go_simp
      refine hK _ _ ?_
      clear hK K
      refine wpAnyIn_ready (rs := [2, 4]) (by kernel_rfl) (by simp) (AllReadyIn.cons rfl (fun K hK => ?_) (AllReadyIn.cons rfl (fun K hK => ?_) AllReadyIn.nil))
      · go_simp
        refine ⟨trivial, (callsIn_wide.2 (HB.out _)).mono ?_⟩
        rintro e C0 ⟨rfl, hC0⟩
        subst hC0
        refine hK _ _ ?_
        clear hK K
        refine wpAnyIn_ready (rs := [3, 4]) (by kernel_rfl) (by simp) (AllReadyIn.cons rfl (fun K hK => ?_) (AllReadyIn.cons rfl (fun K hK => ?_) AllReadyIn.nil))
        · go_simp
          refine ⟨trivial, (callsIn_wide.2 (by first | exact C20 | exact C20a)).mono ?_⟩
          rintro e C0 ⟨rfl, hC0⟩
          subst hC0
          refine hK _ _ ?_
          clear hK K
          refine wpAnyIn_ready (rs := [4]) (by kernel_rfl) (by simp) (AllReadyIn.cons rfl (fun K hK => ?_) AllReadyIn.nil)
          go_simp
          refine hK _ _ ?_
          clear hK K
          refine wpAnyIn_ready (rs := [5]) (by kernel_rfl) (by simp) (AllReadyIn.cons rfl (fun K hK => ?_) AllReadyIn.nil)
          go_simp
          refine hK _ _ ?_
          clear hK K
          refine wpAnyIn_done (by kernel_rfl) ?_ _
          exact ⟨rfl, rfl, by first | rfl | simp⟩
        · go_simp
          refine hK _ _ ?_
          clear hK K
          refine wpAnyIn_ready (rs := [3]) (by kernel_rfl) (by simp) (AllReadyIn.cons rfl (fun K hK => ?_) AllReadyIn.nil)
          go_simp
          refine ⟨trivial, (callsIn_wide.2 (by first | exact C20 | exact C20a)).mono ?_⟩
          rintro e C0 ⟨rfl, hC0⟩
          subst hC0
          refine hK _ _ ?_
          clear hK K
          refine wpAnyIn_ready (rs := [5]) (by kernel_rfl) (by simp) (AllReadyIn.cons rfl (fun K hK => ?_) AllReadyIn.nil)
          go_simp
          refine hK _ _ ?_
          clear hK K
          refine wpAnyIn_done (by kernel_rfl) ?_ _
          exact ⟨rfl, rfl, by first | rfl | simp⟩
      · go_simp
        refine hK _ _ ?_
        clear hK K
        refine wpAnyIn_ready (rs := [2]) (by kernel_rfl) (by simp) (AllReadyIn.cons rfl (fun K hK => ?_) AllReadyIn.nil)
        go_simp
        refine ⟨trivial, (callsIn_wide.2 (HB.out _)).mono ?_⟩
        rintro e C0 ⟨rfl, hC0⟩
        subst hC0
        refine hK _ _ ?_
        clear hK K
        refine wpAnyIn_ready (rs := [3]) (by kernel_rfl) (by simp) (AllReadyIn.cons rfl (fun K hK => ?_) AllReadyIn.nil)
        go_simp
        refine ⟨trivial, (callsIn_wide.2 (by first | exact C20 | exact C20a)).mono ?_⟩
        rintro e C0 ⟨rfl, hC0⟩
        subst hC0
        refine hK _ _ ?_
        clear hK K
        refine wpAnyIn_ready (rs := [5]) (by kernel_rfl) (by simp) (AllReadyIn.cons rfl (fun K hK => ?_) AllReadyIn.nil)
        go_simp
        refine hK _ _ ?_
        clear hK K
        refine wpAnyIn_done (by kernel_rfl) ?_ _
        exact ⟨rfl, rfl, by first | rfl | simp⟩
    · go_simp
      refine ⟨trivial, (callsIn_wide.2 (HB.out _)).mono ?_⟩
      rintro e C0 ⟨rfl, hC0⟩
      subst hC0
      refine hK _ _ ?_
      clear hK K
      refine wpAnyIn_ready (rs := [0, 4]) (by kernel_rfl) (by simp) (AllReadyIn.cons rfl (fun K hK => ?_) (AllReadyIn.cons rfl (fun K hK => ?_) AllReadyIn.nil))
      · go_simp
        refine hK _ _ ?_
        clear hK K
        refine wpAnyIn_ready (rs := [3, 4]) (by kernel_rfl) (by simp) (AllReadyIn.cons rfl (fun K hK => ?_) (AllReadyIn.cons rfl (fun K hK => ?_) AllReadyIn.nil))
        · go_simp
          refine ⟨trivial, (callsIn_wide.2 (by first | exact C20 | exact C20a)).mono ?_⟩
          rintro e C0 ⟨rfl, hC0⟩
          subst hC0
          refine hK _ _ ?_
          clear hK K
          refine wpAnyIn_ready (rs := [4]) (by kernel_rfl) (by simp) (AllReadyIn.cons rfl (fun K hK => ?_) AllReadyIn.nil)
          go_simp
          refine hK _ _ ?_
          clear hK K
          refine wpAnyIn_ready (rs := [5]) (by kernel_rfl) (by simp) (AllReadyIn.cons rfl (fun K hK => ?_) AllReadyIn.nil)
          go_simp
          refine hK _ _ ?_
          clear hK K
          refine wpAnyIn_done (by kernel_rfl) ?_ _
          exact ⟨rfl, rfl, by first | rfl | simp⟩
        · go_simp
          refine hK _ _ ?_
          clear hK K
          refine wpAnyIn_ready (rs := [3]) (by kernel_rfl) (by simp) (AllReadyIn.cons rfl (fun K hK => ?_) AllReadyIn.nil)
          go_simp
          refine ⟨trivial, (callsIn_wide.2 (by first | exact C20 | exact C20a)).mono ?_⟩
          rintro e C0 ⟨rfl, hC0⟩
          subst hC0
          refine hK _ _ ?_
          clear hK K
          refine wpAnyIn_ready (rs := [5]) (by kernel_rfl) (by simp) (AllReadyIn.cons rfl (fun K hK => ?_) AllReadyIn.nil)
          go_simp
          refine hK _ _ ?_
          clear hK K
          refine wpAnyIn_done (by kernel_rfl) ?_ _
          exact ⟨rfl, rfl, by first | rfl | simp⟩
      · go_simp
        refine hK _ _ ?_
        clear hK K
        refine wpAnyIn_ready (rs := [0]) (by kernel_rfl) (by simp) (AllReadyIn.cons rfl (fun K hK => ?_) AllReadyIn.nil)
        go_simp
        refine hK _ _ ?_
        clear hK K
        refine wpAnyIn_ready (rs := [3]) (by kernel_rfl) (by simp) (AllReadyIn.cons rfl (fun K hK => ?_) AllReadyIn.nil)
        go_simp
        refine ⟨trivial, (callsIn_wide.2 (by first | exact C20 | exact C20a)).mono ?_⟩
        rintro e C0 ⟨rfl, hC0⟩
        subst hC0
        refine hK _ _ ?_
        clear hK K
        refine wpAnyIn_ready (rs := [5]) (by kernel_rfl) (by simp) (AllReadyIn.cons rfl (fun K hK => ?_) AllReadyIn.nil)
        go_simp
        refine hK _ _ ?_
        clear hK K
        refine wpAnyIn_done (by kernel_rfl) ?_ _
        exact ⟨rfl, rfl, by first | rfl | simp⟩
    · go_simp
      refine hK _ _ ?_
      clear hK K
      refine wpAnyIn_ready (rs := [0, 2]) (by kernel_rfl) (by simp) (AllReadyIn.cons rfl (fun K hK => ?_) (AllReadyIn.cons rfl (fun K hK => ?_) AllReadyIn.nil))
      · go_simp
        refine hK _ _ ?_
        clear hK K
        refine wpAnyIn_ready (rs := [2]) (by kernel_rfl) (by simp) (AllReadyIn.cons rfl (fun K hK => ?_) AllReadyIn.nil)
        go_simp
        refine ⟨trivial, (callsIn_wide.2 (HB.out _)).mono ?_⟩
        rintro e C0 ⟨rfl, hC0⟩
        subst hC0
        refine hK _ _ ?_
        clear hK K
        refine wpAnyIn_ready (rs := [3]) (by kernel_rfl) (by simp) (AllReadyIn.cons rfl (fun K hK => ?_) AllReadyIn.nil)
        go_simp
        refine ⟨trivial, (callsIn_wide.2 (by first | exact C20 | exact C20a)).mono ?_⟩
        rintro e C0 ⟨rfl, hC0⟩
        subst hC0
        refine hK _ _ ?_
        clear hK K
        refine wpAnyIn_ready (rs := [5]) (by kernel_rfl) (by simp) (AllReadyIn.cons rfl (fun K hK => ?_) AllReadyIn.nil)
        go_simp
        refine hK _ _ ?_
        clear hK K
        refine wpAnyIn_done (by kernel_rfl) ?_ _
        exact ⟨rfl, rfl, by first | rfl | simp⟩
      · go_simp
        refine ⟨trivial, (callsIn_wide.2 (HB.out _)).mono ?_⟩
        rintro e C0 ⟨rfl, hC0⟩
        subst hC0
        refine hK _ _ ?_
        clear hK K
        refine wpAnyIn_ready (rs := [0]) (by kernel_rfl) (by simp) (AllReadyIn.cons rfl (fun K hK => ?_) AllReadyIn.nil)
        go_simp
        refine hK _ _ ?_
        clear hK K
        refine wpAnyIn_ready (rs := [3]) (by kernel_rfl) (by simp) (AllReadyIn.cons rfl (fun K hK => ?_) AllReadyIn.nil)
        go_simp
        refine ⟨trivial, (callsIn_wide.2 (by first | exact C20 | exact C20a)).mono ?_⟩
        rintro e C0 ⟨rfl, hC0⟩
        subst hC0
        refine hK _ _ ?_
        clear hK K
        refine wpAnyIn_ready (rs := [5]) (by kernel_rfl) (by simp) (AllReadyIn.cons rfl (fun K hK => ?_) AllReadyIn.nil)
        go_simp
        refine hK _ _ ?_
        clear hK K
        refine wpAnyIn_done (by kernel_rfl) ?_ _
        exact ⟨rfl, rfl, by first | rfl | simp⟩
  case rest =>
    rintro e a' w' ⟨rfl, rfl, rfl⟩
    have hs3 := HS3.out
    have b4 : Below w3.heap.size w3 ((w3.alloc (.cells #[.int .i64 (lam : Int)] 3)).drew) := bdrewN (balloc w3 _) 1
    have e8 : Boxed ((w3.alloc (.cells #[.int .i64 (lam : Int)] 3)).drew) w3.heap.size 3 (.int .i64 (lam : Int)) := Boxed.new w3 3 _
    have s4 : ((w3.alloc (.cells #[.int .i64 (lam : Int)] 3)).drew).heap.size = w3.heap.size + 1 := World.size_alloc w3 _
    obtain ⟨w4, Hw4⟩ : ∃ w4, Hid (w4 = (w3.alloc (.cells #[.int .i64 (lam : Int)] 3)).drew) := ⟨_, rfl⟩
    rw [← Hw4.out] at b4 e8 s4 ⊢
    clear Hw4 q5d q5a C20 C20a q5
    have HS4 : Hid (w4.heap.size = w3.heap.size + 1) := s4
    have CC := choices_any v t w4
    clear s4 hs3
    gi_wp2_with (refine ⟨trivial, (callsIn_wide.2 CC).mono ?_⟩; rintro e A2 ⟨rfl, hA2⟩; clear CC)
    have s4 := HS4.out
    have s3 := HS3.out
    have bA2 : Below w4.heap.size w4 ((w4.alloc (.cells #[.int .i64 (v : Int)] 3)).alloc (.cells #[.int .i64 (t : Int)] 3)) := (balloc w4 _).alloc (by simp) _
    have e1 : Boxed ((w4.alloc (.cells #[.int .i64 (v : Int)] 3)).alloc (.cells #[.int .i64 (t : Int)] 3)) (w4.heap.size + 1) 3 (.int .i64 (t : Int)) := by
      have h := Boxed.new (w4.alloc (.cells #[.int .i64 (v : Int)] 3)) 3 (.int .i64 (t : Int))
      rw [World.size_alloc] at h
      exact h
    have e2 : Boxed ((w4.alloc (.cells #[.int .i64 (v : Int)] 3)).alloc (.cells #[.int .i64 (t : Int)] 3)) w4.heap.size 3 (.int .i64 (v : Int)) := (Boxed.new w4 3 (.int .i64 (v : Int))).alloc _
    have sA2 : ((w4.alloc (.cells #[.int .i64 (v : Int)] 3)).alloc (.cells #[.int .i64 (t : Int)] 3)).heap.size = w4.heap.size + 2 := by simp
    obtain ⟨A2, HA2⟩ : ∃ A2, Hid (A2 = (w4.alloc (.cells #[.int .i64 (v : Int)] 3)).alloc (.cells #[.int .i64 (t : Int)] 3)) := ⟨_, rfl⟩
    rw [← HA2.out] at bA2 e1 e2 sA2 ⊢
    clear HA2
    have bw4 : Below w3.heap.size w3 A2 := b4.trans (bA2.mono (by omega))
    have T0 : TgI w w3 (.slice ua sl uc) (.int .i64 0) (.bool false) lam A2 := ⟨boxBelow f5 bw4 (by omega), boxBelow f6 bw4 (by omega), boxBelow f7 bw4 (by omega), boxBelow e8 bA2 (by omega), hb3.trans (bw4.mono (by omega))⟩
    have HSA : Hid (A2.heap.size = w4.heap.size + 2) := sA2
    have HT0 : Hid (TgI w w3 (.slice ua sl uc) (.int .i64 0) (.bool false) lam A2) := T0
    refine wpIn_runs (ys := chL t v) (enc := encS) (Kp := KS (w4.heap.size + 1) w4.heap.size) (Ab := AbO) (gf := 111) (lb := #[.pointer (some ⟨w4.heap.size + 1, 0, none⟩), .pointer (some ⟨w4.heap.size, 0, none⟩)]) rfl (enters_of Tryd.func111 (by kernel_rfl) rfl)
      (ch_runs t ht v _ _ _ A2 hv e1 e2) (fun _ => rfl) KS.trans ?hKb ?hAb
      (fun i B => (∀ j x, j < i → (chL t v)[j]? = some x → hN S x = lam) ∧ TgI w w3 (.slice ua sl uc) (.int .i64 0) (.bool false) lam B ∧ A2.heap.size ≤ B.heap.size)
      (fun i B => (∃ s ∈ chL t v, hN S s ≠ lam) ∧ TgI w w3 (.slice ua sl uc) (.int .i64 0) (.bool false) lam B ∧ A2.heap.size ≤ B.heap.size) ?hIp ?hXp ?hIa ?hXa ?h0
      (fun x => { tmps := #[.int .i64 (v : Int), .int .i64 (t : Int), .slice ua sl uc, undef, undef, .pointer (some ⟨w.heap.size, 0, none⟩), .pointer (some ⟨w.heap.size + 1, 0, none⟩), .pointer (some ⟨w.heap.size + 1 + 1, 0, none⟩), .pointer (some ⟨w3.heap.size, 0, none⟩), .int .u64 (x : Int), .slice ua sl uc, .int .i64 (t : Int), .int .u64 (m : Int), .int .i64 (lam : Int), .int .i64 (v : Int), .int .i64 (t : Int), .func (.func 111) #[] #[.pointer (some ⟨w4.heap.size + 1, 0, none⟩), .pointer (some ⟨w4.heap.size, 0, none⟩)], .int .u64 (x : Int), undef, undef, undef, undef, undef, undef], defers := [] }) ?assign ?body ?done ?stop
    case hKb =>
      intro B o hB
      exact ⟨by simp [World.putObj], fun b hb _ => World.putObj_heap_other (by omega)⟩
    case hAb =>
      intro V B C h3 h4 hb b hlt
      exact hb.block b (by omega)
    case hIp =>
      rintro i B o o' ⟨g1, g2, g3⟩ _ _
      exact ⟨g1, g2.mv (below_put (n := w3.heap.size + 1) B o' (by omega)) (by omega), by simpa [World.putObj] using g3⟩
    case hXp =>
      rintro i B o o' ⟨g1, g2, g3⟩ _ _
      exact ⟨g1, g2.mv (below_put (n := w3.heap.size + 1) B o' (by omega)) (by omega), by simpa [World.putObj] using g3⟩
    case hIa =>
      rintro i V B C ⟨g1, g2, g3⟩ _ h4 hb
      exact ⟨g1, g2.mv (Below.mono hb (by omega)) (by omega), Nat.le_trans g3 hb.size⟩
    case hXa =>
      rintro i V B C ⟨g1, g2, g3⟩ _ h4 hb
      exact ⟨g1, g2.mv (Below.mono hb (by omega)) (by omega), Nat.le_trans g3 hb.size⟩
    case h0 =>
      intro V hb
      exact ⟨fun j x h => by omega, T0.mv (Below.mono hb (by omega)) (by omega), hb.size⟩
    case assign =>
      clear s3 s4 sA2
      intro l x W K _ hK
      unfold encS
      gi_wp2
      exact hK
    case body =>
      rintro i x B hx ⟨g1, g2, g3⟩ hD
      have HG1 : Hid (∀ j x, j < i → (chL t v)[j]? = some x → hN S x = lam) := g1
      have HX : Hid ((chL t v)[i]? = some x) := hx
      have q5 := g2.b5.cell
      have q6 := g2.b6.cell
      have q7 := g2.b7.cell
      have q8 := g2.b8.cell
      have r6 := g2.b6.frozen
      have r7 := g2.b7.frozen
      have hx64 : x < 2 ^ 64 := Nat.lt_of_lt_of_le (chL_lt (List.mem_of_getElem? hx)) (Nat.pow_le_pow_right (by decide) (by omega))
      obtain ⟨c, Hc⟩ : ∃ c, Hid (hN S x = c) := ⟨_, rfl⟩
      have C20 : Calls Tryd.prog 77 #[.slice ua sl uc, .int .u64 (x : Int)] B.drew fun e w' => e = .returned (.int .i64 (c : Int)) ∧ w' = B.drew := by rw [← Hc.out]; exact HH.out x _ hx64 (bdrewN g2.bw 1)
      have HG2 : Hid (TgI w w3 (.slice ua sl uc) (.int .i64 0) (.bool false) lam B) := g2
      have hsz := HSA.out
      have KR : KS (w4.heap.size + 1) w4.heap.size (A2.heap.size + 1) B B.drew := ⟨Nat.le_refl _, fun b _ _ => rfl⟩
      have HKR : Hid (KS (w4.heap.size + 1) w4.heap.size (A2.heap.size + 1) B B.drew) := KR
      have HG3 : Hid (A2.heap.size ≤ B.heap.size) := g3
      by_cases hcl : c = lam
      · have hd : ((c : Int) != (lam : Int)) = false := by simp [hcl]
        have HN : Hid ((∀ j x, j < i + 1 → (chL t v)[j]? = some x → hN S x = lam) ∧ TgI w w3 (.slice ua sl uc) (.int .i64 0) (.bool false) lam B.drew ∧ A2.heap.size ≤ B.drew.heap.size) := by
          refine ⟨fun j y hj hy => ?_, g2.mv (bdrewN (Below.refl _ _) 1) s3, g3⟩
          by_cases e : j = i
          · subst e
            rw [HX.out] at hy
            obtain rfl := Option.some.inj hy
            rw [Hc.out]; exact hcl
          · exact HG1.out j y (by omega) hy
        clear g1 g2 hx hsz KR hcl s3 s4 sA2 g3
        gi_wp2
        refine wpIn_region_any (by kernel_rfl) (wpAnyIn_round (A2.heap.size + 1) (fun i o h c e => by revert h; revert i; intro i h; have hm := Array.mem_of_getElem? h; simp at hm; rcases hm with rfl | rfl | rfl | rfl | rfl <;> cases e) _ _ _ _ rfl ?_)
        try (change wpAnyIn _ _ _ _ _ _ _ _ _ (World.drew _))
        refine wpAnyIn_take (i := 1) (v := .int .u64 (x : Int)) rfl rfl (by kernel_rfl) (by kernel_rfl) (by kernel_rfl) (by intro _ _ _ h; first | exact h | cases h.1) ⟨Or.inl ⟨by rfl, fun w => by go_simp⟩, fun _ => rfl⟩ ?_
        refine wpAnyIn_ready (rs := [0, 3]) (by kernel_rfl) (by simp) (AllReadyIn.cons rfl (fun K hK => ?_) (AllReadyIn.cons rfl (fun K hK => ?_) AllReadyIn.nil))
        · go_simp
          refine hK _ _ ?_
          clear hK K
          refine wpAnyIn_ready (rs := [2, 3]) (by kernel_rfl) (by simp) (AllReadyIn.cons rfl (fun K hK => ?_) (AllReadyIn.cons rfl (fun K hK => ?_) AllReadyIn.nil))
          · go_simp
            refine ⟨trivial, (callsIn_wide.2 C20).mono ?_⟩
            rintro e C0 ⟨rfl, hC0⟩
            subst hC0
            refine hK _ _ ?_
            clear hK K
            refine wpAnyIn_ready (rs := [3]) (by kernel_rfl) (by simp) (AllReadyIn.cons rfl (fun K hK => ?_) AllReadyIn.nil)
            go_simp
            refine hK _ _ ?_
            clear hK K
            refine wpAnyIn_take (i := 4) (v := .bool false) rfl rfl (by kernel_rfl) (by kernel_rfl) (by kernel_rfl) (by intro _ _ _ h; first | exact h | cases h.1) ⟨Or.inl ⟨by rfl, fun w => by go_simp⟩, fun _ => rfl⟩ ?_
            refine wpAnyIn_done (by kernel_rfl) ?_ _
            gi_wp2
            exact ⟨⟨rfl, rfl⟩, HKR.out, HN.out⟩
          · go_simp
            refine hK _ _ ?_
            clear hK K
            refine wpAnyIn_ready (rs := [2]) (by kernel_rfl) (by simp) (AllReadyIn.cons rfl (fun K hK => ?_) AllReadyIn.nil)
            go_simp
            refine ⟨trivial, (callsIn_wide.2 C20).mono ?_⟩
            rintro e C0 ⟨rfl, hC0⟩
            subst hC0
            refine hK _ _ ?_
            clear hK K
            refine wpAnyIn_take (i := 4) (v := .bool false) rfl rfl (by kernel_rfl) (by kernel_rfl) (by kernel_rfl) (by intro _ _ _ h; first | exact h | cases h.1) ⟨Or.inl ⟨by rfl, fun w => by go_simp⟩, fun _ => rfl⟩ ?_
            refine wpAnyIn_done (by kernel_rfl) ?_ _
            gi_wp2
            exact ⟨⟨rfl, rfl⟩, HKR.out, HN.out⟩
        · go_simp
          refine hK _ _ ?_
          clear hK K
          refine wpAnyIn_ready (rs := [0]) (by kernel_rfl) (by simp) (AllReadyIn.cons rfl (fun K hK => ?_) AllReadyIn.nil)
          go_simp
          refine hK _ _ ?_
          clear hK K
          refine wpAnyIn_ready (rs := [2]) (by kernel_rfl) (by simp) (AllReadyIn.cons rfl (fun K hK => ?_) AllReadyIn.nil)
          go_simp
          refine ⟨trivial, (callsIn_wide.2 C20).mono ?_⟩
          rintro e C0 ⟨rfl, hC0⟩
          subst hC0
          refine hK _ _ ?_
          clear hK K
          refine wpAnyIn_take (i := 4) (v := .bool false) rfl rfl (by kernel_rfl) (by kernel_rfl) (by kernel_rfl) (by intro _ _ _ h; first | exact h | cases h.1) ⟨Or.inl ⟨by rfl, fun w => by go_simp⟩, fun _ => rfl⟩ ?_
          refine wpAnyIn_done (by kernel_rfl) ?_ _
          gi_wp2
          exact ⟨⟨rfl, rfl⟩, HKR.out, HN.out⟩
      · have hd : ((c : Int) != (lam : Int)) = true := by simp; omega
        have HN : Hid (∃ s ∈ chL t v, hN S s ≠ lam) := ⟨x, List.mem_of_getElem? hx, by rw [Hc.out]; exact hcl⟩
        have HF : Hid (∀ C, C = (B.drew.setCell ⟨w.heap.size + 1, 0, none⟩ (.int .i64 0)).setCell ⟨w.heap.size + 1 + 1, 0, none⟩ (.bool false) → (C.heap[A2.heap.size]? = B.heap[A2.heap.size]? ∧ C.heap[A2.heap.size + 1]? = B.heap[A2.heap.size + 1]?) ∧ KS (w4.heap.size + 1) w4.heap.size (A2.heap.size + 1) B C ∧ TgI w w3 (.slice ua sl uc) (.int .i64 0) (.bool false) lam C ∧ A2.heap.size ≤ C.heap.size) := by
          rintro C rfl
          have k : ∀ b, b ≠ w.heap.size + 1 → b ≠ w.heap.size + 1 + 1 → ((B.drew.setCell ⟨w.heap.size + 1, 0, none⟩ (.int .i64 0)).setCell ⟨w.heap.size + 1 + 1, 0, none⟩ (.bool false)).heap[b]? = B.heap[b]? := fun b h1 h2 =>
            (heap_setCell_other _ ⟨w.heap.size + 1 + 1, 0, none⟩ b _ h2).trans (heap_setCell_other B.drew ⟨w.heap.size + 1, 0, none⟩ b _ h1)
          have ksz : ((B.drew.setCell ⟨w.heap.size + 1, 0, none⟩ (.int .i64 0)).setCell ⟨w.heap.size + 1 + 1, 0, none⟩ (.bool false)).heap.size = B.heap.size := by rw [World.size_setCell, World.size_setCell]; rfl
          have d6 : Boxed B.drew (w.heap.size + 1) 3 (.int .i64 0) := g2.b6
          have d7 : Boxed B.drew (w.heap.size + 1 + 1) 4 (.bool false) := g2.b7
          have t6 := (d6.set (.int .i64 0)).other (B' := w.heap.size + 1 + 1) (by omega) (.bool false)
          have t7 := (d7.other (B' := w.heap.size + 1) (by omega) (.int .i64 0)).set (.bool false)
          have bC : Below w.heap.size B ((B.drew.setCell ⟨w.heap.size + 1, 0, none⟩ (.int .i64 0)).setCell ⟨w.heap.size + 1 + 1, 0, none⟩ (.bool false)) := ((bdrewN (Below.refl _ _) 1).setCell (p := ⟨w.heap.size + 1, 0, none⟩) (by show _ ≤ w.heap.size + 1; omega) _).setCell (p := ⟨w.heap.size + 1 + 1, 0, none⟩) (by show _ ≤ w.heap.size + 1 + 1; omega) _
          exact ⟨⟨k _ (by omega) (by omega), k _ (by omega) (by omega)⟩, ⟨by omega, fun b hb _ => k b (by omega) (by omega)⟩, ⟨boxAt g2.b5 (k _ (by omega) (by omega)), t6, t7, boxAt g2.b8 (k _ (by omega) (by omega)), g2.bw.trans bC⟩, by omega⟩
        clear g1 g2 hx hsz KR hcl s3 s4 sA2 g3
        gi_wp2
        refine wpIn_region_any (by kernel_rfl) (wpAnyIn_round (A2.heap.size + 1) (fun i o h c e => by revert h; revert i; intro i h; have hm := Array.mem_of_getElem? h; simp at hm; rcases hm with rfl | rfl | rfl | rfl | rfl <;> cases e) _ _ _ _ rfl ?_)
        try (change wpAnyIn _ _ _ _ _ _ _ _ _ (World.drew _))
        refine wpAnyIn_take (i := 1) (v := .int .u64 (x : Int)) rfl rfl (by kernel_rfl) (by kernel_rfl) (by kernel_rfl) (by intro _ _ _ h; first | exact h | cases h.1) ⟨Or.inl ⟨by rfl, fun w => by go_simp⟩, fun _ => rfl⟩ ?_
        refine wpAnyIn_ready (rs := [0, 3]) (by kernel_rfl) (by simp) (AllReadyIn.cons rfl (fun K hK => ?_) (AllReadyIn.cons rfl (fun K hK => ?_) AllReadyIn.nil))
        · go_simp
          refine hK _ _ ?_
          clear hK K
          refine wpAnyIn_ready (rs := [2, 3]) (by kernel_rfl) (by simp) (AllReadyIn.cons rfl (fun K hK => ?_) (AllReadyIn.cons rfl (fun K hK => ?_) AllReadyIn.nil))
          · go_simp
            refine ⟨trivial, (callsIn_wide.2 C20).mono ?_⟩
            rintro e C0 ⟨rfl, hC0⟩
            subst hC0
            refine hK _ _ ?_
            clear hK K
            refine wpAnyIn_ready (rs := [3]) (by kernel_rfl) (by simp) (AllReadyIn.cons rfl (fun K hK => ?_) AllReadyIn.nil)
            go_simp
            refine hK _ _ ?_
            clear hK K
            refine wpAnyIn_take (i := 4) (v := .bool true) rfl rfl (by kernel_rfl) (by kernel_rfl) (by kernel_rfl) (by intro _ _ _ h; first | exact h | cases h.1) ⟨Or.inl ⟨by rfl, fun w => by go_simp⟩, fun _ => rfl⟩ ?_
            refine wpAnyIn_done (by kernel_rfl) ?_ _
            gi_wp2
            exact ⟨(HF.out _ rfl).1, (HF.out _ rfl).2.1, HN.out, (HF.out _ rfl).2.2⟩
          · go_simp
            refine hK _ _ ?_
            clear hK K
            refine wpAnyIn_ready (rs := [2]) (by kernel_rfl) (by simp) (AllReadyIn.cons rfl (fun K hK => ?_) AllReadyIn.nil)
            go_simp
            refine ⟨trivial, (callsIn_wide.2 C20).mono ?_⟩
            rintro e C0 ⟨rfl, hC0⟩
            subst hC0
            refine hK _ _ ?_
            clear hK K
            refine wpAnyIn_take (i := 4) (v := .bool true) rfl rfl (by kernel_rfl) (by kernel_rfl) (by kernel_rfl) (by intro _ _ _ h; first | exact h | cases h.1) ⟨Or.inl ⟨by rfl, fun w => by go_simp⟩, fun _ => rfl⟩ ?_
            refine wpAnyIn_done (by kernel_rfl) ?_ _
            gi_wp2
            exact ⟨(HF.out _ rfl).1, (HF.out _ rfl).2.1, HN.out, (HF.out _ rfl).2.2⟩
        · go_simp
          refine hK _ _ ?_
          clear hK K
          refine wpAnyIn_ready (rs := [0]) (by kernel_rfl) (by simp) (AllReadyIn.cons rfl (fun K hK => ?_) AllReadyIn.nil)
          go_simp
          refine hK _ _ ?_
          clear hK K
          refine wpAnyIn_ready (rs := [2]) (by kernel_rfl) (by simp) (AllReadyIn.cons rfl (fun K hK => ?_) AllReadyIn.nil)
          go_simp
          refine ⟨trivial, (callsIn_wide.2 C20).mono ?_⟩
          rintro e C0 ⟨rfl, hC0⟩
          subst hC0
          refine hK _ _ ?_
          clear hK K
          refine wpAnyIn_take (i := 4) (v := .bool true) rfl rfl (by kernel_rfl) (by kernel_rfl) (by kernel_rfl) (by intro _ _ _ h; first | exact h | cases h.1) ⟨Or.inl ⟨by rfl, fun w => by go_simp⟩, fun _ => rfl⟩ ?_
          refine wpAnyIn_done (by kernel_rfl) ?_ _
          gi_wp2
          exact ⟨(HF.out _ rfl).1, (HF.out _ rfl).2.1, HN.out, (HF.out _ rfl).2.2⟩
    case done =>
      rintro B ⟨g1, g2, g3⟩ hK
      have HG : Hid ((∀ s ∈ chL t v, hN S s = lam)) := fun s hs => by
        obtain ⟨j, hj, rfl⟩ := List.mem_iff_getElem.1 hs
        exact g1 j _ hj (List.getElem?_eq_getElem hj)
      have q6 := g2.b6.cell
      have q7 := g2.b7.cell
      have q8 := g2.b8.cell
      have r6 := g2.b6.frozen
      have r7 := g2.b7.frozen
      have HG2 : Hid (TgI w w3 (.slice ua sl uc) (.int .i64 0) (.bool false) lam B) := g2
      have HK : Hid (B.heap[A2.heap.size]? = some (.deferred (some []))) := hK
      have HLT : Hid (w.heap.size + 4 ≤ A2.heap.size) := (by omega : w.heap.size + 4 ≤ A2.heap.size)
      clear g1 g2 s3 s4 sA2 g3 hK
      gi_wp2
      obtain ⟨C, HC⟩ : ∃ C, Hid (C = (B.setCell ⟨w.heap.size + 1, 0, none⟩ (.int .i64 (lam : Int))).setCell ⟨w.heap.size + 1 + 1, 0, none⟩ (.bool true)) := ⟨_, rfl⟩
      have g2 := HG2.out
      have hlt := HLT.out
      have k : ∀ b, b ≠ w.heap.size + 1 → b ≠ w.heap.size + 1 + 1 → C.heap[b]? = B.heap[b]? := fun b h1 h2 => by
        rw [HC.out]
        exact (heap_setCell_other _ ⟨w.heap.size + 1 + 1, 0, none⟩ b _ h2).trans (heap_setCell_other B ⟨w.heap.size + 1, 0, none⟩ b _ h1)
      have t6 : Boxed C (w.heap.size + 1) 3 (.int .i64 (lam : Int)) := by rw [HC.out]; exact (g2.b6.set (.int .i64 (lam : Int))).other (B' := w.heap.size + 1 + 1) (by omega) (.bool true)
      have t7 : Boxed C (w.heap.size + 1 + 1) 4 (.bool true) := by rw [HC.out]; exact (g2.b7.other (B' := w.heap.size + 1) (by omega) (.int .i64 (lam : Int))).set (.bool true)
      have bC : Below w.heap.size B C := by
        rw [HC.out]
        exact ((Below.refl _ B).setCell (p := ⟨w.heap.size + 1, 0, none⟩) (by show _ ≤ w.heap.size + 1; omega) _).setCell (p := ⟨w.heap.size + 1 + 1, 0, none⟩) (by show _ ≤ w.heap.size + 1 + 1; omega) _
      rw [← HC.out]
      have hK2 : C.heap[A2.heap.size]? = some (.deferred (some [])) := (k _ (by omega) (by omega)).trans HK.out
      refine ⟨by simp, .inl ⟨_, _, rfl, run_takeDeferred hK2, ?_⟩⟩
      have bP := below_put (n := w.heap.size + 4) C (.deferred none) (l := A2.heap.size) hlt
      exact ⟨_, res_two rfl rfl rfl (boxBelow t6 bP (by omega)) (boxBelow t7 bP (by omega)), .inl ⟨rfl, HG.out⟩, (g2.bw.trans bC).trans (bP.mono (by omega))⟩
    case stop =>
      rintro i B ⟨g1, g2, g3⟩ hK
      gi_wp2
      refine ⟨by simp, .inl ⟨_, _, rfl, run_takeDeferred hK, ?_⟩⟩
      have g4 := g2.mv (below_put (n := w3.heap.size + 1) B (.deferred none) (l := A2.heap.size) (by omega)) s3
      exact ⟨_, res_two rfl rfl rfl g4.b6 g4.b7, .inr ⟨rfl, g1⟩, g4.bw⟩

end Go.Proofs.YtjfjdidibglhaabDoor

/- The walk of Level, and what it tells. -/
namespace Go.Proofs.YtjfjdidibglhaabDoor
open Go.RowKit

/-! ### The sets of choices are the rising lists -/
theorem chL_of_list : ∀ {t n : Nat} {s : List Nat}, s.length = t → s.Pairwise (· < ·) → (∀ x ∈ s, x < n) → sb s ∈ chL t n
  | 0, n, s, hl, _, _ => by
    obtain rfl := List.eq_nil_of_length_eq_zero hl
    simp [chL, sb]
  | t + 1, n, s, hl, hp, hb => by
    have hne : s ≠ [] := fun h => by subst h; simp at hl
    obtain ⟨l, q, rfl⟩ : ∃ l q, s = l ++ [q] := ⟨s.dropLast, s.getLast hne, (List.dropLast_concat_getLast hne).symm⟩
    have h1 := List.pairwise_append.1 hp
    have hlt : l.length = t := by simpa using hl
    have hq : ∀ x ∈ l, x < q := fun x hx => h1.2.2 x hx q (by simp)
    have hqn : q < n := hb q (by simp)
    have htq : t ≤ q := by rw [← hlt]; exact (rise_pts h1.1 hq).le
    rw [sb_snoc]
    refine List.mem_flatMap.2 ⟨q, List.mem_range'_1.2 ⟨htq, by omega⟩, List.mem_map.2 ⟨sb l, chL_of_list hlt h1.1 hq, rfl⟩⟩
theorem chL_is_list : ∀ {t n x : Nat}, x ∈ chL t n → ∃ s : List Nat, x = sb s ∧ s.length = t ∧ s.Pairwise (· < ·) ∧ ∀ y ∈ s, y < n
  | 0, n, x, h => ⟨[], by simpa [chL, sb] using h, rfl, List.Pairwise.nil, fun y h => by simp at h⟩
  | t + 1, n, x, h => by
    obtain ⟨q, h1, h2⟩ := List.mem_flatMap.1 h
    obtain ⟨z, h3, rfl⟩ := List.mem_map.1 h2
    have h4 := List.mem_range'_1.1 h1
    obtain ⟨l, rfl, h5, h6, h7⟩ := chL_is_list h3
    refine ⟨l ++ [q], (sb_snoc l q).symm, by simp [h5], List.pairwise_append.2 ⟨h6, List.pairwise_singleton _ _, fun a ha b hb => ?_⟩, fun y hy => ?_⟩
    · rw [List.mem_singleton.1 hb]; exact h7 a ha
    · rcases List.mem_append.1 hy with hy | hy
      · have := h7 y hy; omega
      · rw [List.mem_singleton.1 hy]; omega
theorem hN_nb {v : Nat} {B : List (List Nat)} (G : GoodD v B) {s : List Nat} (hs : ∀ x ∈ s, x < v) : hN (B.map sb) (sb s) = nb B s := by
  have h40 := G.le
  unfold hN nb
  rw [List.countP_map]
  refine List.countP_congr fun b hb => ?_
  have hb2 := (G.bls b hb).lt
  simp only [Function.comp]
  rw [decide_eq_true_iff, an_all (fun x hx => by have := hs x hx; omega) (fun x hx => by have := hb2 x hx; omega)]
theorem good_sb64 {v : Nat} {B : List (List Nat)} (G : GoodD v B) : ∀ x ∈ B.map sb, x < 2 ^ 64 := fun x hx => by
  obtain ⟨b, hb, rfl⟩ := List.mem_map.1 hx
  have h40 := G.le
  exact sb_lt fun y hy => by have := (G.bls b hb).lt y hy; omega
theorem good_pc {v : Nat} {B : List (List Nat)} (G : GoodD v B) {b : List Nat} (hb : b ∈ B) : pc (sb b) = b.length := by
  have hr := rs_iff.1 (G.rs b hb)
  have h40 := G.le
  exact pc_sb hr.1 fun x hx => by have := (hr.2 x hx).2; omega
theorem lev_iff {v t : Nat} {B : List (List Nat)} (G : GoodD v B) : (∀ s ∈ chL t v, hN (B.map sb) s = hN (B.map sb) (2 ^ t - 1)) ↔ Lev v B t (hN (B.map sb) (2 ^ t - 1)) := by
  constructor
  · intro h
    refine lev_of_rise fun s h1 h2 h3 => ?_
    rw [← hN_nb G h2]
    exact h _ (chL_of_list h3 h1 h2)
  · intro h x hx
    obtain ⟨s, rfl, h1, h2, h3⟩ := chL_is_list hx
    rw [hN_nb G h3]
    exact h s (rise_pts h2 h3) h1

theorem lv_box (p : Int) (u : Value) (w : World) : (w.alloc (.cells #[.int .i64 p, u] 44)).cell? ⟨w.heap.size, 0, none⟩ = some (.int .i64 p) ∧ (w.alloc (.cells #[.int .i64 p, u] 44)).cell? ⟨w.heap.size, 1, none⟩ = some u := des_box p u w _ (Below.refl _ _)

set_option maxRecDepth 100000 in
set_option maxHeartbeats 4000000 in
theorem Level_far (v : Nat) (t : Int) (B : List (List Nat)) (u : Value) (w : World) (G : GoodD v B) (hu : Rw w u (toZ B)) (h : t < 0 ∨ 4 < t ∨ (v : Int) < t) :
    Calls Tryd.prog 16 #[.agg #[.int .i64 (v : Int), u], .int .i64 t] w fun e w' => e = .returned (.tuple #[.int .i64 0, .int .i64 0, .int .i64 1]) ∧ Below w.heap.size w w' := by
  obtain ⟨x0, x1⟩ := lv_box v u w
  have b0 := balloc w (.cells #[.int .i64 (v : Int), u] 44)
  have C1 := open_good v B u _ G (hu.below b0)
  obtain ⟨w0, Hw0⟩ : ∃ w0, Hid (w0 = w.alloc (.cells #[.int .i64 (v : Int), u] 44)) := ⟨_, rfl⟩
  have y0 : ∀ W, Below w0.heap.size w0 W → W.cell? ⟨w.heap.size, 0, none⟩ = some (.int .i64 (v : Int)) := fun W hW => by
    rw [Hw0.out] at hW; exact (des_box v u w W hW).1
  have hv40 := G.le
  by_cases h1 : t < 0
  · have hd : decide (t < 0) = true := decide_eq_true h1
    go_enter Tryd.func16, Tryd.ntmps16
    go_wp2_with (go_at_call 36; refine C1.mono ?_; rintro e w3 ⟨⟨x, rfl, _⟩, hb3⟩; clear C1)
    exact bodyPost_ret (v := .tuple #[.int .i64 0, .int .i64 0, .int .i64 1]) (by simp [results, Tryd.results16, go_sem]) rfl ⟨rfl, Below.next b0 hb3⟩
  · have hd : decide (t < 0) = false := decide_eq_false h1
    by_cases h2 : 4 < t
    · have hd2 : decide (4 < t) = true := decide_eq_true h2
      go_enter Tryd.func16, Tryd.ntmps16
      go_wp2_with (go_at_call 36; refine C1.mono ?_; rintro e w3 ⟨⟨x, rfl, _⟩, hb3⟩; clear C1)
      exact bodyPost_ret (v := .tuple #[.int .i64 0, .int .i64 0, .int .i64 1]) (by simp [results, Tryd.results16, go_sem]) rfl ⟨rfl, Below.next b0 hb3⟩
    · have hd2 : decide (4 < t) = false := decide_eq_false h2
      have hd3 : decide ((v : Int) < t) = true := decide_eq_true (by omega)
      have ht4 : t ≤ 4 := by omega
      go_enter Tryd.func16, Tryd.ntmps16
      go_wp2_with (go_at_call 36; refine C1.mono ?_; rintro e w3 ⟨⟨x, rfl, _⟩, hb3⟩; clear C1; have y1 := y0 w3 (by rw [Hw0.out]; exact hb3))
      exact bodyPost_ret (v := .tuple #[.int .i64 0, .int .i64 0, .int .i64 1]) (by simp [results, Tryd.results16, go_sem]) rfl ⟨rfl, Below.next b0 hb3⟩

set_option maxRecDepth 100000 in
set_option maxHeartbeats 8000000 in
theorem Level_main (v t : Nat) (B : List (List Nat)) (u : Value) (w : World) (G : GoodD v B) (hu : Rw w u (toZ B)) (h4 : t ≤ 4) (htv : t ≤ v) :
    Calls Tryd.prog 16 #[.agg #[.int .i64 (v : Int), u], .int .i64 (t : Int)] w fun e w' => LvT v B t e ∧ Below w.heap.size w w' := by
  obtain ⟨x0, x1⟩ := lv_box v u w
  have b0 := balloc w (.cells #[.int .i64 (v : Int), u] 44)
  have C1 := open_good v B u _ G (hu.below b0)
  obtain ⟨w0, Hw0⟩ : ∃ w0, Hid (w0 = w.alloc (.cells #[.int .i64 (v : Int), u] 44)) := ⟨_, rfl⟩
  have HY0 : Hid (∀ W, Below w0.heap.size w0 W → W.cell? ⟨w.heap.size, 0, none⟩ = some (.int .i64 (v : Int))) := fun W hW => by
    rw [Hw0.out] at hW; exact (des_box v u w W hW).1
  have hv40 := G.le
  have HG : Hid (GoodD v B) := G
  have hd : decide ((t : Int) < 0) = false := decide_eq_false (by omega)
  have hd2 : decide (4 < (t : Int)) = false := decide_eq_false (by omega)
  have hd3 : decide ((v : Int) < (t : Int)) = false := decide_eq_false (by omega)
  have ha : LvOk v B t = fun k l => B ≠ [] ∧ (∀ b ∈ B, b.length = k) ∧ Lev v B t l := rfl
  have fin4 : (¬ ∃ k l, LvOk v B t k l) → LvT v B (t : Int) (.returned (.tuple #[.int .i64 0, .int .i64 0, .int .i64 4])) := fun h => .inr ⟨t, rfl, h4, htv, .inr ⟨h, rfl⟩⟩
  have HF4 : Hid ((¬ ∃ k l, LvOk v B t k l) → LvT v B (t : Int) (.returned (.tuple #[.int .i64 0, .int .i64 0, .int .i64 4]))) := fin4
  have HF0 : Hid (∀ k l : Nat, LvOk v B t k l → LvT v B (t : Int) (.returned (.tuple #[.int .i64 (k : Int), .int .i64 (l : Int), .int .i64 0]))) := fun k l h => .inr ⟨t, rfl, h4, htv, .inl ⟨k, l, h, rfl⟩⟩
  have hB0 : Hid (Below w.heap.size w (w.alloc (.cells #[.int .i64 (v : Int), u] 44))) := b0
  clear G hu ha fin4 b0
  go_enter Tryd.func16, Tryd.ntmps16
  by_cases hne : B = []
  · subst hne
    go_wp2_with (first
      | (go_at_call 36; refine C1.mono ?_; rintro e w3 ⟨⟨x, rfl, hrow⟩, hb3⟩; clear C1; obtain ⟨xa, xc, rfl⟩ := own_formE hrow; have y1 := HY0.out w3 (by rw [Hw0.out]; exact hb3))
      | (go_at_call 37; refine (sizes_none w3 xa xc).mono ?_; rintro e w4 ⟨rfl, hw4⟩; subst hw4))
    exact bodyPost_ret (v := .tuple #[.int .i64 0, .int .i64 0, .int .i64 4]) (by simp [results, Tryd.results16, go_sem]) rfl ⟨HF4.out (fun ⟨k, l, h, _⟩ => h rfl), Below.next hB0.out hb3⟩
  · have hpos : 0 < (B.map sb).length := by rw [List.length_map]; exact List.length_pos_iff.2 hne
    have HNE : Hid (B ≠ []) := hne
    clear hne
    have hbl : (B.map sb).length ≤ 200 := by rw [List.length_map]; exact HG.out.few
    go_wp2_with (first
      | (go_at_call 36; refine C1.mono ?_; rintro e w3 ⟨⟨x, rfl, hrow⟩, hb3⟩; clear C1; have y1 := HY0.out w3 (by rw [Hw0.out]; exact hb3))
      | (go_at_call 37; refine (sizes_main (B.map sb) x w3 hrow.ss hbl (good_sb64 HG.out) hpos).mono ?_))
    rintro e w4 ⟨⟨rfl, hall⟩ | ⟨rfl, hno⟩, hw4⟩
    · subst hw4
      have T := together_any v t (B.map sb) x w4 hv40 h4 hrow.ss hbl (good_sb64 HG.out)
      have HK : Hid (∀ b ∈ B, b.length = pc ((B.map sb).getD 0 0)) := fun b hb => by
        rw [← good_pc HG.out hb]; exact hall _ (List.mem_map.2 ⟨b, hb, rfl⟩)
      have hk64 := pc_le ((B.map sb).getD 0 0)
      obtain ⟨k, Hk⟩ : ∃ k, Hid (pc ((B.map sb).getD 0 0) = k) := ⟨_, rfl⟩
      rw [Hk.out] at HK hk64 ⊢
      obtain ⟨xa, xc, ex⟩ := own_formE hrow
      obtain ⟨lam, Hlam⟩ : ∃ lam, Hid (hN (B.map sb) (2 ^ t - 1) = lam) := ⟨_, rfl⟩
      rw [Hlam.out] at T
      have hb4 : Below w.heap.size w w4 := Below.next hB0.out hb3
      have HT : Hid (Calls Tryd.prog 38 #[.int .i64 (v : Int), .int .i64 (t : Int), x] w4 fun e w' => ((e = .returned (.tuple #[.int .i64 (lam : Int), .bool true]) ∧ ∀ s ∈ chL t v, hN (B.map sb) s = lam) ∨ (e = .returned (.tuple #[.int .i64 0, .bool false]) ∧ ∃ s ∈ chL t v, hN (B.map sb) s ≠ lam)) ∧ Below w4.heap.size w4 w') := T
      clear hall hrow T
      subst ex
      generalize (B.map sb).length = bl at *
      go_wp2_with (go_at_call 38; refine HT.out.mono ?_; rintro e w5 ⟨⟨rfl, hy⟩ | ⟨rfl, hno⟩, hb5⟩)
      · have hL : LvOk v B t k lam := ⟨HNE.out, HK.out, by have := (lev_iff HG.out).1 (by rw [Hlam.out]; exact hy); rwa [Hlam.out] at this⟩
        have HL := HF0.out k lam hL
        have HL2 : Hid (LvT v B (t : Int) (.returned (.tuple #[.int .i64 (k : Int), .int .i64 (lam : Int), .int .i64 0]))) := HL
        clear hy hL HL
        exact bodyPost_ret (v := .tuple #[.int .i64 (k : Int), .int .i64 (lam : Int), .int .i64 0]) (by simp [results, Tryd.results16, go_sem]) rfl ⟨HL2.out, Below.next hb4 hb5⟩
      · have HNO : Hid (∃ s ∈ chL t v, hN (B.map sb) s ≠ lam) := hno
        clear hno
        refine bodyPost_ret (v := .tuple #[.int .i64 0, .int .i64 0, .int .i64 4]) (by simp [results, Tryd.results16, go_sem]) rfl ⟨HF4.out (fun ⟨k', l, _, _, hl⟩ => ?_), Below.next hb4 hb5⟩
        obtain ⟨s, hs, hn⟩ := HNO.out
        refine hn ?_
        obtain ⟨q, rfl, h1, h2, h3⟩ := chL_is_list hs
        rw [hN_nb HG.out h3, hl q (rise_pts h2 h3) h1, ← Hlam.out, low_sb, hN_nb HG.out (fun x hx => by have := List.mem_range.1 hx; omega)]
        exact (hl _ (range_pts htv) (by simp)).symm
    · subst hw4
      go_wp2
      refine bodyPost_ret (v := .tuple #[.int .i64 0, .int .i64 0, .int .i64 4]) (by simp [results, Tryd.results16, go_sem]) rfl ⟨HF4.out (fun ⟨k, l, _, h, _⟩ => hno ⟨k, fun x hx => ?_⟩), Below.next hB0.out hb3⟩
      obtain ⟨b, hb, rfl⟩ := List.mem_map.1 hx
      rw [good_pc HG.out hb]; exact h b hb

theorem Level_any (v : Nat) (t : Int) (B : List (List Nat)) (u : Value) (w : World) (G : GoodD v B) (hu : Rw w u (toZ B)) :
    Calls Tryd.prog 16 #[.agg #[.int .i64 (v : Int), u], .int .i64 t] w fun e w' => LvT v B t e ∧ Below w.heap.size w w' := by
  by_cases h : t < 0 ∨ 4 < t ∨ (v : Int) < t
  · refine (Level_far v t B u w G hu h).mono ?_
    rintro e w' ⟨rfl, hb⟩
    exact ⟨.inl ⟨h, rfl⟩, hb⟩
  · obtain ⟨m, rfl⟩ : ∃ m : Nat, t = m := ⟨t.toNat, by omega⟩
    exact Level_main v m B u w G hu (by omega) (by omega)

end Go.Proofs.YtjfjdidibglhaabDoor

namespace Go.Proofs.YtjfjdidibglhaabDoor
open Go.RowKit

end Go.Proofs.YtjfjdidibglhaabDoor

/- The walk of meets. -/
namespace Go.Proofs.YtjfjdidibglhaabDoor
open Go.RowKit Go.Shelf

attribute [local go_sem] Oper.semAt_some

/-- What lies in these blocks lies there as it lay. -/
def Same (S : Nat → Prop) (A B : World) : Prop := ∀ b, S b → B.heap[b]? = A.heap[b]?
theorem Same.refl (S : Nat → Prop) (A : World) : Same S A A := fun _ _ => rfl
theorem Same.trans {S : Nat → Prop} {A B C : World} (h : Same S A B) (k : Same S B C) : Same S A C := fun b hb => (k b hb).trans (h b hb)
theorem grown_of_belowF {A B : World} (h : Below A.heap.size A B) : A.grownBy B none := ⟨h.os, h.tape, h.output, h.size, fun k hk _ => h.block k hk⟩
theorem keepsOthers_below {A B : World} (h : Below A.heap.size A B) : KeepsOthers A B := ⟨h.size, fun k _ hk _ => (h.block k (Array.getElem?_eq_some_iff.1 hk).1).trans hk⟩
/-- What an append to the row in the box leaves. -/
theorem appFacts {S : Nat → Prop} {W W5 w2 : World} {ob lo base k m : Nat} {t e : TypeId} {size : Nat} {u v' : Value} {xs ys : List Value} (hte : t ≠ e) (hu : Boxed W ob t u) (hrow : W.ownsRow base e size u k xs) (h5 : Below W.heap.size W W5)
    (hSlt : ∀ b, S b → b < base) (hSo : ¬ S ob) (hsz : base ≤ W.heap.size) (hlo : lo ≤ ob ∧ lo ≤ base) (hown' : w2.ownsRow base e size v' m ys) (hgrow : W5.grownBy w2 u.ownBlock) :
    Boxed w2 ob t u ∧ Boxed (w2.setCell ⟨ob, 0, none⟩ v') ob t v' ∧ (w2.setCell ⟨ob, 0, none⟩ v').ownsRow base e size v' m ys ∧ KeepsOthers W (w2.setCell ⟨ob, 0, none⟩ v') ∧ Same S W (w2.setCell ⟨ob, 0, none⟩ v') ∧ Below lo W (w2.setCell ⟨ob, 0, none⟩ v') := by
  have hu5 := boxBelow hu h5 hu.lt
  have hrow5 : W5.ownsRow base e size u k xs := hrow.kept (grown_of_belowF h5) (by cases h : u.ownBlock <;> simp)
  have h1 : Boxed w2 ob t u := hu5.kept hgrow (hu.not_row hte hrow)
  have hblk : ∀ b, b < base → b ≠ ob → (w2.setCell ⟨ob, 0, none⟩ v').heap[b]? = W.heap[b]? := by
    intro b hb hne
    refine (heap_setCell_other w2 ⟨ob, 0, none⟩ b v' hne).trans ((hgrow.block b (by have := h5.size; omega) (fun e => ?_)).trans (h5.block b (by omega)))
    rcases hrow.2 with ⟨rfl, _⟩ | ⟨g, cap, cur, rfl, hg, _⟩
    · simp [Value.ownBlock] at e
    · simp [Value.ownBlock] at e
      omega
  refine ⟨h1, h1.set v', hown'.kept (grownBy_setCell' w2 ob v') (.inr (h1.not_row hte hown').symm), ?_, fun b hb => hblk b (hSlt b hb) (fun e => hSo (e ▸ hb)), ?_⟩
  · refine ((keepsOthers_below h5).trans (KeepsOthers.of_grownBy hgrow fun j o ej hj => ?_)).trans (KeepsOthers.setCell _ _ _)
    rcases hrow5.2 with ⟨rfl, _⟩ | ⟨g, cap, cur, rfl, _, hgb, _⟩
    · simp [Value.ownBlock] at ej
    · obtain rfl : g = j := by simpa [Value.ownBlock] using ej
      rw [hgb] at hj; cases hj; rfl
  · refine ⟨hgrow.os.trans h5.os, hgrow.tape.trans h5.tape, hgrow.output.trans h5.output, ?_, fun b hb => hblk b (by omega) (by omega)⟩
    have := hgrow.size
    have := h5.size
    simp
    omega

theorem pc_le_of {x n : Nat} (h : x < 2 ^ n) (hn : n ≤ 64) : pc x ≤ n := by
  have h64 : x < 2 ^ 64 := Nat.lt_of_lt_of_le h (Nat.pow_le_pow_right (by decide) hn)
  exact (rise_pts (pts_rise x) (v := n) fun i hi => by
    rcases Nat.lt_or_ge i n with h1 | h1
    · exact h1
    · have := (pts_mem' h64).1 hi
      rw [testBit_high h h1] at this; cases this).le
/-- What is met up to a pair. -/
def SnM (S : List Nat) (i j acc : Nat) : Prop := ∀ n, acc.testBit n = true ↔ ∃ i' j', j' < i' ∧ (i' < i ∨ (i' = i ∧ j' < j)) ∧ pc (S.getD i' 0 &&& S.getD j' 0) = n
theorem SnM.zero (S : List Nat) : SnM S 0 0 0 := fun n => by
  constructor
  · intro h; simp at h
  · rintro ⟨i, j, h1, h2 | h2, _⟩ <;> omega
theorem SnM.step {S : List Nat} {i j acc : Nat} (h : SnM S i j acc) (hj : j < i) : SnM S i (j + 1) (acc ||| 2 ^ pc (S.getD i 0 &&& S.getD j 0)) := fun n => by
  rw [Nat.testBit_or, Nat.testBit_two_pow, Bool.or_eq_true, decide_eq_true_eq, h n]
  constructor
  · rintro (⟨i', j', h1, h2, h3⟩ | h3)
    · exact ⟨i', j', h1, by omega, h3⟩
    · exact ⟨i, j, hj, .inr ⟨rfl, by omega⟩, h3⟩
  · rintro ⟨i', j', h1, h2, h3⟩
    by_cases e : i' = i ∧ j' = j
    · obtain ⟨rfl, rfl⟩ := e; exact .inr h3
    · exact .inl ⟨i', j', h1, by omega, h3⟩
theorem SnM.row {S : List Nat} {i acc : Nat} (h : SnM S i i acc) : SnM S (i + 1) 0 acc := fun n => by
  rw [h n]
  constructor
  · rintro ⟨i', j', h1, h2, h3⟩
    exact ⟨i', j', h1, by omega, h3⟩
  · rintro ⟨i', j', h1, h2, h3⟩
    exact ⟨i', j', h1, by omega, h3⟩
theorem cutS (a : Option Addr) (n cap k : Nat) (hk : k ≤ n) (hc : n ≤ cap) (_hn : n ≤ 200) (_hcap : cap ≤ maxLen) : ∀ W, (Instr.sliceAt 70 (.slice a n cap) none (some (.int .i64 (k : Int))) none).run Tryd.prog W = .ok (.slice a k cap) W := fun W => by
  have h1 : (k : Int) ≤ (cap : Int) := by omega
  unfold maxLen at _hcap
  go_simp
/-- A row of sets that is read, with room. -/
def SC (w : World) (v : Value) (S : List Nat) : Prop := ∃ a cap, v = .slice a S.length cap ∧ S.length ≤ cap ∧ cap ≤ maxLen ∧ ∀ j, j < S.length → ∃ g off, a = some ⟨g, off, none⟩ ∧ ∀ W, Below w.heap.size w W → W.cell? ⟨g, off + j, none⟩ = some (.int .u64 ((S.getD j 0 : Nat) : Int))
theorem SRow.sc {w : World} {base : Nat} {v : Value} {S : List Nat} (h : SRow w base v S) : SC w v S := by
  have hs := h.ss
  obtain ⟨_, ⟨rfl, hn⟩ | ⟨g, cap, cur, rfl, _, hg, h1, h2, _, ht⟩⟩ := h
  · have : S = [] := List.length_eq_zero_iff.1 hn
    subst this
    exact ⟨none, 0, rfl, Nat.le_refl _, Nat.zero_le _, fun j hj => by simp at hj⟩
  · obtain ⟨a, c, e, hc⟩ := hs
    refine ⟨_, cap, rfl, h1, h2, fun j hj => ?_⟩
    obtain ⟨g', off, e', hcell⟩ := hc j hj
    simp only [Value.slice.injEq] at e
    rw [← e.1] at e'
    exact ⟨g', off, e', fun W hW => (hW.cell (p := ⟨g', off + j, none⟩) (block_lt_of_cell hcell)).trans hcell⟩

set_option maxRecDepth 100000 in
set_option maxHeartbeats 8000000 in
theorem meets_any (S : List Nat) (u : Value) (w : World) (hT : Tab w) (hu : SC w u S) (hl : S.length ≤ 200) (hS : ∀ x ∈ S, x < 2 ^ 40) :
    Calls Tryd.prog 118 #[u] w fun e w' => ∃ (x : Value) (acc : Nat), e = .returned x ∧ acc < 2 ^ 41 ∧ SnM S S.length 0 acc ∧ w'.ownsRow w.heap.size 3 1 x (pts acc).length (((pts acc).map Int.ofNat).map (Value.int .i64)) ∧ Below w.heap.size w w' := by
  refine (callsIn_wide (n := 4)).1 ?_
  obtain ⟨a, cap, rfl, hcap, hcm, hc⟩ := hu
  have HC : Hid (∀ j, j < S.length → ∃ g off, a = some ⟨g, off, none⟩ ∧ w.cell? ⟨g, off + j, none⟩ = some (.int .u64 ((S.getD j 0 : Nat) : Int))) := fun j hj => by
    obtain ⟨g, off, e, h⟩ := hc j hj
    exact ⟨g, off, e, h w (Below.refl _ _)⟩
  have HS : Hid (∀ j, j < S.length → S.getD j 0 < 2 ^ 40) := fun j hj => hS _ (getD_in hj)
  have hcut : Hid (∀ k, k ≤ S.length → ∀ W, (Instr.sliceAt 70 (.slice a S.length cap) none (some (.int .i64 (k : Int))) none).run Tryd.prog W = .ok (.slice a k cap) W) := fun k hk => cutS a S.length cap k hk hcap hl hcm
  have HTab : Hid (Tab w) := hT
  generalize hn : S.length = n at *
  obtain ⟨i3, hi3, hz0, hz1, hz2⟩ := info3
  clear hc hS hT hcap hcm
  refine callsIn_of_wp_marks Tryd.func118 rfl trivial ?_ rfl
  simp only [Tryd.ntmps118, List.size_toArray, List.length_cons, List.length_nil, Nat.reduceAdd, Nat.reduceSub, Array.replicate_succ, Array.replicate_zero, List.push_toArray, List.append_toArray, List.nil_append, List.cons_append]
  gi_wp2
  gi_loopw [3, 12] (fun mv iv wr => ∃ i acc : Nat, iv = .int .i64 (i : Int) ∧ mv = .int .u64 (acc : Int) ∧ i ≤ n ∧ acc < 2 ^ 41 ∧ Hid (SnM S i 0 acc) ∧ wr = w) (fun _ iv _ => (n - intOf iv).toNat)
  case atStart => exact ⟨0, 0, rfl, rfl, by omega, by decide, (SnM.zero S), rfl⟩
  case round =>
    obtain ⟨i, acc, rfl, rfl, hi, hacc, HM, rfl⟩ := hrel
    by_cases hlt : i < n
    · have hd : decide ((i : Int) < (n : Int)) = true := by simp; omega
      have hii : (i : Int) < (n : Int) := by omega
      obtain ⟨g, off, rfl, hci⟩ := HC.out i hlt
      have hai := HS.out i hlt
      have hcu := hcut.out i hi
      obtain ⟨x, Hx⟩ : ∃ x, Hid (S.getD i 0 = x) := ⟨_, rfl⟩
      rw [Hx.out] at hci hai
      gi_wp2
      gi_loopw [3, 21] (fun mv jv wr' => ∃ j acc' : Nat, jv = .int .i64 (j : Int) ∧ mv = .int .u64 (acc' : Int) ∧ j ≤ i ∧ acc' < 2 ^ 41 ∧ Hid (SnM S i j acc') ∧ wr' = wr) (fun _ jv _ => (i - intOf jv).toNat)
      case atStart => exact ⟨0, acc, rfl, rfl, by omega, hacc, HM, rfl⟩
      case round =>
        clear HM hacc hd
        obtain ⟨j, acc', rfl, rfl, hj, hacc', HM', hw'⟩ := hrel
        replace hw' := hw'.symm
        subst hw'
        by_cases hltj : j < i
        · have hdj : decide ((j : Int) < (i : Int)) = true := by simp; omega
          have hji : (j : Int) < (i : Int) := by omega
          obtain ⟨g2, off2, e2, hcj⟩ := HC.out j (by omega)
          obtain ⟨rfl, rfl⟩ : g = g2 ∧ off = off2 := by
            simp only [Option.some.injEq, Addr.mk.injEq] at e2
            exact ⟨e2.1, e2.2.1⟩
          have haj := HS.out j (by omega)
          have hst := HM'.out.step hltj
          rw [Hx.out] at hst
          obtain ⟨y, Hy⟩ : ∃ y, Hid (S.getD j 0 = y) := ⟨_, rfl⟩
          rw [Hy.out] at hcj haj hst
          have hxy : x &&& y < 2 ^ 40 := Nat.lt_of_le_of_lt Nat.and_le_left hai
          have hand : bits .and .u64 (x : Int) (y : Int) = ((x &&& y : Nat) : Int) := andN (by omega) (by omega)
          have hpc : pc (x &&& y) ≤ 40 := pc_le_of hxy (by omega)
          have hZ := size_any (x &&& y) (by omega)
          obtain ⟨p, Hp⟩ : ∃ p, Hid (pc (x &&& y) = p) := ⟨_, rfl⟩
          obtain ⟨z, Hz⟩ : ∃ z, Hid (x &&& y = z) := ⟨_, rfl⟩
          rw [Hp.out] at hpc hst
          have CZ : Hid (∀ W, Calls Tryd.prog 76 #[.int .u64 (z : Int)] W fun e w' => e = .returned (.int .i64 (p : Int)) ∧ w' = W) := fun W => by rw [← Hz.out, ← Hp.out]; exact hZ W
          rw [Hz.out] at hand
          have h2p : 2 ^ p < 2 ^ 41 := pow_lt64 (by omega)
          have hor : bits .or .u64 (acc' : Int) ((2 ^ p : Nat) : Int) = ((acc' ||| 2 ^ p : Nat) : Int) := orN (by omega) (by omega)
          have hor2 : acc' ||| 2 ^ p < 2 ^ 41 := Nat.or_lt_two_pow hacc' h2p
          have CO : Hid (∀ W, Calls Tryd.prog 109 #[.int .i64 (p : Int)] W fun e w' => e = .returned (.int .u64 ((2 ^ p : Nat) : Int)) ∧ w' = W) := fun W => only_any p (by omega) W
          obtain ⟨q, Hq⟩ : ∃ q, Hid (2 ^ p = q) := ⟨_, (rfl : 2 ^ p = 2 ^ p)⟩
          rw [Hq.out] at hor hor2 CO hst
          obtain ⟨r, Hr⟩ : ∃ r, Hid (acc' ||| q = r) := ⟨_, rfl⟩
          rw [Hr.out] at hor hor2 hst
          have HST : Hid (SnM S i (j + 1) r) := hst
          clear hst hZ e2 h2p
          gi_wp2_with (first
            | (refine ⟨trivial, (callsIn_wide.2 (CZ.out _)).mono ?_⟩; rintro e w3 ⟨rfl, hw3⟩; replace hw3 := hw3.symm; subst hw3)
            | (refine ⟨trivial, (callsIn_wide.2 (CO.out _)).mono ?_⟩; rintro e w3 ⟨rfl, hw3⟩; replace hw3 := hw3.symm; subst hw3))
          go_roundw
          case rel => exact ⟨j + 1, r, by go_num, rfl, by omega, hor2, HST, by trivial⟩
          case measure => simp [intOf]; omega
        · have hdj : decide ((j : Int) < (i : Int)) = false := by simp; omega
          obtain rfl : j = i := by omega
          have HM2 : Hid (SnM S (j + 1) 0 acc') := HM'.out.row
          gi_wp2
          go_roundw
          case rel => exact ⟨j + 1, acc', by go_num, rfl, by omega, hacc', HM2, by trivial⟩
          case measure => simp [intOf]; omega
    · have hd : decide ((i : Int) < (n : Int)) = false := by simp; omega
      obtain rfl : i = n := by omega
      have hT := HTab.out
      have f8 : Boxed (wr.alloc (.cells #[.slice none 0 0] 22)) wr.heap.size 22 (.slice none 0 0) := Boxed.new wr 22 _
      have b1 := balloc wr (.cells #[.slice none 0 0] 22)
      obtain ⟨w1, Hw1⟩ : ∃ w1, Hid (w1 = wr.alloc (.cells #[.slice none 0 0] 22)) := ⟨_, rfl⟩
      have CP := points_any acc w1
      have s1 : w1.heap.size = wr.heap.size + 1 := by rw [Hw1.out]; simp
      rw [← Hw1.out] at f8 b1
      have HS1 : Hid (w1.heap.size = wr.heap.size + 1) := s1
      clear s1 hcut
      gi_wp2_with (refine ⟨trivial, ?_⟩; rw [← Hw1.out]; refine (callsIn_wide.2 CP).mono ?_; rintro e w2 ⟨rfl, hw2⟩)
      have s1 := HS1.out
      have b2 := balloc w1 (.cells #[.int .u64 (acc : Int)] 111)
      have f9 := Boxed.new w1 111 (.int .u64 (acc : Int))
      have s2 : (w1.alloc (.cells #[.int .u64 (acc : Int)] 111)).heap.size = w1.heap.size + 1 := by simp
      rw [← hw2] at b2 f9 s2
      have hT2 : Tab w2 := (hT.next b1).next b2
      have hposn : 1 < wr.heap.size := hT.pos
      rw [← hw2]
      clear hw2 CP
      refine wpIn_runs2 (ys := pts acc) (enc := encI) (Kp := KT) (Ab := AbN) (gf := 125) (lb := #[.pointer (some ⟨w1.heap.size, 0, none⟩)]) rfl (enters_of Tryd.func125 (by kernel_rfl) rfl)
        (points_runs acc _ w1.heap.size w2 (by omega) hT2 f9) (fun _ => rfl) (fun h k => k.trans h) ?hKb (fun _ _ _ _ _ h => h.elim)
        (fun i B => (∃ uu, Boxed B wr.heap.size 22 uu ∧ B.ownsRow w2.heap.size 3 1 uu i ((((pts acc).take i).map Int.ofNat).map (Value.int .i64))) ∧ Below wr.heap.size wr B ∧ w2.heap.size ≤ B.heap.size) (fun _ _ => False) ?hIp (fun _ _ _ _ h => h.elim) (fun _ _ _ _ _ _ _ h => h.elim) (fun _ _ _ _ h => h.elim) ?h0
        (fun x => { tmps := #[.slice a i cap, undef, .slice none 0 0, .int .u64 (acc : Int), u4, u5, undef, u7, .pointer (some ⟨wr.heap.size, 0, none⟩), .int .i64 (x : Int), .slice a i cap, .int .i64 (i : Int), .int .i64 (i : Int), .bool false, u14, u15, u16, u17, u18, u19, u20, u21, u22, u23, u24, u25, u26, u27, u28, u29, u30, u31, u32, u33, .int .u64 (acc : Int), .func (.func 125) #[] #[.pointer (some ⟨w1.heap.size, 0, none⟩)], .int .i64 (x : Int), undef, undef, undef, undef, undef], defers := [] }) ?assign ?body ?done (fun _ _ h => h.elim)
      case hKb =>
        intro B o hB
        exact World.putObj_heap_other (by omega)
      case hIp =>
        rintro i B o o' ⟨⟨uu, g1, g2⟩, g3, g4⟩ ho hc
        exact ⟨⟨uu, boxAt g1 (World.putObj_heap_other (by omega)), ownsRow_putObj g2 _ ho hc⟩, g3.trans (below_put _ _ (by omega)), by simpa [World.putObj] using g4⟩
      case h0 =>
        intro V hb
        exact ⟨⟨_, boxBelow (boxBelow f8 b2 (by omega)) hb (by omega), World.ownsRow_nil _ _ _ _⟩, (b1.trans (b2.mono (by omega))).trans (hb.mono (by omega)), hb.size⟩
      case assign =>
        clear s1 s2
        intro l x W K _ hK
        unfold encI
        gi_wp2
        exact hK
      case body =>
        rintro i' x B hx ⟨⟨uu, g1, g2⟩, g3, g4⟩ hD hrec
        have hlen : i' < (pts acc).length := (List.getElem?_eq_some_iff.1 hx).1
        have h64 : (pts acc).length ≤ 64 := pc_le acc
        have htk : (((pts acc).take (i' + 1)).map Int.ofNat).map (Value.int .i64) = (((pts acc).take i').map Int.ofNat).map (Value.int .i64) ++ [.int .i64 (x : Int)] := by
          rw [List.take_add_one, hx]; simp
        have HTK : Hid ((((pts acc).take (i' + 1)).map Int.ofNat).map (Value.int .i64) = (((pts acc).take i').map Int.ofNat).map (Value.int .i64) ++ [.int .i64 (x : Int)]) := htk
        have q8 := g1.cell
        obtain ⟨ua, uc, eu⟩ := own_formE g2
        have hu := g1
        have hrow := g2
        subst eu
        have r8 := (g1.alloc (.cells #[.int .i64 (x : Int)] 3)).cell
        have hb0 := balloc B (.cells #[.int .i64 (x : Int)] 3)
        have HREC : Hid (∀ b, b = w2.heap.size ∨ b = w2.heap.size + 1 → ∃ o, B.heap[b]? = some o ∧ o.isCells = false) := hrec
        clear hrec htk hx
        gi_wp2_with (gi_at_builtin; refine wpListIn_append_own _ rfl _ _ 22 rfl w2.heap.size 3 i3 (.int .i64 0) 1 8 und22 hi3 hz0 hz1 hz2 rfl (by decide) _ _ _ rfl (hrow.alloc _) ⟨B.heap.size, 0, none⟩ 1 1 [.int .i64 (x : Int)] rfl rfl (cell_one_new _ _ _) (by simp [Value.oneCell']) (by unfold maxLen; omega) (by omega) (by simp; omega) ?_; intro v' w5 hown' hgrow _; obtain ⟨g', cap', rfl⟩ := ownsRow_succ hown'; obtain ⟨k1, k2, k3, k4, _, k6⟩ := appFacts (S := fun b => False) (lo := wr.heap.size) (by decide) hu hrow hb0 (fun _ h => h.elim) (fun h => h) g4 ⟨Nat.le_refl _, by omega⟩ hown' hgrow; have k1c := k1.cell; have k1f := k1.frozen)
        refine ⟨⟨?_, ?_⟩, ?_, ⟨_, k2, by rw [HTK.out]; exact k3⟩, g3.trans k6, Nat.le_trans g4 k6.size⟩
        · obtain ⟨o, h1, h2⟩ := HREC.out _ (.inl rfl)
          rw [k4.same _ _ h1 h2, h1]
        · obtain ⟨o, h1, h2⟩ := HREC.out _ (.inr rfl)
          rw [k4.same _ _ h1 h2, h1]
        · exact k6.block 1 hposn
      case done =>
        rintro B ⟨⟨uu, g1, g2⟩, g3, g4⟩ hK
        have q8 := g1.cell
        have HM3 : Hid (SnM S i 0 acc) := HM
        rw [List.take_of_length_le (Nat.le_refl _)] at g2
        clear HM
        gi_wp2
        refine ⟨by simp, .inl ⟨_, _, rfl, run_takeDeferred hK, ?_⟩⟩
        have bP := below_put (n := w2.heap.size) B (.deferred none) (l := w2.heap.size) (Nat.le_refl _)
        refine ⟨_, results_tmp rfl _ _ _, uu, acc, rfl, hacc, HM3.out, own_low (ownsRow_putObj g2 _ hK rfl) (by omega), g3.trans (bP.mono (by omega))⟩

end Go.Proofs.YtjfjdidibglhaabDoor

/- The walk of Meets, and the law DesignMeets. -/
namespace Go.Proofs.YtjfjdidibglhaabDoor
open Go.RowKit

theorem pc_mt {v : Nat} {b c : List Nat} (hb : b.Pairwise (· < ·)) (hbv : ∀ x ∈ b, x < v) (_hcv : ∀ x ∈ c, x < v) (hv : v ≤ 64) : pc (sb b &&& sb c) = mt b c := by
  have h1 : sb b < 2 ^ 64 := sb_lt fun x hx => by have := hbv x hx; omega
  have e : pts (sb b &&& sb c) = b.filter fun x => c.contains x := by
    refine pts_ext (hb.filter _) (Nat.lt_of_le_of_lt Nat.and_le_left h1) fun i => ?_
    rw [Nat.testBit_and, sb_bit, sb_bit, List.mem_filter, Bool.and_eq_true, List.contains_iff_mem]
  unfold pc mt
  rw [e, List.countP_eq_length_filter]
theorem getD_map (B : List (List Nat)) {i : Nat} (hi : i < B.length) : (B.map sb).getD i 0 = sb (B.getD i []) := by
  rw [List.getD_eq_getElem?_getD, List.getD_eq_getElem?_getD, List.getElem?_map, List.getElem?_eq_getElem hi]
  rfl
theorem getD_memB {B : List (List Nat)} {i : Nat} (hi : i < B.length) : B.getD i [] ∈ B := by
  rw [List.getD_eq_getElem?_getD, List.getElem?_eq_getElem hi]; exact List.getElem_mem hi
theorem meet_is {v acc : Nat} {B : List (List Nat)} (G : GoodD v B) (hacc : acc < 2 ^ 41) (h : SnM (B.map sb) (B.map sb).length 0 acc) : pts acc = mtL v B := by
  have h40 := G.le
  unfold mtL
  refine pts_ext (List.pairwise_lt_range.filter _) (by omega) fun n => ?_
  rw [h n, List.mem_filter, List.mem_range, metB_iff, List.length_map]
  have key : ∀ i j, j < i → i < B.length → pc ((B.map sb).getD i 0 &&& (B.map sb).getD j 0) = mt (B.getD i []) (B.getD j []) := fun i j h1 h2 => by
    rw [getD_map B h2, getD_map B (by omega)]
    have r1 := rs_iff.1 (G.rs _ (getD_memB h2))
    have r2 := rs_iff.1 (G.rs _ (getD_memB (show j < B.length by omega)))
    exact pc_mt r1.1 (fun x hx => (r1.2 x hx).2) (fun x hx => (r2.2 x hx).2) (by omega)
  constructor
  · rintro ⟨i, j, h1, h2 | h2, h3⟩
    · rw [key i j h1 h2] at h3
      refine ⟨?_, i, j, h1, h2, h3⟩
      have : mt (B.getD i []) (B.getD j []) ≤ (B.getD i []).length := List.countP_le_length
      have := (G.bls _ (getD_memB h2)).le
      omega
    · omega
  · rintro ⟨_, i, j, h1, h2, h3⟩
    exact ⟨i, j, h1, .inl h2, by rw [key i j h1 h2]; exact h3⟩
theorem good_sb40 {v : Nat} {B : List (List Nat)} (G : GoodD v B) : ∀ x ∈ B.map sb, x < 2 ^ 40 := fun x hx => by
  obtain ⟨b, hb, rfl⟩ := List.mem_map.1 hx
  have h40 := G.le
  exact sb_lt fun y hy => by have := (G.bls b hb).lt y hy; omega

set_option maxRecDepth 100000 in
set_option maxHeartbeats 4000000 in
theorem Meets_good (v : Nat) (B : List (List Nat)) (u : Value) (w : World) (hT : Tab w) (G : GoodD v B) (hu : Rw w u (toZ B)) :
    Calls Tryd.prog 98 #[.agg #[.int .i64 (v : Int), u]] w fun e w' => ∃ x, e = .returned (.tuple #[x, .int .i64 0]) ∧ w'.ownsRow w.heap.size 3 1 x (mtL v B).length (((mtL v B).map Int.ofNat).map (Value.int .i64)) ∧ Below w.heap.size w w' := by
  obtain ⟨x0, x1⟩ := lv_box v u w
  have b0 := balloc w (.cells #[.int .i64 (v : Int), u] 44)
  have C1 := open_good v B u _ G (hu.below b0)
  have HM : Hid (∀ (x : Value) (W : World), Tab W → SC W x (B.map sb) → Calls Tryd.prog 118 #[x] W fun e w' => ∃ (y : Value), e = .returned y ∧ w'.ownsRow W.heap.size 3 1 y (mtL v B).length (((mtL v B).map Int.ofNat).map (Value.int .i64)) ∧ Below W.heap.size W w') := fun x W hT hx => by
    refine (meets_any (B.map sb) x W hT hx (by rw [List.length_map]; exact G.few) (good_sb40 G)).mono ?_
    rintro e w' ⟨y, acc, rfl, h1, h2, h3, h4⟩
    rw [meet_is G h1 h2] at h3
    exact ⟨y, rfl, h3, h4⟩
  have hT0 := hT.next b0
  have HT0 : Hid (Tab (w.alloc (.cells #[.int .i64 (v : Int), u] 44))) := hT0
  clear hu G
  go_enter Tryd.func98, Tryd.ntmps98
  go_wp2_with (first
    | (go_at_call 36; refine C1.mono ?_; rintro e w3 ⟨⟨x, rfl, hrow⟩, hb3⟩; clear C1; have CM := HM.out x w3 (HT0.out.next hb3) hrow.sc)
    | (go_at_call 118; refine CM.mono ?_; rintro e w4 ⟨y, rfl, hy, hb4⟩; clear CM))
  have hb5 := Below.next b0 hb3
  refine bodyPost_ret (v := .tuple #[y, .int .i64 0]) (by simp [results, Tryd.results98, go_sem]) rfl ⟨_, rfl, own_low hy hb5.size, Below.next hb5 hb4⟩

end Go.Proofs.YtjfjdidibglhaabDoor

/- The walks of the library's Index, Contains and Equal, and of planeOrder and Check. -/
namespace Go.Proofs.YtjfjdidibglhaabDoor
open Go.RowKit

theorem eqZ_of {a b : List Int} (hl : a.length = b.length) (h : ∀ j, j < a.length → a.getD j 0 = b.getD j 0) : a = b := by
  refine List.ext_getElem hl fun j h1 h2 => ?_
  have := h j h1
  rw [List.getD_eq_getElem?_getD, List.getD_eq_getElem?_getD, List.getElem?_eq_getElem h1, List.getElem?_eq_getElem h2] at this
  exact this
set_option maxRecDepth 100000 in
set_option maxHeartbeats 4000000 in
theorem Equal_any (a b : List Int) (q : Bool) (u v : Value) (w : World) (hu : Sl w u a) (hv : Sl w v b) (ha : a.length ≤ 100) (hb : b.length ≤ 100) (hq : q = true ↔ a = b) :
    Calls Tryd.prog 99 #[u, v] w fun e w' => e = .returned (.bool q) ∧ Below w.heap.size w w' := by
  obtain ⟨ua, uc, rfl, hua⟩ := hu
  obtain ⟨va, vc, rfl, hva⟩ := hv
  have HUA : Hid (∀ j, j < a.length → ∃ g o, ua = some ⟨g, o, none⟩ ∧ ∀ W, Below w.heap.size w W → W.cell? ⟨g, o + j, none⟩ = some (.int .i64 (a.getD j 0))) := fun j hj => by
    obtain ⟨g, o, e, hc⟩ := hua j hj
    exact ⟨g, o, e, fun W bW => (bW.cell (World.block_lt_of_cell? _ _ hc)).trans hc⟩
  have HVA : Hid (∀ j, j < b.length → ∃ g o, va = some ⟨g, o, none⟩ ∧ ∀ W, Below w.heap.size w W → W.cell? ⟨g, o + j, none⟩ = some (.int .i64 (b.getD j 0))) := fun j hj => by
    obtain ⟨g, o, e, hc⟩ := hva j hj
    exact ⟨g, o, e, fun W bW => (bW.cell (World.block_lt_of_cell? _ _ hc)).trans hc⟩
  have HNO : Hid (∀ j, j < a.length → a.getD j 0 ≠ b.getD j 0 → q = false) := fun j _ hn => Bool.eq_false_iff.2 fun k => hn (by rw [hq.1 k])
  by_cases hl : a.length = b.length
  · have HYE : Hid ((∀ j, j < a.length → a.getD j 0 = b.getD j 0) → q = true) := fun h => hq.2 (eqZ_of hl h)
    generalize a.length = n at *
    generalize b.length = m at *
    subst hl
    have hnn : ((n : Int) != (n : Int)) = false := by simp
    clear hua hva hq
    go_enter Tryd.func99, Tryd.ntmps99
    go_wp2
    go_loopw [13] (fun iv wr => ∃ i : Nat, iv = .int .i64 (i : Int) ∧ i ≤ n ∧ Hid (∀ j, j < i → a.getD j 0 = b.getD j 0) ∧ Below w.heap.size w wr) (fun iv _ => (n - intOf iv).toNat)
    case atStart => exact ⟨0, rfl, by omega, (show ∀ j, j < 0 → _ from fun j h => by omega), Below.refl _ _⟩
    case round =>
      obtain ⟨i, rfl, hi, HI, hB⟩ := hrel
      by_cases hlt : i < n
      · have hdi : decide ((i : Int) < (n : Int)) = true := by simp; omega
        have hii : (i : Int) < (n : Int) := by omega
        obtain ⟨g, o, rfl, hc0⟩ := HUA.out i hlt
        obtain ⟨g2, o2, rfl, hc20⟩ := HVA.out i hlt
        have hc := hc0 _ hB
        have hc2 := hc20 _ hB
        clear hc0 hc20
        have hno := HNO.out i hlt
        have HI2 : Hid (a.getD i 0 = b.getD i 0 → ∀ j, j < i + 1 → a.getD j 0 = b.getD j 0) := fun h j hj => by
          by_cases e : j = i
          · rw [e]; exact h
          · exact HI.out j (by omega)
        obtain ⟨x, Hx⟩ : ∃ x, Hid (a.getD i 0 = x) := ⟨_, rfl⟩
        obtain ⟨y, Hy⟩ : ∃ y, Hid (b.getD i 0 = y) := ⟨_, rfl⟩
        rw [Hx.out, Hy.out] at hno HI2
        rw [Hx.out] at hc
        rw [Hy.out] at hc2
        by_cases he : x = y
        · subst he
          have hxx : (x != x) = false := by simp
          have hxx2 : (x == x) = true := by simp
          have HI3 : Hid (∀ j, j < i + 1 → a.getD j 0 = b.getD j 0) := HI2.out rfl
          clear HI2 HI hno
          go_wp2
          go_quiet (fail)
          go_wp2
          go_roundw
          case rel => exact ⟨i + 1, by go_num, by omega, HI3, bdrewN hB _⟩
          case measure => simp [intOf]; omega
        · obtain rfl := hno he
          have hxy : (x != y) = true := by simpa using he
          have hxy2 : (x == y) = false := by simpa using he
          clear HI2 HI hno
          go_wp2
          go_quiet (fail)
          go_wp2
          go_ret
          exact ⟨rfl, bdrewN hB _⟩
      · have hdi : decide ((i : Int) < (n : Int)) = false := by simp; omega
        obtain rfl := HYE.out fun j hj => HI.out j (by omega)
        go_wp2
        go_ret
        exact ⟨rfl, hB⟩
  · obtain rfl : q = false := Bool.eq_false_iff.2 fun k => hl (by rw [hq.1 k])
    generalize a.length = n at *
    generalize b.length = m at *
    have hnm' : ¬ (n : Int) = (m : Int) := by omega
    have hnm : ((n : Int) != (m : Int)) = true := by simpa using hnm'
    clear hua hva hq HUA HVA HNO
    go_enter Tryd.func99, Tryd.ntmps99
    go_wp2
    go_ret
    exact ⟨rfl, Below.refl _ _⟩

end Go.Proofs.YtjfjdidibglhaabDoor

/- The walks of planeOrder and Check. -/
namespace Go.Proofs.YtjfjdidibglhaabDoor
open Go.RowKit

theorem slz_one (w : World) (a : Int) : Sl (w.alloc (.cells #[.int .i64 a] 3)) (.slice (some ⟨w.heap.size, 0, none⟩) 1 1) [a] := by
  refine ⟨_, 1, rfl, fun j hj => ⟨w.heap.size, 0, rfl, ?_⟩⟩
  have h := cell_of_row (w.alloc (.cells #[.int .i64 a] 3)) w.heap.size (0 + j) _ _ _ (heap_alloc_new w _)
  rw [h]
  have : j = 0 := by simp at hj; omega
  subst this; rfl
theorem lv_cases {v : Nat} {B : List (List Nat)} {e : Ending} (h : LvT v B 2 e) : ∃ k l z : Nat, e = .returned (.tuple #[.int .i64 (k : Int), .int .i64 (l : Int), .int .i64 (z : Int)]) ∧ (z = 0 → LvOk v B 2 k l) := by
  rcases h with ⟨_, rfl⟩ | ⟨m, hm, _, _, ⟨k, l, h, rfl⟩ | ⟨_, rfl⟩⟩
  · exact ⟨0, 0, 1, rfl, fun h => by omega⟩
  · obtain rfl : m = 2 := by omega
    exact ⟨k, l, 0, rfl, fun _ => h⟩
  · exact ⟨0, 0, 4, rfl, fun h => by omega⟩
theorem filt_one : ∀ n : Nat, 2 ≤ n → (List.range n).filter (fun x => x == 1) = [1]
  | 0, h => by omega
  | 1, h => by omega
  | 2, _ => rfl
  | n + 3, _ => by
    rw [List.range_succ, List.filter_append, filt_one (n + 2) (by omega)]
    rfl
theorem mtL_one {v : Nat} {B : List (List Nat)} (hB : Bls v B) (hv : 1 ≤ v) : mtL v B = [1] ↔ (∃ i, 0 < i ∧ i < B.length) ∧ ∀ (i j : Nat) (b c : List Nat), j < i → B[i]? = some b → B[j]? = some c → mt b c = 1 := by
  have key : ∀ {i : Nat} {b : List Nat}, B[i]? = some b → B.getD i [] = b := fun h => by rw [List.getD_eq_getElem?_getD, h]; rfl
  constructor
  · intro h
    have h1 : 1 ∈ mtL v B := by rw [h]; simp
    refine ⟨?_, fun i j b c hji hb hc => ?_⟩
    · obtain ⟨i, j, h2, h3, _⟩ := metB_iff.1 (List.mem_filter.1 h1).2
      exact ⟨i, by omega, h3⟩
    · have hm : mt b c ∈ mtL v B := by
        refine List.mem_filter.2 ⟨List.mem_range.2 ?_, metB_iff.2 ⟨i, j, hji, at_lt hb, by rw [key hb, key hc]⟩⟩
        have h1 : mt b c ≤ b.length := List.countP_le_length
        have := (hB b (List.mem_of_getElem? hb)).le
        omega
      rw [h] at hm
      simpa using hm
  · rintro ⟨⟨i, h0, hi⟩, h⟩
    rw [← filt_one (v + 1) (by omega)]
    refine List.filter_congr fun x _ => Bool.eq_iff_iff.2 ?_
    rw [metB_iff, beq_iff_eq]
    constructor
    · rintro ⟨i, j, hji, hi, rfl⟩
      obtain ⟨b, hb⟩ := at_of hi
      obtain ⟨c, hc⟩ := at_of (Nat.lt_trans hji hi)
      rw [key hb, key hc]
      exact h i j b c hji hb hc
    · rintro rfl
      obtain ⟨b, hb⟩ := at_of hi
      obtain ⟨c, hc⟩ := at_of (show 0 < B.length by omega)
      exact ⟨i, 0, h0, hi, by rw [key hb, key hc]; exact h i 0 b c h0 hb hc⟩
theorem prp_of {v k : Nat} {B : List (List Nat)} (hB : Bls v B) (hv : 1 ≤ v) (h3 : 3 ≤ k) (h : LvOk v B 2 k 1) (hm : mtL v B = [1]) : PlP v B :=
  PrP.plp hB ⟨h.2.1, h3, h.2.2, ((mtL_one hB hv).1 hm).1, ((mtL_one hB hv).1 hm).2⟩
theorem prp_lv {v k : Nat} {B : List (List Nat)} (h : PrP v B k) : LvOk v B 2 k 1 := ⟨fun e => by
    obtain ⟨i, _, hi⟩ := h.more
    rw [e] at hi; simp at hi, h.size, h.two⟩
theorem ofn_one {l : List Nat} : l.map Int.ofNat = [1] ↔ l = [1] := by
  constructor
  · intro h
    match l, h with
    | [], h => simp at h
    | [x], h =>
      have : Int.ofNat x = Int.ofNat 1 := by simpa using h
      rw [Int.ofNat.inj this]
    | x :: y :: l, h => simp at h
  · rintro rfl; rfl
theorem mtL_len (v : Nat) (B : List (List Nat)) : (mtL v B).length ≤ v + 1 := by
  unfold mtL
  exact Nat.le_trans (List.length_filter_le _ _) (by simp)
set_option maxRecDepth 100000 in
set_option maxHeartbeats 8000000 in
theorem planeOrder_any (v : Nat) (B : List (List Nat)) (r : Int) (q : Bool) (u : Value) (w : World) (hT : Tab w) (G : GoodD v B) (hu : Rw w u (toZ B))
    (hy : q = true → ∃ k, PrP v B k ∧ r = (k : Int) - 1) (hn : q = false → ¬ PlP v B ∧ r = 0) :
    Calls Tryd.prog 67 #[.agg #[.int .i64 (v : Int), u]] w fun e w' => e = .returned (.tuple #[.int .i64 r, .bool q]) ∧ Below w.heap.size w w' := by
  have hv1 := G.pos
  have h40 := G.le
  have HBLS : Hid (Bls v B) := G.bls
  have HC : Hid (∀ W, Below (w.alloc (.cells #[.int .i64 (v : Int), u] 44)).heap.size (w.alloc (.cells #[.int .i64 (v : Int), u] 44)) W → W.cell? ⟨w.heap.size, 0, none⟩ = some (.int .i64 (v : Int)) ∧ W.cell? ⟨w.heap.size, 1, none⟩ = some u) := des_box (v : Int) u w
  obtain ⟨x0, x1⟩ := HC.out _ (Below.refl _ _)
  have b0 := balloc w (.cells #[.int .i64 (v : Int), u] 44)
  have C1 := Level_any v 2 B u _ G (hu.below b0)
  have HM : Hid (∀ W, Below w.heap.size w W → Calls Tryd.prog 98 #[.agg #[.int .i64 (v : Int), u]] W fun e w' => ∃ xa xn xc, e = .returned (.tuple #[.slice xa xn xc, .int .i64 0]) ∧ Hid (Sl w' (.slice xa xn xc) ((mtL v B).map Int.ofNat)) ∧ Below W.heap.size W w') := fun W hW => by
    refine (Meets_good v B u W (hT.next hW) G (hu.below hW)).mono ?_
    rintro e w' ⟨x, rfl, h, b⟩
    have h1 : Sl w' x ((mtL v B).map Int.ofNat) := Sl.owned (by rw [List.length_map]; exact h)
    obtain ⟨xa, xc, rfl, _⟩ := id h1
    exact ⟨xa, _, xc, rfl, h1, b⟩
  have HE : Hid (∀ (W : World) (x : Value) (q : Bool), Sl W x ((mtL v B).map Int.ofNat) → (q = true ↔ mtL v B = [1]) → Calls Tryd.prog 99 #[x, .slice (some ⟨W.heap.size, 0, none⟩) 1 1] (W.alloc (.cells #[.int .i64 1] 3)) fun e w' => e = .returned (.bool q) ∧ Below (W.alloc (.cells #[.int .i64 1] 3)).heap.size (W.alloc (.cells #[.int .i64 1] 3)) w') := fun W x q hx hq =>
    Equal_any _ [1] q _ _ _ (hx.alloc _) (slz_one W 1) (by rw [List.length_map]; have := mtL_len v B; omega) (by decide) (hq.trans ofn_one.symm)
  have hform : ∃ a n c, u = .slice a n c := by obtain ⟨a, c, e, _⟩ := hu; exact ⟨a, _, c, e⟩
  obtain ⟨a, n, c, rfl⟩ := hform
  clear hu
  cases q
  · obtain ⟨hnp, rfl⟩ := hn rfl
    have HNP : Hid (∀ k, 3 ≤ k → LvOk v B 2 k 1 → ¬ mtL v B = [1]) := fun k h3 h hm => hnp (prp_of HBLS.out hv1 h3 h hm)
    clear hy hn hnp G
    obtain ⟨w0, Hw0⟩ : ∃ w0, Hid (w0 = w) := ⟨_, rfl⟩
    have C1' : Calls Tryd.prog 16 #[.agg #[.int .i64 (v : Int), .slice a n c], .int .i64 2] (w.alloc (.cells #[.int .i64 (v : Int), .slice a n c] 44)) fun e w' => (∃ k l z : Nat, e = .returned (.tuple #[.int .i64 (k : Int), .int .i64 (l : Int), .int .i64 (z : Int)]) ∧ Hid (z = 0 → LvOk v B 2 k l)) ∧ Below (w.alloc (.cells #[.int .i64 (v : Int), .slice a n c] 44)).heap.size (w.alloc (.cells #[.int .i64 (v : Int), .slice a n c] 44)) w' := by
      refine C1.mono ?_
      rintro e w' ⟨h, b⟩
      obtain ⟨k, l, z, e1, h1⟩ := lv_cases h
      exact ⟨⟨k, l, z, e1, h1⟩, b⟩
    clear C1
    go_enter Tryd.func67, Tryd.ntmps67
    go_wp2_with fail
    go_at_call 16
    refine C1'.mono ?_
    rintro e w1 ⟨⟨k, l, z, rfl, HL⟩, b1⟩
    clear C1'
    obtain ⟨y0, y1⟩ := HC.out _ b1
    replace b1 := Below.next b0 b1
    by_cases hz : z = 0
    · subst hz
      have HL := HL.out rfl
      by_cases hl : l = 1
      · subst hl
        by_cases hk : k < 3
        · have hdk : decide ((k : Int) < 3) = true := by simp; omega
          have hdk' : (k : Int) < 3 := by omega
          clear HL
          go_wp2
          exact bodyPost_ret (v := .tuple #[.int .i64 0, .bool false]) (by simp [results, Tryd.results67, go_sem]) rfl ⟨rfl, b1⟩
        · have hdk : decide ((k : Int) < 3) = false := by simp; omega
          have hdk' : ¬ (k : Int) < 3 := by omega
          have HMN := HNP.out k (by omega) HL
          have CM := HM.out _ b1
          clear HL
          have HMF : (false = true ↔ mtL v B = [1]) := ⟨fun h => (Bool.false_ne_true h).elim, fun h => absurd h HMN⟩
          have HMF : Hid (false = true ↔ mtL v B = [1]) := HMF
          clear HMN
          go_wp2_with (first
            | (go_at_call 98; refine CM.mono ?_; rintro e w2 ⟨xa, xn, xc, rfl, hx, b2⟩; clear CM; have CE := HE.out w2 _ false hx.out HMF.out; clear hx; replace b2 := Below.next b1 b2)
            | (go_at_call 99; refine CE.mono ?_; rintro e w3 ⟨rfl, b3⟩; clear CE; replace b3 := Below.next (Below.next b2 (balloc _ _)) b3))
          exact bodyPost_ret (v := .tuple #[.int .i64 0, .bool false]) (by simp [results, Tryd.results67, go_sem]) rfl ⟨rfl, b3⟩
      · have hdl : ((l : Int) != 1) = true := by
          have : ¬ (l : Int) = 1 := by omega
          simpa using this
        have hdl' : ¬ (l : Int) = 1 := by omega
        clear HL
        go_wp2
        exact bodyPost_ret (v := .tuple #[.int .i64 0, .bool false]) (by simp [results, Tryd.results67, go_sem]) rfl ⟨rfl, b1⟩
    · have hdz : ((z : Int) != 0) = true := by
        have : ¬ (z : Int) = 0 := by omega
        simpa using this
      have hdz' : ¬ (z : Int) = 0 := by omega
      clear HL
      go_wp2
      exact bodyPost_ret (v := .tuple #[.int .i64 0, .bool false]) (by simp [results, Tryd.results67, go_sem]) rfl ⟨rfl, b1⟩
  · obtain ⟨k, hk, rfl⟩ := hy rfl
    have hk3 := hk.big
    have HMN : Hid (mtL v B = [1]) := (mtL_one HBLS.out hv1).2 ⟨hk.more, hk.meet⟩
    have hk40 : k ≤ 40 := by
      obtain ⟨i, _, hi⟩ := hk.more
      obtain ⟨b, hb⟩ := at_of hi
      rw [← hk.size b (List.mem_of_getElem? hb)]
      exact G.len (List.mem_of_getElem? hb)
    have hv2 : 2 ≤ v := by
      refine Nat.le_of_not_lt fun h => ?_
      have := hk.plp HBLS.out
      have := this.2.2.1
      omega
    have C1' : Calls Tryd.prog 16 #[.agg #[.int .i64 (v : Int), .slice a n c], .int .i64 2] (w.alloc (.cells #[.int .i64 (v : Int), .slice a n c] 44)) fun e w' => e = .returned (.tuple #[.int .i64 (k : Int), .int .i64 1, .int .i64 0]) ∧ Below (w.alloc (.cells #[.int .i64 (v : Int), .slice a n c] 44)).heap.size (w.alloc (.cells #[.int .i64 (v : Int), .slice a n c] 44)) w' := by
      refine C1.mono ?_
      rintro e w' ⟨h, b⟩
      exact ⟨h.one (.inr ⟨2, rfl, by omega, hv2, .inl ⟨k, 1, prp_lv hk, rfl⟩⟩), b⟩
    clear C1 hy hn G hk
    have hdk : decide ((k : Int) < 3) = false := by simp; omega
    have hdk' : ¬ (k : Int) < 3 := by omega
    go_enter Tryd.func67, Tryd.ntmps67
    go_wp2_with (first
      | (go_at_call 16; refine C1'.mono ?_; rintro e w1 ⟨rfl, b1⟩; clear C1'; obtain ⟨y0, y1⟩ := HC.out _ b1; replace b1 := Below.next b0 b1; have CM := HM.out _ b1)
      | (go_at_call 98; refine CM.mono ?_; rintro e w2 ⟨xa, xn, xc, rfl, hx, b2⟩; clear CM; have CE := HE.out w2 _ true hx.out ⟨fun _ => HMN.out, fun _ => rfl⟩; clear hx; replace b2 := Below.next b1 b2)
      | (go_at_call 99; refine CE.mono ?_; rintro e w3 ⟨rfl, b3⟩; clear CE; replace b3 := Below.next (Below.next b2 (balloc _ _)) b3))
    exact bodyPost_ret (v := .tuple #[.int .i64 ((k : Int) - 1), .bool true]) (by simp [results, Tryd.results67, go_sem]) rfl ⟨rfl, b3⟩

end Go.Proofs.YtjfjdidibglhaabDoor

namespace Go.Proofs.YtjfjdidibglhaabDoor
open Go.RowKit

set_option maxRecDepth 100000 in
set_option maxHeartbeats 4000000 in
theorem PCheck_yes (v k : Nat) (B : List (List Nat)) (u : Value) (w : World) (hT : Tab w) (G : GoodD v B) (hd : dF (v : Int) (toZ B) = 0) (hu : Rw w u (toZ B)) (hk : PrP v B k) :
    Calls Tryd.prog 31 #[.agg #[.int .i64 (v : Int), u]] w fun e w' => e = .returned (.tuple #[.int .i64 ((k : Int) - 1), .int .i64 0]) ∧ Below w.heap.size w w' := by
  have b0 := balloc w (.cells #[.int .i64 (v : Int), u] 44)
  have C := Check_any v (toZ B) u _ (hu.below b0) (by unfold toZ maxLen; rw [List.length_map]; have := G.few; omega) (fun l hl => by
    obtain ⟨b, hb, rfl⟩ := List.mem_map.1 hl
    rw [List.length_map]; have := G.len hb; unfold maxLen; omega)
  rw [hd] at C
  have HO : Hid (∀ W, Below w.heap.size w W → Calls Tryd.prog 67 #[.agg #[.int .i64 (v : Int), u]] W fun e w' => e = .returned (.tuple #[.int .i64 ((k : Int) - 1), .bool true]) ∧ Below W.heap.size W w') := fun W hW => planeOrder_any v B _ true u W (hT.next hW) G (hu.below hW) (fun _ => ⟨k, hk, rfl⟩) (fun h => by cases h)
  have HC : Hid (∀ W, Below (w.alloc (.cells #[.int .i64 (v : Int), u] 44)).heap.size (w.alloc (.cells #[.int .i64 (v : Int), u] 44)) W → W.cell? ⟨w.heap.size, 0, none⟩ = some (.int .i64 (v : Int)) ∧ W.cell? ⟨w.heap.size, 1, none⟩ = some u) := des_box (v : Int) u w
  obtain ⟨x0, x1⟩ := HC.out _ (Below.refl _ _)
  obtain ⟨a, n, c, rfl⟩ : ∃ a n c, u = .slice a n c := by obtain ⟨a, c, e, _⟩ := hu; exact ⟨a, _, c, e⟩
  obtain ⟨r, Hr⟩ : ∃ r, Hid ((k : Int) - 1 = r) := ⟨_, rfl⟩
  rw [Hr.out] at HO ⊢
  clear hu hd G
  go_enter Tryd.func31, Tryd.ntmps31
  go_wp2_with (first
    | (go_at_call 66; refine C.mono ?_; rintro e w1 ⟨rfl, b1⟩; clear C; obtain ⟨y0, y1⟩ := HC.out _ b1; replace b1 := Below.next b0 b1; have CO := HO.out _ b1)
    | (go_at_call 67; refine CO.mono ?_; rintro e w2 ⟨rfl, b2⟩; clear CO; replace b2 := Below.next b1 b2))
  exact bodyPost_ret (v := .tuple #[.int .i64 r, .int .i64 0]) (by simp [results, Tryd.results31, go_sem]) rfl ⟨rfl, b2⟩
end Go.Proofs.YtjfjdidibglhaabDoor
