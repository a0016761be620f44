/- The walk of together. -/
import Derived.Test.YtamdpcajfgbagaaE7
namespace Go.Proofs.Ytamdpcajfgbagaa
open Go.RowKit Go.Shelf

attribute [local go_sem] Oper.semAt_some

def hN (S : List Nat) (s : Nat) : Nat := S.countP fun b => decide (an s b = 0)

theorem res_two {fn : Func} {a b : Tmp} {tmps : Array Value} {w : World} {g1 g2 : Nat} {x : Int} {q : Bool} (h : fn.results = #[.cell a 3, .cell b 4]) (p1 : tmps.getD a undef = .pointer (some ⟨g1, 0, none⟩)) (p2 : tmps.getD b undef = .pointer (some ⟨g2, 0, none⟩)) (h1 : Boxed w g1 3 (.int .i64 x)) (h2 : Boxed w g2 4 (.bool q)) :
    (results fn tmps).run Try.prog w = .ok (.tuple #[.int .i64 x, .bool q]) w := by
  have e1 := h1.cell
  have e2 := h2.cell
  rw [Array.getD_eq_getD_getElem?] at p1 p2
  simp [results, h, go_sem, p1, p2, e1, e2]

/-- What together holds. -/
structure TgI (w w3 : World) (u r6 r7 : Value) (lam : Nat) (B : World) : Prop where
  b5 : Boxed B w.heap.size 53 u
  b6 : Boxed B (w.heap.size + 1) 3 r6
  b7 : Boxed B (w.heap.size + 1 + 1) 4 r7
  b8 : Boxed B w3.heap.size 3 (.int .i64 (lam : Int))
  bw : Below w.heap.size w B
theorem TgI.mv {w w3 A B : World} {u r6 r7 : Value} {lam : Nat} (h : TgI w w3 u r6 r7 lam A) (k : Below (w3.heap.size + 1) A B) (h3 : w3.heap.size = w.heap.size + 3) : TgI w w3 u r6 r7 lam B :=
  ⟨boxBelow h.b5 k (by omega), boxBelow h.b6 k (by omega), boxBelow h.b7 k (by omega), boxBelow h.b8 k (by omega), h.bw.trans (k.mono (by omega))⟩

set_option maxRecDepth 100000 in
set_option maxHeartbeats 8000000 in
theorem together_any (v t : Nat) (S : List Nat) (u : Value) (w : World) (hv : v ≤ 40) (ht : t ≤ 4) (hu : SS w u S) (hl : S.length ≤ 200) (hS : ∀ x ∈ S, x < 2 ^ 64) :
    Calls Try.prog 28 #[.int .i64 (v : Int), .int .i64 (t : Int), u] w fun e w' => ((e = .returned (.tuple #[.int .i64 (hN S (2 ^ t - 1) : Int), .bool true]) ∧ ∀ s ∈ chL t v, hN S s = hN S (2 ^ t - 1)) ∨ (e = .returned (.tuple #[.int .i64 0, .bool false]) ∧ ∃ s ∈ chL t v, hN S s ≠ hN S (2 ^ t - 1))) ∧ Below w.heap.size w w' := by
  refine (callsIn_wide (n := 4)).1 ?_
  have hu0 := hu
  obtain ⟨ua, uc, eu, _⟩ := hu0
  have hb3 : Below w.heap.size w (((w.alloc (.cells #[u] 53)).alloc (.cells #[.int .i64 0] 3)).alloc (.cells #[.bool false] 4)) := ((balloc w _).alloc (by simp) _).alloc (by simp; omega) _
  have f5 : Boxed (((w.alloc (.cells #[u] 53)).alloc (.cells #[.int .i64 0] 3)).alloc (.cells #[.bool false] 4)) w.heap.size 53 u := ((Boxed.new w 53 u).alloc _).alloc _
  have f6 : Boxed (((w.alloc (.cells #[u] 53)).alloc (.cells #[.int .i64 0] 3)).alloc (.cells #[.bool false] 4)) (w.heap.size + 1) 3 (.int .i64 0) := by
    have h := Boxed.new (w.alloc (.cells #[u] 53)) 3 (.int .i64 0)
    rw [World.size_alloc] at h
    exact h.alloc _
  have f7 : Boxed (((w.alloc (.cells #[u] 53)).alloc (.cells #[.int .i64 0] 3)).alloc (.cells #[.bool false] 4)) (w.heap.size + 1 + 1) 4 (.bool false) := by
    have h := Boxed.new ((w.alloc (.cells #[u] 53)).alloc (.cells #[.int .i64 0] 3)) 4 (.bool false)
    rw [World.size_alloc, World.size_alloc] at h
    exact h
  have s3 : (((w.alloc (.cells #[u] 53)).alloc (.cells #[.int .i64 0] 3)).alloc (.cells #[.bool false] 4)).heap.size = w.heap.size + 3 := by simp
  obtain ⟨w3, Hw3⟩ : ∃ w3, Hid (w3 = ((w.alloc (.cells #[u] 53)).alloc (.cells #[.int .i64 0] 3)).alloc (.cells #[.bool false] 4)) := ⟨_, rfl⟩
  rw [← Hw3.out] at hb3 f5 f6 f7 s3
  have HH : Hid (∀ (s : Nat) C, s < 2 ^ 64 → Below w.heap.size w C → Calls Try.prog 36 #[u, .int .u64 (s : Int)] C fun e w' => e = .returned (.int .i64 (hN S s : Int)) ∧ w' = C) := fun s C hs hb => holding_any S s u C (hu.below hb) hl hs hS
  have HB : Hid (∀ C, Calls Try.prog 37 #[.int .i64 (t : Int)] C fun e w' => e = .returned (.int .u64 ((2 ^ t - 1 : Nat) : Int)) ∧ w' = C) := fun C => below_any t (by omega) C
  have h64 : 2 ^ t - 1 < 2 ^ 64 := by have := pow_lt64 (n := t) (m := 64) (by omega); omega
  obtain ⟨m, Hm⟩ : ∃ m, Hid (m = 2 ^ t - 1) := ⟨_, (rfl : 2 ^ t - 1 = 2 ^ t - 1)⟩
  rw [← Hm.out] at HB h64 ⊢
  obtain ⟨lam, Hlam⟩ : ∃ lam, Hid (hN S m = lam) := ⟨_, rfl⟩
  rw [Hlam.out]
  have HS3 : Hid (w3.heap.size = w.heap.size + 3) := s3
  have q5 := f5.cell
  have q5d : w3.drew.cell? ⟨w.heap.size, 0, none⟩ = some u := q5
  have q5a : (w3.alloc (.cells #[.int .i64 0] 3)).cell? ⟨w.heap.size, 0, none⟩ = some u := (f5.alloc _).cell
  have C20 : Calls Try.prog 36 #[u, .int .u64 (m : Int)] w3.drew fun e w' => e = .returned (.int .i64 (lam : Int)) ∧ w' = w3.drew := by rw [← Hlam.out]; exact HH.out m _ h64 (bdrewN hb3 1)
  have C20a : Calls Try.prog 36 #[u, .int .u64 (m : Int)] ((w3.alloc (.cells #[.int .i64 0] 3)).drew) fun e w' => e = .returned (.int .i64 (lam : Int)) ∧ w' = (w3.alloc (.cells #[.int .i64 0] 3)).drew := by rw [← Hlam.out]; exact HH.out m _ h64 (bdrewN (hb3.alloc (by have := HS3.out; omega) _) 1)
  clear s3
  subst eu
  generalize S.length = sl at *
  refine callsIn_of_wp_marks Try.func28 rfl trivial ?_ rfl
  simp only [Try.ntmps28, List.size_toArray, List.length_cons, List.length_nil, Nat.reduceAdd, Nat.reduceSub, Array.replicate_succ, Array.replicate_zero, List.push_toArray, List.append_toArray, List.nil_append, List.cons_append]
  gi_wp2
  rw [← Hw3.out]
  refine wpIn_mono (Q := fun e a' w' => e = .normal ∧ a' = { tmps := #[.int .i64 (v : Int), .int .i64 (t : Int), .slice ua sl uc, undef, undef, .pointer (some ⟨w.heap.size, 0, none⟩), .pointer (some ⟨w.heap.size + 1, 0, none⟩), .pointer (some ⟨w.heap.size + 1 + 1, 0, none⟩), .pointer (some ⟨w3.heap.size, 0, none⟩), undef, .slice ua sl uc, .int .i64 (t : Int), .int .u64 (m : Int), .int .i64 (lam : Int), undef, undef, undef, undef, undef, undef, undef, undef, undef, undef], defers := [] } ∧ w' = (w3.alloc (.cells #[.int .i64 (lam : Int)] 3)).drew) ?region ?rest
  case region =>
    refine wpIn_region_any (by kernel_rfl) ?_
    try (change wpAnyIn _ _ _ _ _ _ _ _ _ (World.drew _))
    refine wpAnyIn_take (i := 1) (v := .int .i64 (t : Int)) rfl rfl (by kernel_rfl) (by kernel_rfl) (by kernel_rfl) (by intro _ _ _ h; first | exact h | cases h.1) ⟨Or.inl ⟨by rfl, fun w => by go_simp⟩, fun _ => rfl⟩ ?_
    refine wpAnyIn_ready (rs := [0, 2, 4]) (by kernel_rfl) (by simp) (AllReadyIn.cons rfl (fun K hK => ?_) (AllReadyIn.cons rfl (fun K hK => ?_) (AllReadyIn.cons rfl (fun K hK => ?_) AllReadyIn.nil)))
    · go_simp
      refine hK _ _ ?_
      clear hK K
      refine wpAnyIn_ready (rs := [2, 4]) (by kernel_rfl) (by simp) (AllReadyIn.cons rfl (fun K hK => ?_) (AllReadyIn.cons rfl (fun K hK => ?_) AllReadyIn.nil))
      · go_simp
        refine ⟨trivial, (callsIn_wide.2 (HB.out _)).mono ?_⟩
        rintro e C0 ⟨rfl, hC0⟩
        subst hC0
        refine hK _ _ ?_
        clear hK K
        refine wpAnyIn_ready (rs := [3, 4]) (by kernel_rfl) (by simp) (AllReadyIn.cons rfl (fun K hK => ?_) (AllReadyIn.cons rfl (fun K hK => ?_) AllReadyIn.nil))
        · go_simp
          refine ⟨trivial, (callsIn_wide.2 (by first | exact C20 | exact C20a)).mono ?_⟩
          rintro e C0 ⟨rfl, hC0⟩
          subst hC0
          refine hK _ _ ?_
          clear hK K
          refine wpAnyIn_ready (rs := [4]) (by kernel_rfl) (by simp) (AllReadyIn.cons rfl (fun K hK => ?_) AllReadyIn.nil)
          go_simp
          refine hK _ _ ?_
          clear hK K
          refine wpAnyIn_ready (rs := [5]) (by kernel_rfl) (by simp) (AllReadyIn.cons rfl (fun K hK => ?_) AllReadyIn.nil)
          go_simp
          refine hK _ _ ?_
          clear hK K
          refine wpAnyIn_done (by kernel_rfl) ?_ _
          exact ⟨rfl, rfl, by first | rfl | simp⟩
        · go_simp
          refine hK _ _ ?_
          clear hK K
          refine wpAnyIn_ready (rs := [3]) (by kernel_rfl) (by simp) (AllReadyIn.cons rfl (fun K hK => ?_) AllReadyIn.nil)
          go_simp
          refine ⟨trivial, (callsIn_wide.2 (by first | exact C20 | exact C20a)).mono ?_⟩
          rintro e C0 ⟨rfl, hC0⟩
          subst hC0
          refine hK _ _ ?_
          clear hK K
          refine wpAnyIn_ready (rs := [5]) (by kernel_rfl) (by simp) (AllReadyIn.cons rfl (fun K hK => ?_) AllReadyIn.nil)
          go_simp
          refine hK _ _ ?_
          clear hK K
          refine wpAnyIn_done (by kernel_rfl) ?_ _
          exact ⟨rfl, rfl, by first | rfl | simp⟩
      · go_simp
        refine hK _ _ ?_
        clear hK K
        refine wpAnyIn_ready (rs := [2]) (by kernel_rfl) (by simp) (AllReadyIn.cons rfl (fun K hK => ?_) AllReadyIn.nil)
        go_simp
        refine ⟨trivial, (callsIn_wide.2 (HB.out _)).mono ?_⟩
        rintro e C0 ⟨rfl, hC0⟩
        subst hC0
        refine hK _ _ ?_
        clear hK K
        refine wpAnyIn_ready (rs := [3]) (by kernel_rfl) (by simp) (AllReadyIn.cons rfl (fun K hK => ?_) AllReadyIn.nil)
        go_simp
        refine ⟨trivial, (callsIn_wide.2 (by first | exact C20 | exact C20a)).mono ?_⟩
        rintro e C0 ⟨rfl, hC0⟩
        subst hC0
        refine hK _ _ ?_
        clear hK K
        refine wpAnyIn_ready (rs := [5]) (by kernel_rfl) (by simp) (AllReadyIn.cons rfl (fun K hK => ?_) AllReadyIn.nil)
        go_simp
        refine hK _ _ ?_
        clear hK K
        refine wpAnyIn_done (by kernel_rfl) ?_ _
        exact ⟨rfl, rfl, by first | rfl | simp⟩
    · go_simp
      refine ⟨trivial, (callsIn_wide.2 (HB.out _)).mono ?_⟩
      rintro e C0 ⟨rfl, hC0⟩
      subst hC0
      refine hK _ _ ?_
      clear hK K
      refine wpAnyIn_ready (rs := [0, 4]) (by kernel_rfl) (by simp) (AllReadyIn.cons rfl (fun K hK => ?_) (AllReadyIn.cons rfl (fun K hK => ?_) AllReadyIn.nil))
      · go_simp
        refine hK _ _ ?_
        clear hK K
        refine wpAnyIn_ready (rs := [3, 4]) (by kernel_rfl) (by simp) (AllReadyIn.cons rfl (fun K hK => ?_) (AllReadyIn.cons rfl (fun K hK => ?_) AllReadyIn.nil))
        · go_simp
          refine ⟨trivial, (callsIn_wide.2 (by first | exact C20 | exact C20a)).mono ?_⟩
          rintro e C0 ⟨rfl, hC0⟩
          subst hC0
          refine hK _ _ ?_
          clear hK K
          refine wpAnyIn_ready (rs := [4]) (by kernel_rfl) (by simp) (AllReadyIn.cons rfl (fun K hK => ?_) AllReadyIn.nil)
          go_simp
          refine hK _ _ ?_
          clear hK K
          refine wpAnyIn_ready (rs := [5]) (by kernel_rfl) (by simp) (AllReadyIn.cons rfl (fun K hK => ?_) AllReadyIn.nil)
          go_simp
          refine hK _ _ ?_
          clear hK K
          refine wpAnyIn_done (by kernel_rfl) ?_ _
          exact ⟨rfl, rfl, by first | rfl | simp⟩
        · go_simp
          refine hK _ _ ?_
          clear hK K
          refine wpAnyIn_ready (rs := [3]) (by kernel_rfl) (by simp) (AllReadyIn.cons rfl (fun K hK => ?_) AllReadyIn.nil)
          go_simp
          refine ⟨trivial, (callsIn_wide.2 (by first | exact C20 | exact C20a)).mono ?_⟩
          rintro e C0 ⟨rfl, hC0⟩
          subst hC0
          refine hK _ _ ?_
          clear hK K
          refine wpAnyIn_ready (rs := [5]) (by kernel_rfl) (by simp) (AllReadyIn.cons rfl (fun K hK => ?_) AllReadyIn.nil)
          go_simp
          refine hK _ _ ?_
          clear hK K
          refine wpAnyIn_done (by kernel_rfl) ?_ _
          exact ⟨rfl, rfl, by first | rfl | simp⟩
      · go_simp
        refine hK _ _ ?_
        clear hK K
        refine wpAnyIn_ready (rs := [0]) (by kernel_rfl) (by simp) (AllReadyIn.cons rfl (fun K hK => ?_) AllReadyIn.nil)
        go_simp
        refine hK _ _ ?_
        clear hK K
        refine wpAnyIn_ready (rs := [3]) (by kernel_rfl) (by simp) (AllReadyIn.cons rfl (fun K hK => ?_) AllReadyIn.nil)
        go_simp
        refine ⟨trivial, (callsIn_wide.2 (by first | exact C20 | exact C20a)).mono ?_⟩
        rintro e C0 ⟨rfl, hC0⟩
        subst hC0
        refine hK _ _ ?_
        clear hK K
        refine wpAnyIn_ready (rs := [5]) (by kernel_rfl) (by simp) (AllReadyIn.cons rfl (fun K hK => ?_) AllReadyIn.nil)
        go_simp
        refine hK _ _ ?_
        clear hK K
        refine wpAnyIn_done (by kernel_rfl) ?_ _
        exact ⟨rfl, rfl, by first | rfl | simp⟩
    · go_simp
      refine hK _ _ ?_
      clear hK K
      refine wpAnyIn_ready (rs := [0, 2]) (by kernel_rfl) (by simp) (AllReadyIn.cons rfl (fun K hK => ?_) (AllReadyIn.cons rfl (fun K hK => ?_) AllReadyIn.nil))
      · go_simp
        refine hK _ _ ?_
        clear hK K
        refine wpAnyIn_ready (rs := [2]) (by kernel_rfl) (by simp) (AllReadyIn.cons rfl (fun K hK => ?_) AllReadyIn.nil)
        go_simp
        refine ⟨trivial, (callsIn_wide.2 (HB.out _)).mono ?_⟩
        rintro e C0 ⟨rfl, hC0⟩
        subst hC0
        refine hK _ _ ?_
        clear hK K
        refine wpAnyIn_ready (rs := [3]) (by kernel_rfl) (by simp) (AllReadyIn.cons rfl (fun K hK => ?_) AllReadyIn.nil)
        go_simp
        refine ⟨trivial, (callsIn_wide.2 (by first | exact C20 | exact C20a)).mono ?_⟩
        rintro e C0 ⟨rfl, hC0⟩
        subst hC0
        refine hK _ _ ?_
        clear hK K
        refine wpAnyIn_ready (rs := [5]) (by kernel_rfl) (by simp) (AllReadyIn.cons rfl (fun K hK => ?_) AllReadyIn.nil)
        go_simp
        refine hK _ _ ?_
        clear hK K
        refine wpAnyIn_done (by kernel_rfl) ?_ _
        exact ⟨rfl, rfl, by first | rfl | simp⟩
      · go_simp
        refine ⟨trivial, (callsIn_wide.2 (HB.out _)).mono ?_⟩
        rintro e C0 ⟨rfl, hC0⟩
        subst hC0
        refine hK _ _ ?_
        clear hK K
        refine wpAnyIn_ready (rs := [0]) (by kernel_rfl) (by simp) (AllReadyIn.cons rfl (fun K hK => ?_) AllReadyIn.nil)
        go_simp
        refine hK _ _ ?_
        clear hK K
        refine wpAnyIn_ready (rs := [3]) (by kernel_rfl) (by simp) (AllReadyIn.cons rfl (fun K hK => ?_) AllReadyIn.nil)
        go_simp
        refine ⟨trivial, (callsIn_wide.2 (by first | exact C20 | exact C20a)).mono ?_⟩
        rintro e C0 ⟨rfl, hC0⟩
        subst hC0
        refine hK _ _ ?_
        clear hK K
        refine wpAnyIn_ready (rs := [5]) (by kernel_rfl) (by simp) (AllReadyIn.cons rfl (fun K hK => ?_) AllReadyIn.nil)
        go_simp
        refine hK _ _ ?_
        clear hK K
        refine wpAnyIn_done (by kernel_rfl) ?_ _
        exact ⟨rfl, rfl, by first | rfl | simp⟩
  case rest =>
    rintro e a' w' ⟨rfl, rfl, rfl⟩
    have hs3 := HS3.out
    have b4 : Below w3.heap.size w3 ((w3.alloc (.cells #[.int .i64 (lam : Int)] 3)).drew) := bdrewN (balloc w3 _) 1
    have e8 : Boxed ((w3.alloc (.cells #[.int .i64 (lam : Int)] 3)).drew) w3.heap.size 3 (.int .i64 (lam : Int)) := Boxed.new w3 3 _
    have s4 : ((w3.alloc (.cells #[.int .i64 (lam : Int)] 3)).drew).heap.size = w3.heap.size + 1 := World.size_alloc w3 _
    obtain ⟨w4, Hw4⟩ : ∃ w4, Hid (w4 = (w3.alloc (.cells #[.int .i64 (lam : Int)] 3)).drew) := ⟨_, rfl⟩
    rw [← Hw4.out] at b4 e8 s4 ⊢
    clear Hw4 q5d q5a C20 C20a q5
    have HS4 : Hid (w4.heap.size = w3.heap.size + 1) := s4
    have CC := choices_any v t w4
    clear s4 hs3
    gi_wp2_with (refine ⟨trivial, (callsIn_wide.2 CC).mono ?_⟩; rintro e A2 ⟨rfl, hA2⟩; clear CC)
    have s4 := HS4.out
    have s3 := HS3.out
    have bA2 : Below w4.heap.size w4 ((w4.alloc (.cells #[.int .i64 (v : Int)] 3)).alloc (.cells #[.int .i64 (t : Int)] 3)) := (balloc w4 _).alloc (by simp) _
    have e1 : Boxed ((w4.alloc (.cells #[.int .i64 (v : Int)] 3)).alloc (.cells #[.int .i64 (t : Int)] 3)) (w4.heap.size + 1) 3 (.int .i64 (t : Int)) := by
      have h := Boxed.new (w4.alloc (.cells #[.int .i64 (v : Int)] 3)) 3 (.int .i64 (t : Int))
      rw [World.size_alloc] at h
      exact h
    have e2 : Boxed ((w4.alloc (.cells #[.int .i64 (v : Int)] 3)).alloc (.cells #[.int .i64 (t : Int)] 3)) w4.heap.size 3 (.int .i64 (v : Int)) := (Boxed.new w4 3 (.int .i64 (v : Int))).alloc _
    have sA2 : ((w4.alloc (.cells #[.int .i64 (v : Int)] 3)).alloc (.cells #[.int .i64 (t : Int)] 3)).heap.size = w4.heap.size + 2 := by simp
    obtain ⟨A2, HA2⟩ : ∃ A2, Hid (A2 = (w4.alloc (.cells #[.int .i64 (v : Int)] 3)).alloc (.cells #[.int .i64 (t : Int)] 3)) := ⟨_, rfl⟩
    rw [← HA2.out] at bA2 e1 e2 sA2 ⊢
    clear HA2
    have bw4 : Below w3.heap.size w3 A2 := b4.trans (bA2.mono (by omega))
    have T0 : TgI w w3 (.slice ua sl uc) (.int .i64 0) (.bool false) lam A2 := ⟨boxBelow f5 bw4 (by omega), boxBelow f6 bw4 (by omega), boxBelow f7 bw4 (by omega), boxBelow e8 bA2 (by omega), hb3.trans (bw4.mono (by omega))⟩
    have HSA : Hid (A2.heap.size = w4.heap.size + 2) := sA2
    have HT0 : Hid (TgI w w3 (.slice ua sl uc) (.int .i64 0) (.bool false) lam A2) := T0
    refine wpIn_runs (ys := chL t v) (enc := encS) (Kp := KS (w4.heap.size + 1) w4.heap.size) (Ab := AbO) (gf := 44) (lb := #[.pointer (some ⟨w4.heap.size + 1, 0, none⟩), .pointer (some ⟨w4.heap.size, 0, none⟩)]) rfl (enters_of Try.func44 (by kernel_rfl) rfl)
      (ch_runs t ht v _ _ _ A2 hv e1 e2) (fun _ => rfl) KS.trans ?hKb ?hAb
      (fun i B => (∀ j x, j < i → (chL t v)[j]? = some x → hN S x = lam) ∧ TgI w w3 (.slice ua sl uc) (.int .i64 0) (.bool false) lam B ∧ A2.heap.size ≤ B.heap.size)
      (fun i B => (∃ s ∈ chL t v, hN S s ≠ lam) ∧ TgI w w3 (.slice ua sl uc) (.int .i64 0) (.bool false) lam B ∧ A2.heap.size ≤ B.heap.size) ?hIp ?hXp ?hIa ?hXa ?h0
      (fun x => { tmps := #[.int .i64 (v : Int), .int .i64 (t : Int), .slice ua sl uc, undef, undef, .pointer (some ⟨w.heap.size, 0, none⟩), .pointer (some ⟨w.heap.size + 1, 0, none⟩), .pointer (some ⟨w.heap.size + 1 + 1, 0, none⟩), .pointer (some ⟨w3.heap.size, 0, none⟩), .int .u64 (x : Int), .slice ua sl uc, .int .i64 (t : Int), .int .u64 (m : Int), .int .i64 (lam : Int), .int .i64 (v : Int), .int .i64 (t : Int), .func (.func 44) #[] #[.pointer (some ⟨w4.heap.size + 1, 0, none⟩), .pointer (some ⟨w4.heap.size, 0, none⟩)], .int .u64 (x : Int), undef, undef, undef, undef, undef, undef], defers := [] }) ?assign ?body ?done ?stop
    case hKb =>
      intro B o hB
      exact ⟨by simp [World.putObj], fun b hb _ => World.putObj_heap_other (by omega)⟩
    case hAb =>
      intro V B C h3 h4 hb b hlt
      exact hb.block b (by omega)
    case hIp =>
      rintro i B o o' ⟨g1, g2, g3⟩ _ _
      exact ⟨g1, g2.mv (below_put (n := w3.heap.size + 1) B o' (by omega)) (by omega), by simpa [World.putObj] using g3⟩
    case hXp =>
      rintro i B o o' ⟨g1, g2, g3⟩ _ _
      exact ⟨g1, g2.mv (below_put (n := w3.heap.size + 1) B o' (by omega)) (by omega), by simpa [World.putObj] using g3⟩
    case hIa =>
      rintro i V B C ⟨g1, g2, g3⟩ _ h4 hb
      exact ⟨g1, g2.mv (Below.mono hb (by omega)) (by omega), Nat.le_trans g3 hb.size⟩
    case hXa =>
      rintro i V B C ⟨g1, g2, g3⟩ _ h4 hb
      exact ⟨g1, g2.mv (Below.mono hb (by omega)) (by omega), Nat.le_trans g3 hb.size⟩
    case h0 =>
      intro V hb
      exact ⟨fun j x h => by omega, T0.mv (Below.mono hb (by omega)) (by omega), hb.size⟩
    case assign =>
      clear s3 s4 sA2
      intro l x W K _ hK
      unfold encS
      gi_wp2
      exact hK
    case body =>
      rintro i x B hx ⟨g1, g2, g3⟩ hD
      have HG1 : Hid (∀ j x, j < i → (chL t v)[j]? = some x → hN S x = lam) := g1
      have HX : Hid ((chL t v)[i]? = some x) := hx
      have q5 := g2.b5.cell
      have q6 := g2.b6.cell
      have q7 := g2.b7.cell
      have q8 := g2.b8.cell
      have r6 := g2.b6.frozen
      have r7 := g2.b7.frozen
      have hx64 : x < 2 ^ 64 := Nat.lt_of_lt_of_le (chL_lt (List.mem_of_getElem? hx)) (Nat.pow_le_pow_right (by decide) (by omega))
      obtain ⟨c, Hc⟩ : ∃ c, Hid (hN S x = c) := ⟨_, rfl⟩
      have C20 : Calls Try.prog 36 #[.slice ua sl uc, .int .u64 (x : Int)] B.drew fun e w' => e = .returned (.int .i64 (c : Int)) ∧ w' = B.drew := by rw [← Hc.out]; exact HH.out x _ hx64 (bdrewN g2.bw 1)
      have HG2 : Hid (TgI w w3 (.slice ua sl uc) (.int .i64 0) (.bool false) lam B) := g2
      have hsz := HSA.out
      have KR : KS (w4.heap.size + 1) w4.heap.size (A2.heap.size + 1) B B.drew := ⟨Nat.le_refl _, fun b _ _ => rfl⟩
      have HKR : Hid (KS (w4.heap.size + 1) w4.heap.size (A2.heap.size + 1) B B.drew) := KR
      have HG3 : Hid (A2.heap.size ≤ B.heap.size) := g3
      by_cases hcl : c = lam
      · have hd : ((c : Int) != (lam : Int)) = false := by simp [hcl]
        have HN : Hid ((∀ j x, j < i + 1 → (chL t v)[j]? = some x → hN S x = lam) ∧ TgI w w3 (.slice ua sl uc) (.int .i64 0) (.bool false) lam B.drew ∧ A2.heap.size ≤ B.drew.heap.size) := by
          refine ⟨fun j y hj hy => ?_, g2.mv (bdrewN (Below.refl _ _) 1) s3, g3⟩
          by_cases e : j = i
          · subst e
            rw [HX.out] at hy
            obtain rfl := Option.some.inj hy
            rw [Hc.out]; exact hcl
          · exact HG1.out j y (by omega) hy
        clear g1 g2 hx hsz KR hcl s3 s4 sA2 g3
        gi_wp2
        refine wpIn_region_any (by kernel_rfl) (wpAnyIn_round (A2.heap.size + 1) (fun i o h c e => by revert h; revert i; intro i h; have hm := Array.mem_of_getElem? h; simp at hm; rcases hm with rfl | rfl | rfl | rfl | rfl <;> cases e) _ _ _ _ rfl ?_)
        try (change wpAnyIn _ _ _ _ _ _ _ _ _ (World.drew _))
        refine wpAnyIn_take (i := 1) (v := .int .u64 (x : Int)) rfl rfl (by kernel_rfl) (by kernel_rfl) (by kernel_rfl) (by intro _ _ _ h; first | exact h | cases h.1) ⟨Or.inl ⟨by rfl, fun w => by go_simp⟩, fun _ => rfl⟩ ?_
        refine wpAnyIn_ready (rs := [0, 3]) (by kernel_rfl) (by simp) (AllReadyIn.cons rfl (fun K hK => ?_) (AllReadyIn.cons rfl (fun K hK => ?_) AllReadyIn.nil))
        · go_simp
          refine hK _ _ ?_
          clear hK K
          refine wpAnyIn_ready (rs := [2, 3]) (by kernel_rfl) (by simp) (AllReadyIn.cons rfl (fun K hK => ?_) (AllReadyIn.cons rfl (fun K hK => ?_) AllReadyIn.nil))
          · go_simp
            refine ⟨trivial, (callsIn_wide.2 C20).mono ?_⟩
            rintro e C0 ⟨rfl, hC0⟩
            subst hC0
            refine hK _ _ ?_
            clear hK K
            refine wpAnyIn_ready (rs := [3]) (by kernel_rfl) (by simp) (AllReadyIn.cons rfl (fun K hK => ?_) AllReadyIn.nil)
            go_simp
            refine hK _ _ ?_
            clear hK K
            refine wpAnyIn_take (i := 4) (v := .bool false) rfl rfl (by kernel_rfl) (by kernel_rfl) (by kernel_rfl) (by intro _ _ _ h; first | exact h | cases h.1) ⟨Or.inl ⟨by rfl, fun w => by go_simp⟩, fun _ => rfl⟩ ?_
            refine wpAnyIn_done (by kernel_rfl) ?_ _
            gi_wp2
            exact ⟨⟨rfl, rfl⟩, HKR.out, HN.out⟩
          · go_simp
            refine hK _ _ ?_
            clear hK K
            refine wpAnyIn_ready (rs := [2]) (by kernel_rfl) (by simp) (AllReadyIn.cons rfl (fun K hK => ?_) AllReadyIn.nil)
            go_simp
            refine ⟨trivial, (callsIn_wide.2 C20).mono ?_⟩
            rintro e C0 ⟨rfl, hC0⟩
            subst hC0
            refine hK _ _ ?_
            clear hK K
            refine wpAnyIn_take (i := 4) (v := .bool false) rfl rfl (by kernel_rfl) (by kernel_rfl) (by kernel_rfl) (by intro _ _ _ h; first | exact h | cases h.1) ⟨Or.inl ⟨by rfl, fun w => by go_simp⟩, fun _ => rfl⟩ ?_
            refine wpAnyIn_done (by kernel_rfl) ?_ _
            gi_wp2
            exact ⟨⟨rfl, rfl⟩, HKR.out, HN.out⟩
        · go_simp
          refine hK _ _ ?_
          clear hK K
          refine wpAnyIn_ready (rs := [0]) (by kernel_rfl) (by simp) (AllReadyIn.cons rfl (fun K hK => ?_) AllReadyIn.nil)
          go_simp
          refine hK _ _ ?_
          clear hK K
          refine wpAnyIn_ready (rs := [2]) (by kernel_rfl) (by simp) (AllReadyIn.cons rfl (fun K hK => ?_) AllReadyIn.nil)
          go_simp
          refine ⟨trivial, (callsIn_wide.2 C20).mono ?_⟩
          rintro e C0 ⟨rfl, hC0⟩
          subst hC0
          refine hK _ _ ?_
          clear hK K
          refine wpAnyIn_take (i := 4) (v := .bool false) rfl rfl (by kernel_rfl) (by kernel_rfl) (by kernel_rfl) (by intro _ _ _ h; first | exact h | cases h.1) ⟨Or.inl ⟨by rfl, fun w => by go_simp⟩, fun _ => rfl⟩ ?_
          refine wpAnyIn_done (by kernel_rfl) ?_ _
          gi_wp2
          exact ⟨⟨rfl, rfl⟩, HKR.out, HN.out⟩
      · have hd : ((c : Int) != (lam : Int)) = true := by simp; omega
        have HN : Hid (∃ s ∈ chL t v, hN S s ≠ lam) := ⟨x, List.mem_of_getElem? hx, by rw [Hc.out]; exact hcl⟩
        have HF : Hid (∀ C, C = (B.drew.setCell ⟨w.heap.size + 1, 0, none⟩ (.int .i64 0)).setCell ⟨w.heap.size + 1 + 1, 0, none⟩ (.bool false) → (C.heap[A2.heap.size]? = B.heap[A2.heap.size]? ∧ C.heap[A2.heap.size + 1]? = B.heap[A2.heap.size + 1]?) ∧ KS (w4.heap.size + 1) w4.heap.size (A2.heap.size + 1) B C ∧ TgI w w3 (.slice ua sl uc) (.int .i64 0) (.bool false) lam C ∧ A2.heap.size ≤ C.heap.size) := by
          rintro C rfl
          have k : ∀ b, b ≠ w.heap.size + 1 → b ≠ w.heap.size + 1 + 1 → ((B.drew.setCell ⟨w.heap.size + 1, 0, none⟩ (.int .i64 0)).setCell ⟨w.heap.size + 1 + 1, 0, none⟩ (.bool false)).heap[b]? = B.heap[b]? := fun b h1 h2 =>
            (heap_setCell_other _ ⟨w.heap.size + 1 + 1, 0, none⟩ b _ h2).trans (heap_setCell_other B.drew ⟨w.heap.size + 1, 0, none⟩ b _ h1)
          have ksz : ((B.drew.setCell ⟨w.heap.size + 1, 0, none⟩ (.int .i64 0)).setCell ⟨w.heap.size + 1 + 1, 0, none⟩ (.bool false)).heap.size = B.heap.size := by rw [World.size_setCell, World.size_setCell]; rfl
          have d6 : Boxed B.drew (w.heap.size + 1) 3 (.int .i64 0) := g2.b6
          have d7 : Boxed B.drew (w.heap.size + 1 + 1) 4 (.bool false) := g2.b7
          have t6 := (d6.set (.int .i64 0)).other (B' := w.heap.size + 1 + 1) (by omega) (.bool false)
          have t7 := (d7.other (B' := w.heap.size + 1) (by omega) (.int .i64 0)).set (.bool false)
          have bC : Below w.heap.size B ((B.drew.setCell ⟨w.heap.size + 1, 0, none⟩ (.int .i64 0)).setCell ⟨w.heap.size + 1 + 1, 0, none⟩ (.bool false)) := ((bdrewN (Below.refl _ _) 1).setCell (p := ⟨w.heap.size + 1, 0, none⟩) (by show _ ≤ w.heap.size + 1; omega) _).setCell (p := ⟨w.heap.size + 1 + 1, 0, none⟩) (by show _ ≤ w.heap.size + 1 + 1; omega) _
          exact ⟨⟨k _ (by omega) (by omega), k _ (by omega) (by omega)⟩, ⟨by omega, fun b hb _ => k b (by omega) (by omega)⟩, ⟨boxAt g2.b5 (k _ (by omega) (by omega)), t6, t7, boxAt g2.b8 (k _ (by omega) (by omega)), g2.bw.trans bC⟩, by omega⟩
        clear g1 g2 hx hsz KR hcl s3 s4 sA2 g3
        gi_wp2
        refine wpIn_region_any (by kernel_rfl) (wpAnyIn_round (A2.heap.size + 1) (fun i o h c e => by revert h; revert i; intro i h; have hm := Array.mem_of_getElem? h; simp at hm; rcases hm with rfl | rfl | rfl | rfl | rfl <;> cases e) _ _ _ _ rfl ?_)
        try (change wpAnyIn _ _ _ _ _ _ _ _ _ (World.drew _))
        refine wpAnyIn_take (i := 1) (v := .int .u64 (x : Int)) rfl rfl (by kernel_rfl) (by kernel_rfl) (by kernel_rfl) (by intro _ _ _ h; first | exact h | cases h.1) ⟨Or.inl ⟨by rfl, fun w => by go_simp⟩, fun _ => rfl⟩ ?_
        refine wpAnyIn_ready (rs := [0, 3]) (by kernel_rfl) (by simp) (AllReadyIn.cons rfl (fun K hK => ?_) (AllReadyIn.cons rfl (fun K hK => ?_) AllReadyIn.nil))
        · go_simp
          refine hK _ _ ?_
          clear hK K
          refine wpAnyIn_ready (rs := [2, 3]) (by kernel_rfl) (by simp) (AllReadyIn.cons rfl (fun K hK => ?_) (AllReadyIn.cons rfl (fun K hK => ?_) AllReadyIn.nil))
          · go_simp
            refine ⟨trivial, (callsIn_wide.2 C20).mono ?_⟩
            rintro e C0 ⟨rfl, hC0⟩
            subst hC0
            refine hK _ _ ?_
            clear hK K
            refine wpAnyIn_ready (rs := [3]) (by kernel_rfl) (by simp) (AllReadyIn.cons rfl (fun K hK => ?_) AllReadyIn.nil)
            go_simp
            refine hK _ _ ?_
            clear hK K
            refine wpAnyIn_take (i := 4) (v := .bool true) rfl rfl (by kernel_rfl) (by kernel_rfl) (by kernel_rfl) (by intro _ _ _ h; first | exact h | cases h.1) ⟨Or.inl ⟨by rfl, fun w => by go_simp⟩, fun _ => rfl⟩ ?_
            refine wpAnyIn_done (by kernel_rfl) ?_ _
            gi_wp2
            exact ⟨(HF.out _ rfl).1, (HF.out _ rfl).2.1, HN.out, (HF.out _ rfl).2.2⟩
          · go_simp
            refine hK _ _ ?_
            clear hK K
            refine wpAnyIn_ready (rs := [2]) (by kernel_rfl) (by simp) (AllReadyIn.cons rfl (fun K hK => ?_) AllReadyIn.nil)
            go_simp
            refine ⟨trivial, (callsIn_wide.2 C20).mono ?_⟩
            rintro e C0 ⟨rfl, hC0⟩
            subst hC0
            refine hK _ _ ?_
            clear hK K
            refine wpAnyIn_take (i := 4) (v := .bool true) rfl rfl (by kernel_rfl) (by kernel_rfl) (by kernel_rfl) (by intro _ _ _ h; first | exact h | cases h.1) ⟨Or.inl ⟨by rfl, fun w => by go_simp⟩, fun _ => rfl⟩ ?_
            refine wpAnyIn_done (by kernel_rfl) ?_ _
            gi_wp2
            exact ⟨(HF.out _ rfl).1, (HF.out _ rfl).2.1, HN.out, (HF.out _ rfl).2.2⟩
        · go_simp
          refine hK _ _ ?_
          clear hK K
          refine wpAnyIn_ready (rs := [0]) (by kernel_rfl) (by simp) (AllReadyIn.cons rfl (fun K hK => ?_) AllReadyIn.nil)
          go_simp
          refine hK _ _ ?_
          clear hK K
          refine wpAnyIn_ready (rs := [2]) (by kernel_rfl) (by simp) (AllReadyIn.cons rfl (fun K hK => ?_) AllReadyIn.nil)
          go_simp
          refine ⟨trivial, (callsIn_wide.2 C20).mono ?_⟩
          rintro e C0 ⟨rfl, hC0⟩
          subst hC0
          refine hK _ _ ?_
          clear hK K
          refine wpAnyIn_take (i := 4) (v := .bool true) rfl rfl (by kernel_rfl) (by kernel_rfl) (by kernel_rfl) (by intro _ _ _ h; first | exact h | cases h.1) ⟨Or.inl ⟨by rfl, fun w => by go_simp⟩, fun _ => rfl⟩ ?_
          refine wpAnyIn_done (by kernel_rfl) ?_ _
          gi_wp2
          exact ⟨(HF.out _ rfl).1, (HF.out _ rfl).2.1, HN.out, (HF.out _ rfl).2.2⟩
    case done =>
      rintro B ⟨g1, g2, g3⟩ hK
      have HG : Hid ((∀ s ∈ chL t v, hN S s = lam)) := fun s hs => by
        obtain ⟨j, hj, rfl⟩ := List.mem_iff_getElem.1 hs
        exact g1 j _ hj (List.getElem?_eq_getElem hj)
      have q6 := g2.b6.cell
      have q7 := g2.b7.cell
      have q8 := g2.b8.cell
      have r6 := g2.b6.frozen
      have r7 := g2.b7.frozen
      have HG2 : Hid (TgI w w3 (.slice ua sl uc) (.int .i64 0) (.bool false) lam B) := g2
      have HK : Hid (B.heap[A2.heap.size]? = some (.deferred (some []))) := hK
      have HLT : Hid (w.heap.size + 4 ≤ A2.heap.size) := (by omega : w.heap.size + 4 ≤ A2.heap.size)
      clear g1 g2 s3 s4 sA2 g3 hK
      gi_wp2
      obtain ⟨C, HC⟩ : ∃ C, Hid (C = (B.setCell ⟨w.heap.size + 1, 0, none⟩ (.int .i64 (lam : Int))).setCell ⟨w.heap.size + 1 + 1, 0, none⟩ (.bool true)) := ⟨_, rfl⟩
      have g2 := HG2.out
      have hlt := HLT.out
      have k : ∀ b, b ≠ w.heap.size + 1 → b ≠ w.heap.size + 1 + 1 → C.heap[b]? = B.heap[b]? := fun b h1 h2 => by
        rw [HC.out]
        exact (heap_setCell_other _ ⟨w.heap.size + 1 + 1, 0, none⟩ b _ h2).trans (heap_setCell_other B ⟨w.heap.size + 1, 0, none⟩ b _ h1)
      have t6 : Boxed C (w.heap.size + 1) 3 (.int .i64 (lam : Int)) := by rw [HC.out]; exact (g2.b6.set (.int .i64 (lam : Int))).other (B' := w.heap.size + 1 + 1) (by omega) (.bool true)
      have t7 : Boxed C (w.heap.size + 1 + 1) 4 (.bool true) := by rw [HC.out]; exact (g2.b7.other (B' := w.heap.size + 1) (by omega) (.int .i64 (lam : Int))).set (.bool true)
      have bC : Below w.heap.size B C := by
        rw [HC.out]
        exact ((Below.refl _ B).setCell (p := ⟨w.heap.size + 1, 0, none⟩) (by show _ ≤ w.heap.size + 1; omega) _).setCell (p := ⟨w.heap.size + 1 + 1, 0, none⟩) (by show _ ≤ w.heap.size + 1 + 1; omega) _
      rw [← HC.out]
      have hK2 : C.heap[A2.heap.size]? = some (.deferred (some [])) := (k _ (by omega) (by omega)).trans HK.out
      refine ⟨by simp, .inl ⟨_, _, rfl, run_takeDeferred hK2, ?_⟩⟩
      have bP := below_put (n := w.heap.size + 4) C (.deferred none) (l := A2.heap.size) hlt
      exact ⟨_, res_two rfl rfl rfl (boxBelow t6 bP (by omega)) (boxBelow t7 bP (by omega)), .inl ⟨rfl, HG.out⟩, (g2.bw.trans bC).trans (bP.mono (by omega))⟩
    case stop =>
      rintro i B ⟨g1, g2, g3⟩ hK
      gi_wp2
      refine ⟨by simp, .inl ⟨_, _, rfl, run_takeDeferred hK, ?_⟩⟩
      have g4 := g2.mv (below_put (n := w3.heap.size + 1) B (.deferred none) (l := A2.heap.size) (by omega)) s3
      exact ⟨_, res_two rfl rfl rfl g4.b6 g4.b7, .inr ⟨rfl, g1⟩, g4.bw⟩

end Go.Proofs.Ytamdpcajfgbagaa
