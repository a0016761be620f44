/- The walk of open. -/
import Derived.Test.YtlmjlffipinjiaaDoorSP3
import Derived.Shelf.RegionOpen
import Derived.Stop.RegionWithIn
/- The walk of mutual. -/
namespace Go.Proofs.YtlmjlffipinjiaaDoor
open Go.RowKit Go.Shelf

attribute [local go_sem] Oper.semAt_some
theorem stepIn_loadRow {F : Fence} {n : Nat} {P : Program} {ops : Array Oper} {E : Prop} {o : Oper} {a : Act} {w : World} {K : Act → World → Prop} {Q : Exit → Act → World → Prop} (hgd : o.guard = none) (ty : TypeId) (x : Operand) (ho : o.op = .load ty x)
    (g : Nat) (hx : a.eval x = .pointer (some ⟨g, 0, none⟩)) (t : TypeId) (cs : Array Value) (fr : Nat × Nat) (d : TypeDesc) (hg : w.heap[g]? = some (.cells cs t fr))
    (hu : P.underlying ty = some d) (hd : (match d with | .struct _ | .array _ _ => true | _ => false) = true) (hi : (P.info? ty).map (·.size) = some cs.size)
    (h : K (a.put o.dst (.agg cs)) w) : if Region.wanted o (yielded ops a.tmps) = true then Oper.wpIn F n P o a w K Q else E := by
  rw [if_pos (by simp [Region.wanted, hgd])]
  exact wpIn_loadRow ty x ho g hx t cs fr d hg hu hd hi h
/-- In a round operations that defer nothing are carried out as everywhere. -/
theorem anyIn_round {F : Fence} {n : Nat} {P : Program} {md : Region.Mode} {ops : Array Oper} {Q : Exit → Act → World → Prop} (l : Nat) (hd : ∀ (i : Nat) (o : Oper), ops[i]? = some o → ∀ c, o.op ≠ .defer c) :
    ∀ (fuel : Nat) (listed : Array Bool) (a : Act) (w : World), F.round = none → wpAnyIn F n P md ops Q fuel listed a w → wpAnyIn (F.inRound l) n P md ops Q fuel listed a w := by
  intro fuel
  induction fuel with
  | zero => intro listed a w _ h; exact h
  | succ fuel ih =>
    intro listed a w hro h
    refine ⟨h.1, fun i hi => ?_⟩
    have h2 := h.2 i hi
    unfold wpOpIn at h2 ⊢
    cases ho : ops[i]? with
    | none => rw [ho] at h2; exact ih _ _ _ hro h2
    | some o =>
      rw [ho] at h2
      simp only at h2 ⊢
      by_cases hw : Region.wanted o (yielded ops a.tmps) = true
      · rw [if_pos hw] at h2 ⊢
        have h3 := Oper.wpIn_mono (fun a w h => ih _ a w hro h) h2
        refine ⟨h3.1, ?_⟩
        have h4 := h3.2
        rw [Oper.semAt_eq _ _ _ (hd i o ho)] at h4 ⊢
        exact h4
      · rw [if_neg hw] at h2 ⊢
        exact ⟨h2.1, ih _ _ _ hro h2.2⟩
/-- No place is joined to itself, and none to one that is not joined to it. -/
def MuB (N : Nat) (f : Nat → Nat) : Prop := (∀ a, a < N → (f a).testBit a = false) ∧ ∀ i y : Nat, (prL N)[i]? = some y → (f (y / 32)).testBit (y % 32) = (f (y % 32)).testBit (y / 32)

set_option maxRecDepth 100000 in
set_option maxHeartbeats 8000000 in
theorem mutual_any (N : Nat) (f : Nat → Nat) (w : World) (hN : N ≤ 24) (hf : ∀ a, a < 24 → f a < 2 ^ 32) :
    Calls Tryd.prog 45 #[.agg (gRow N f)] w fun e w' => (∃ q : Bool, e = .returned (.bool q) ∧ (q = true ↔ MuB N f)) ∧ Below w.heap.size w w' := by
  obtain ⟨fs, hu⟩ := und45
  refine (callsIn_wide (n := 9)).1 (callsIn_of_wp_marks Tryd.func45 rfl trivial (wpIn_wide.2 ?_) rfl)
  simp only [Tryd.ntmps45, List.size_toArray, List.length_cons, List.length_nil, Nat.reduceAdd, Nat.reduceSub, Array.replicate_succ, Array.replicate_zero, List.push_toArray, List.append_toArray, List.nil_append, List.cons_append]
  have hG0 := (GrW.made w N f)
  have c0 := (hG0.places)
  have c1 := (Below.cell (balloc (w.alloc (.cells (gRow N f) 47)) (.cells #[.bool false] 4)) (p := ⟨w.heap.size, 0, none⟩) (by simp)).trans c0
  have HP0 : Hid (PrI w N f false ((w.alloc (.cells (gRow N f) 47)).alloc (.cells #[.bool false] 4))) := by
    have h := Boxed.new (w.alloc (.cells (gRow N f) 47)) 4 (.bool false)
    rw [World.size_alloc] at h
    exact ⟨hG0.below (balloc _ _) (by simp), h, ((balloc w _).alloc (by simp) _)⟩
  go_wp2
  go_loopw [8] (fun av wr => ∃ (a : Nat), av = .int .i64 (a : Int) ∧ a ≤ N ∧ Hid (∀ a', a' < a → (f a').testBit a' = false) ∧ PrI w N f false wr) (fun av _ => (N - intOf av).toNat)
  case atStart => exact ⟨0, rfl, by omega, (fun a' h => absurd h (by omega) : ∀ a', a' < 0 → _), HP0.out⟩
  case round =>
    clear hG0 c0 c1 HP0
    obtain ⟨a, rfl, ha, HA, hP⟩ := hrel
    have hgr := hP.gr
    by_cases hlt : a < N
    · have hda : decide ((a : Int) < (N : Int)) = true := by simp; omega
      have CJ := joined_any N f a a wr (by omega) (by omega) (hf _ (by omega))
      obtain ⟨s, Hs⟩ : ∃ s, Hid ((f a).testBit a = s) := ⟨_, rfl⟩
      rw [Hs.out] at CJ
      have HP : Hid (PrI w N f false wr) := hP
      have hlw : w.heap.size + 1 < wr.heap.size := hP.bx.lt
      cases s with
      | true =>
        go_wp2_with (first
          | (refine wpList_load_row rfl 47 _ rfl w.heap.size rfl 47 _ (0, 0) _ hgr hu rfl (inf45 _ _) ?_)
          | (go_at_call 20; refine CJ.mono ?_; rintro e w2 ⟨rfl, hb2⟩; clear CJ; have hP2 := HP.out.mv (hb2.mono (by omega)); have k2 := hP2.bx.cell; have k3 := hP2.bx.frozen))
        have hP3 := hP2.put false
        exact ⟨_, res_bool rfl rfl hP3.bx, ⟨false, rfl, by simp; intro h; exact absurd (h.1 a hlt) (by rw [Hs.out]; simp)⟩, hP3.bw⟩
      | false =>
        go_wp2_with (first
          | (refine wpList_load_row rfl 47 _ rfl w.heap.size rfl 47 _ (0, 0) _ hgr hu rfl (inf45 _ _) ?_)
          | (go_at_call 20; refine CJ.mono ?_; rintro e w2 ⟨rfl, hb2⟩; clear CJ; have hP2 := HP.out.mv (hb2.mono (by omega))))
        go_roundw
        case rel =>
          refine ⟨a + 1, by go_num, by omega, (fun a' h => ?_ : ∀ a', a' < a + 1 → _), hP2⟩
          by_cases e : a' = a
          · subst e; exact Hs.out
          · exact HA.out a' (by omega)
        case measure => simp [intOf]; omega
    · have hda : decide ((a : Int) < (N : Int)) = false := by simp; omega
      obtain rfl : a = N := by omega
      have c2 := hgr.places
      have HP : Hid (PrI w a f false wr) := hP
      go_wp2
      have hS : w.heap.size + 2 ≤ wr.heap.size := hP.bx.lt
      refine (wpIn_wide (n := 9)).1 (wpIn_pairs (N := a) (gf := 26) rfl (enters_of Tryd.func26 (by kernel_rfl) rfl) rfl (pairs_runs a _ (by omega))
        (fun i B => (∀ j y : Nat, j < i → (prL a)[j]? = some y → (f (y / 32)).testBit (y % 32) = (f (y % 32)).testBit (y / 32)) ∧ PrI w a f false B)
        (fun B => (¬ MuB a f) ∧ PrI w a f false B)
        (fun i A B h hb => ⟨h.1, h.2.mv (hb.mono hS)⟩) (fun A B h hb => ⟨h.1, h.2.mv (hb.mono hS)⟩) ⟨fun j y h => absurd h (by omega), HP.out⟩
        ?a1 ?assign ?body ?done ?stop)
      case assign =>
        intro l x W K _ hK
        unfold encP
        gi_wp2
        exact hK
      case body =>
        rintro i x B hx ⟨g1, g2⟩ hlt2
        obtain ⟨p1, p2⟩ := prL_at' (by omega) hx
        have HX : Hid ((prL a)[i]? = some x) := hx
        have HG1 : Hid (∀ j y : Nat, j < i → (prL a)[j]? = some y → (f (y / 32)).testBit (y % 32) = (f (y % 32)).testBit (y / 32)) := g1
        obtain ⟨s, Hs⟩ : ∃ s, Hid ((f (x / 32)).testBit (x % 32) = s) := ⟨_, rfl⟩
        obtain ⟨t, Ht⟩ : ∃ t, Hid ((f (x % 32)).testBit (x / 32) = t) := ⟨_, rfl⟩
        have C1 := joined_any a f (x / 32) (x % 32) B.drew (by omega) (by omega) (hf _ (by omega))
        have HC2 : Hid (∀ W, Calls Tryd.prog 20 #[.agg (gRow a f), .int .i64 ((x % 32 : Nat) : Int), .int .i64 ((x / 32 : Nat) : Int)] W fun e w' => e = .returned (.bool t) ∧ Below W.heap.size W w') := fun W => by
          have := joined_any a f (x % 32) (x / 32) W (by omega) (by omega) (hf _ (by omega))
          rwa [Ht.out] at this
        rw [Hs.out] at C1
        have hgr1 : GrW B.drew w.heap.size a f := g2.gr
        have HG2 : Hid (PrI w a f false B.drew) := (⟨g2.gr, g2.bx, g2.bw.drew⟩ : PrI w a f false B.drew)
        have HL : Hid (w.heap.size + 2 ≤ B.drew.heap.size) := (g2.bx.lt : w.heap.size + 2 ≤ B.heap.size)
        have HL2 : Hid (wr.heap.size + 1 < B.drew.heap.size) := hlt2
        by_cases hst : s = t
        · have hd : (s != t) = false := by simp [hst]
          have HE : Hid (∀ A2 A3 : World, Below B.drew.heap.size B.drew A2 → Below A2.heap.size A2 A3 → (A3.heap[wr.heap.size]? = B.heap[wr.heap.size]? ∧ A3.heap[wr.heap.size + 1]? = B.heap[wr.heap.size + 1]?) ∧ (∀ j y : Nat, j < i + 1 → (prL a)[j]? = some y → (f (y / 32)).testBit (y % 32) = (f (y % 32)).testBit (y / 32)) ∧ PrI w a f false A3) := by
            intro A2 A3 h2 h3
            have h23 := Below.next h2 h3
            have q := HL2.out
            refine ⟨⟨h23.block _ (by omega), h23.block _ (by omega)⟩, fun j y hj hy => ?_, HG2.out.mv (h23.mono HL.out)⟩
            by_cases e : j = i
            · subst e
              rw [HX.out] at hy
              cases hy
              rw [Hs.out, Ht.out, hst]
            · exact HG1.out j y (by omega) hy
          clear hx g1 hlt2 g2
          gi_wp2
          refine wpIn_region_any (by kernel_rfl) (anyIn_round (wr.heap.size + 1) (fun i o h c e => by revert h; revert i; intro i h; have hm := Array.mem_of_getElem? h; simp at hm; rcases hm with rfl | rfl | rfl | rfl | rfl | rfl | rfl | rfl | rfl <;> cases e) _ _ _ _ rfl ?_)
          try (change wpAnyIn _ _ _ _ _ _ _ _ _ (World.drew _))
          refine wpAnyIn_take (i := 1) (v := .int .i64 ((x / 32 : Nat) : Int)) rfl rfl (by kernel_rfl) (by kernel_rfl) (by kernel_rfl) (by intro _ _ _ h; first | exact h | cases h.1) ⟨Or.inl ⟨by rfl, fun w => by go_simp⟩, fun _ => rfl⟩ ?_
          refine wpAnyIn_take (i := 2) (v := .int .i64 ((x % 32 : Nat) : Int)) rfl rfl (by kernel_rfl) (by kernel_rfl) (by kernel_rfl) (by intro _ _ _ h; first | exact h | cases h.1) ⟨Or.inl ⟨by rfl, fun w => by go_simp⟩, fun _ => rfl⟩ ?_
          refine wpAnyIn_take (i := 5) (v := .int .i64 ((x % 32 : Nat) : Int)) rfl rfl (by kernel_rfl) (by kernel_rfl) (by kernel_rfl) (by intro _ _ _ h; first | exact h | cases h.1) ⟨Or.inl ⟨by rfl, fun w => by go_simp⟩, fun _ => rfl⟩ ?_
          refine wpAnyIn_take (i := 6) (v := .int .i64 ((x / 32 : Nat) : Int)) rfl rfl (by kernel_rfl) (by kernel_rfl) (by kernel_rfl) (by intro _ _ _ h; first | exact h | cases h.1) ⟨Or.inl ⟨by rfl, fun w => by go_simp⟩, fun _ => rfl⟩ ?_
          refine wpAnyIn_ready (rs := [0, 4]) (by kernel_rfl) (by simp) (AllReadyIn.cons rfl (fun K hK => ?_) (AllReadyIn.cons rfl (fun K hK => ?_) AllReadyIn.nil))
          · refine stepIn_loadRow rfl 47 _ rfl w.heap.size rfl 47 _ (0, 0) _ hgr1 hu rfl (inf45 _ _) (hK _ _ ?_)
            clear hK K
            refine wpAnyIn_ready (rs := [3, 4]) (by kernel_rfl) (by simp) (AllReadyIn.cons rfl (fun K hK => ?_) (AllReadyIn.cons rfl (fun K hK => ?_) AllReadyIn.nil))
            · go_simp
              refine ⟨trivial, (callsIn_wide.2 C1).mono ?_⟩
              rintro e A2 ⟨rfl, hA2⟩
              refine hK _ _ ?_
              clear hK K
              have hP2 := HG2.out.mv (hA2.mono (by have := HL.out; omega))
              have hgr2 := hP2.gr
              have C2 := HC2.out A2
              refine wpAnyIn_ready (rs := [4]) (by kernel_rfl) (by simp) (AllReadyIn.cons rfl (fun K hK => ?_) AllReadyIn.nil)
              refine stepIn_loadRow rfl 47 _ rfl w.heap.size rfl 47 _ (0, 0) _ hgr2 hu rfl (inf45 _ _) (hK _ _ ?_)
              clear hK K
              refine wpAnyIn_ready (rs := [7]) (by kernel_rfl) (by simp) (AllReadyIn.cons rfl (fun K hK => ?_) AllReadyIn.nil)
              go_simp
              refine ⟨trivial, (callsIn_wide.2 C2).mono ?_⟩
              rintro e A3 ⟨rfl, hA3⟩
              refine hK _ _ ?_
              clear hK K
              refine wpAnyIn_take (i := 8) (v := .bool false) rfl rfl (by kernel_rfl) (by kernel_rfl) (by kernel_rfl) (by intro _ _ _ h; first | exact h | cases h.1) ⟨Or.inl ⟨by rfl, fun w => by first | (go_simp; exact hst) | go_simp⟩, fun _ => rfl⟩ ?_
              refine wpAnyIn_done (by kernel_rfl) ?_ _
              gi_wp2
              exact HE.out A2 A3 hA2 hA3
            · refine stepIn_loadRow rfl 47 _ rfl w.heap.size rfl 47 _ (0, 0) _ hgr1 hu rfl (inf45 _ _) (hK _ _ ?_)
              clear hK K
              refine wpAnyIn_ready (rs := [3]) (by kernel_rfl) (by simp) (AllReadyIn.cons rfl (fun K hK => ?_) AllReadyIn.nil)
              go_simp
              refine ⟨trivial, (callsIn_wide.2 C1).mono ?_⟩
              rintro e A2 ⟨rfl, hA2⟩
              refine hK _ _ ?_
              clear hK K
              have hP2 := HG2.out.mv (hA2.mono (by have := HL.out; omega))
              have hgr2 := hP2.gr
              have C2 := HC2.out A2
              refine wpAnyIn_ready (rs := [7]) (by kernel_rfl) (by simp) (AllReadyIn.cons rfl (fun K hK => ?_) AllReadyIn.nil)
              go_simp
              refine ⟨trivial, (callsIn_wide.2 C2).mono ?_⟩
              rintro e A3 ⟨rfl, hA3⟩
              refine hK _ _ ?_
              clear hK K
              refine wpAnyIn_take (i := 8) (v := .bool false) rfl rfl (by kernel_rfl) (by kernel_rfl) (by kernel_rfl) (by intro _ _ _ h; first | exact h | cases h.1) ⟨Or.inl ⟨by rfl, fun w => by first | (go_simp; exact hst) | go_simp⟩, fun _ => rfl⟩ ?_
              refine wpAnyIn_done (by kernel_rfl) ?_ _
              gi_wp2
              exact HE.out A2 A3 hA2 hA3
          · refine stepIn_loadRow rfl 47 _ rfl w.heap.size rfl 47 _ (0, 0) _ hgr1 hu rfl (inf45 _ _) (hK _ _ ?_)
            clear hK K
            refine wpAnyIn_ready (rs := [0]) (by kernel_rfl) (by simp) (AllReadyIn.cons rfl (fun K hK => ?_) AllReadyIn.nil)
            refine stepIn_loadRow rfl 47 _ rfl w.heap.size rfl 47 _ (0, 0) _ hgr1 hu rfl (inf45 _ _) (hK _ _ ?_)
            clear hK K
            refine wpAnyIn_ready (rs := [3]) (by kernel_rfl) (by simp) (AllReadyIn.cons rfl (fun K hK => ?_) AllReadyIn.nil)
            go_simp
            refine ⟨trivial, (callsIn_wide.2 C1).mono ?_⟩
            rintro e A2 ⟨rfl, hA2⟩
            refine hK _ _ ?_
            clear hK K
            have hP2 := HG2.out.mv (hA2.mono (by have := HL.out; omega))
            have hgr2 := hP2.gr
            have C2 := HC2.out A2
            refine wpAnyIn_ready (rs := [7]) (by kernel_rfl) (by simp) (AllReadyIn.cons rfl (fun K hK => ?_) AllReadyIn.nil)
            go_simp
            refine ⟨trivial, (callsIn_wide.2 C2).mono ?_⟩
            rintro e A3 ⟨rfl, hA3⟩
            refine hK _ _ ?_
            clear hK K
            refine wpAnyIn_take (i := 8) (v := .bool false) rfl rfl (by kernel_rfl) (by kernel_rfl) (by kernel_rfl) (by intro _ _ _ h; first | exact h | cases h.1) ⟨Or.inl ⟨by rfl, fun w => by first | (go_simp; exact hst) | go_simp⟩, fun _ => rfl⟩ ?_
            refine wpAnyIn_done (by kernel_rfl) ?_ _
            gi_wp2
            exact HE.out A2 A3 hA2 hA3
        · have hd : (s != t) = true := by simp [hst]
          have HE : Hid (∀ A2 A3 : World, Below B.drew.heap.size B.drew A2 → Below A2.heap.size A2 A3 → ((A3.setCell ⟨w.heap.size + 1, 0, none⟩ (.bool false)).heap[wr.heap.size]? = B.heap[wr.heap.size]? ∧ (A3.setCell ⟨w.heap.size + 1, 0, none⟩ (.bool false)).heap[wr.heap.size + 1]? = B.heap[wr.heap.size + 1]?) ∧ (¬ MuB a f) ∧ PrI w a f false (A3.setCell ⟨w.heap.size + 1, 0, none⟩ (.bool false))) := by
            intro A2 A3 h2 h3
            have h23 := Below.next h2 h3
            have q := HL2.out
            refine ⟨⟨(heap_setCell_other A3 ⟨w.heap.size + 1, 0, none⟩ _ _ (by show _ ≠ w.heap.size + 1; omega)).trans (h23.block _ (by omega)), (heap_setCell_other A3 ⟨w.heap.size + 1, 0, none⟩ _ _ (by show _ ≠ w.heap.size + 1; omega)).trans (h23.block _ (by omega))⟩, fun M => ?_, (HG2.out.mv (h23.mono HL.out)).put false⟩
            have := M.2 i x HX.out
            rw [Hs.out, Ht.out] at this
            exact hst this
          clear hx g1 hlt2 g2
          gi_wp2
          refine wpIn_region_any (by kernel_rfl) (anyIn_round (wr.heap.size + 1) (fun i o h c e => by revert h; revert i; intro i h; have hm := Array.mem_of_getElem? h; simp at hm; rcases hm with rfl | rfl | rfl | rfl | rfl | rfl | rfl | rfl | rfl <;> cases e) _ _ _ _ rfl ?_)
          try (change wpAnyIn _ _ _ _ _ _ _ _ _ (World.drew _))
          refine wpAnyIn_take (i := 1) (v := .int .i64 ((x / 32 : Nat) : Int)) rfl rfl (by kernel_rfl) (by kernel_rfl) (by kernel_rfl) (by intro _ _ _ h; first | exact h | cases h.1) ⟨Or.inl ⟨by rfl, fun w => by go_simp⟩, fun _ => rfl⟩ ?_
          refine wpAnyIn_take (i := 2) (v := .int .i64 ((x % 32 : Nat) : Int)) rfl rfl (by kernel_rfl) (by kernel_rfl) (by kernel_rfl) (by intro _ _ _ h; first | exact h | cases h.1) ⟨Or.inl ⟨by rfl, fun w => by go_simp⟩, fun _ => rfl⟩ ?_
          refine wpAnyIn_take (i := 5) (v := .int .i64 ((x % 32 : Nat) : Int)) rfl rfl (by kernel_rfl) (by kernel_rfl) (by kernel_rfl) (by intro _ _ _ h; first | exact h | cases h.1) ⟨Or.inl ⟨by rfl, fun w => by go_simp⟩, fun _ => rfl⟩ ?_
          refine wpAnyIn_take (i := 6) (v := .int .i64 ((x / 32 : Nat) : Int)) rfl rfl (by kernel_rfl) (by kernel_rfl) (by kernel_rfl) (by intro _ _ _ h; first | exact h | cases h.1) ⟨Or.inl ⟨by rfl, fun w => by go_simp⟩, fun _ => rfl⟩ ?_
          refine wpAnyIn_ready (rs := [0, 4]) (by kernel_rfl) (by simp) (AllReadyIn.cons rfl (fun K hK => ?_) (AllReadyIn.cons rfl (fun K hK => ?_) AllReadyIn.nil))
          · refine stepIn_loadRow rfl 47 _ rfl w.heap.size rfl 47 _ (0, 0) _ hgr1 hu rfl (inf45 _ _) (hK _ _ ?_)
            clear hK K
            refine wpAnyIn_ready (rs := [3, 4]) (by kernel_rfl) (by simp) (AllReadyIn.cons rfl (fun K hK => ?_) (AllReadyIn.cons rfl (fun K hK => ?_) AllReadyIn.nil))
            · go_simp
              refine ⟨trivial, (callsIn_wide.2 C1).mono ?_⟩
              rintro e A2 ⟨rfl, hA2⟩
              refine hK _ _ ?_
              clear hK K
              have hP2 := HG2.out.mv (hA2.mono (by have := HL.out; omega))
              have hgr2 := hP2.gr
              have C2 := HC2.out A2
              refine wpAnyIn_ready (rs := [4]) (by kernel_rfl) (by simp) (AllReadyIn.cons rfl (fun K hK => ?_) AllReadyIn.nil)
              refine stepIn_loadRow rfl 47 _ rfl w.heap.size rfl 47 _ (0, 0) _ hgr2 hu rfl (inf45 _ _) (hK _ _ ?_)
              clear hK K
              refine wpAnyIn_ready (rs := [7]) (by kernel_rfl) (by simp) (AllReadyIn.cons rfl (fun K hK => ?_) AllReadyIn.nil)
              go_simp
              refine ⟨trivial, (callsIn_wide.2 C2).mono ?_⟩
              rintro e A3 ⟨rfl, hA3⟩
              refine hK _ _ ?_
              clear hK K
              refine wpAnyIn_take (i := 8) (v := .bool true) rfl rfl (by kernel_rfl) (by kernel_rfl) (by kernel_rfl) (by intro _ _ _ h; first | exact h | cases h.1) ⟨Or.inl ⟨by rfl, fun w => by first | (go_simp; exact hst) | go_simp⟩, fun _ => rfl⟩ ?_
              refine wpAnyIn_done (by kernel_rfl) ?_ _
              have hP3 := hP2.mv (hA3.mono (by have := HL.out; have := hA2.size; omega))
              have k2 := hP3.bx.cell
              have k3 := hP3.bx.frozen
              gi_wp2
              exact HE.out A2 A3 hA2 hA3
            · refine stepIn_loadRow rfl 47 _ rfl w.heap.size rfl 47 _ (0, 0) _ hgr1 hu rfl (inf45 _ _) (hK _ _ ?_)
              clear hK K
              refine wpAnyIn_ready (rs := [3]) (by kernel_rfl) (by simp) (AllReadyIn.cons rfl (fun K hK => ?_) AllReadyIn.nil)
              go_simp
              refine ⟨trivial, (callsIn_wide.2 C1).mono ?_⟩
              rintro e A2 ⟨rfl, hA2⟩
              refine hK _ _ ?_
              clear hK K
              have hP2 := HG2.out.mv (hA2.mono (by have := HL.out; omega))
              have hgr2 := hP2.gr
              have C2 := HC2.out A2
              refine wpAnyIn_ready (rs := [7]) (by kernel_rfl) (by simp) (AllReadyIn.cons rfl (fun K hK => ?_) AllReadyIn.nil)
              go_simp
              refine ⟨trivial, (callsIn_wide.2 C2).mono ?_⟩
              rintro e A3 ⟨rfl, hA3⟩
              refine hK _ _ ?_
              clear hK K
              refine wpAnyIn_take (i := 8) (v := .bool true) rfl rfl (by kernel_rfl) (by kernel_rfl) (by kernel_rfl) (by intro _ _ _ h; first | exact h | cases h.1) ⟨Or.inl ⟨by rfl, fun w => by first | (go_simp; exact hst) | go_simp⟩, fun _ => rfl⟩ ?_
              refine wpAnyIn_done (by kernel_rfl) ?_ _
              have hP3 := hP2.mv (hA3.mono (by have := HL.out; have := hA2.size; omega))
              have k2 := hP3.bx.cell
              have k3 := hP3.bx.frozen
              gi_wp2
              exact HE.out A2 A3 hA2 hA3
          · refine stepIn_loadRow rfl 47 _ rfl w.heap.size rfl 47 _ (0, 0) _ hgr1 hu rfl (inf45 _ _) (hK _ _ ?_)
            clear hK K
            refine wpAnyIn_ready (rs := [0]) (by kernel_rfl) (by simp) (AllReadyIn.cons rfl (fun K hK => ?_) AllReadyIn.nil)
            refine stepIn_loadRow rfl 47 _ rfl w.heap.size rfl 47 _ (0, 0) _ hgr1 hu rfl (inf45 _ _) (hK _ _ ?_)
            clear hK K
            refine wpAnyIn_ready (rs := [3]) (by kernel_rfl) (by simp) (AllReadyIn.cons rfl (fun K hK => ?_) AllReadyIn.nil)
            go_simp
            refine ⟨trivial, (callsIn_wide.2 C1).mono ?_⟩
            rintro e A2 ⟨rfl, hA2⟩
            refine hK _ _ ?_
            clear hK K
            have hP2 := HG2.out.mv (hA2.mono (by have := HL.out; omega))
            have hgr2 := hP2.gr
            have C2 := HC2.out A2
            refine wpAnyIn_ready (rs := [7]) (by kernel_rfl) (by simp) (AllReadyIn.cons rfl (fun K hK => ?_) AllReadyIn.nil)
            go_simp
            refine ⟨trivial, (callsIn_wide.2 C2).mono ?_⟩
            rintro e A3 ⟨rfl, hA3⟩
            refine hK _ _ ?_
            clear hK K
            refine wpAnyIn_take (i := 8) (v := .bool true) rfl rfl (by kernel_rfl) (by kernel_rfl) (by kernel_rfl) (by intro _ _ _ h; first | exact h | cases h.1) ⟨Or.inl ⟨by rfl, fun w => by first | (go_simp; exact hst) | go_simp⟩, fun _ => rfl⟩ ?_
            refine wpAnyIn_done (by kernel_rfl) ?_ _
            have hP3 := hP2.mv (hA3.mono (by have := HL.out; have := hA2.size; omega))
            have k2 := hP3.bx.cell
            have k3 := hP3.bx.frozen
            gi_wp2
            exact HE.out A2 A3 hA2 hA3
      case done =>
        rintro B ⟨g1, g2⟩ hK
        have k2 := g2.bx.cell
        have k3 := g2.bx.frozen
        have HG1 : Hid (MuB a f) := ⟨HA.out, fun i y hy => g1 i y (prL_lt hy) hy⟩
        clear g1
        go_wp2
        have hK2 := (heap_setCell_other B ⟨w.heap.size + 1, 0, none⟩ wr.heap.size (.bool true) (by show _ ≠ w.heap.size + 1; omega)).trans hK
        refine ⟨by simp, .inl ⟨_, _, rfl, run_takeDeferred hK2, ?_⟩⟩
        have bP := (g2.put true).mv (bput (n := w.heap.size + 2) _ (.deferred none) (l := wr.heap.size) (by omega))
        exact ⟨_, res_bool rfl rfl bP.bx, ⟨true, rfl, by simpa using HG1.out⟩, bP.bw⟩
      case stop =>
        rintro B ⟨g1, g2⟩ hK
        refine wpIn_wide.2 ?_
        go_wp2
        refine ⟨by simp, .inl ⟨_, _, rfl, run_takeDeferred hK, ?_⟩⟩
        have bP := g2.mv (bput (n := w.heap.size + 2) _ (.deferred none) (l := wr.heap.size) (by omega))
        exact ⟨_, res_bool rfl rfl bP.bx, ⟨false, rfl, by simp; exact g1⟩, bP.bw⟩
end Go.Proofs.YtlmjlffipinjiaaDoor

/- The walk of numbers. -/
namespace Go.Proofs.YtlmjlffipinjiaaDoor
open Go.RowKit Go.Shelf

attribute [local go_sem] Oper.semAt_some
theorem wpListIn_storeRow {F : Fence} {n : Nat} {P : Program} {ops : Array Oper} {rest : List Oper} {o : Oper} {a : Act} {w : World} {Q : Exit → Act → World → Prop} (hgd : o.guard = none) (ty : TypeId) (x y : Operand) (ho : o.op = .store ty x y)
    (g : Nat) (cells : Array Value) (hx : a.eval x = .pointer (some ⟨g, 0, none⟩)) (hy : a.eval y = .agg cells)
    (t : TypeId) (old : Array Value) (hg : w.heap[g]? = some (.cells old t (0, 0))) (hi : (P.info? ty).map (·.size) = some cells.size)
    (hold : old.size = cells.size) (h1 : cells.all (·.oneCell') = true)
    (h : wpListIn F n P ops Q rest (a.put o.dst undef) (w.setRow g cells)) : wpListIn F n P ops Q (o :: rest) a w := by
  refine wpListIn_plain hgd fun K hK => ?_
  unfold Oper.wpIn
  refine ⟨fun f hf => ?_, ?_⟩
  · simp [Oper.about, ho] at hf
  · rw [Oper.semAt_plain F _ _ (by rw [ho]; intro c hc'; cases hc')]
    unfold execOp
    simp only [ho, hx, hy, Instr.storeAt, Instr.sureAddr, Sem.run_bind, Sem.run_pure, Result.andThen_ok, run_storeVar_row w g t ty old cells hg hi hold h1]
    exact hK _ _ h
theorem infSt (a b c d : Int) : (Tryd.prog.info? 37).map (·.size) = some (#[.int .i64 a, .int .i64 b, .int .i64 c, .int .i64 d] : Array Value).size := by kernel_rfl
theorem str_one (a b c d : Int) : (#[.int .i64 a, .int .i64 b, .int .i64 c, .int .i64 d] : Array Value).all (·.oneCell') = true := by simp [Value.oneCell']
/-- What is kept while pairs are looked at. -/
structure NmI (w : World) (N : Int) (f : Nat → Nat) (dz : Int) (ds : Bool) (nz : Int) (ns : Bool) (fz : Int) (fs : Bool) (A : World) : Prop where
  gr : GrW A w.heap.size N f
  r1 : A.heap[w.heap.size + 1]? = some (.cells #[.int .i64 0, .int .i64 0, .int .i64 0, .int .i64 0] 37 (0, 0))
  r2 : Boxed A (w.heap.size + 1 + 1) 4 (.bool false)
  dl : LvW A (w.heap.size + 1 + 1 + 1) dz ds
  nl : LvW A (w.heap.size + 1 + 1 + 1 + 1) nz ns
  fl : LvW A (w.heap.size + 1 + 1 + 1 + 1 + 1) fz fs
  bw : Below w.heap.size w A
section
variable {w A B : World} {N : Int} {f : Nat → Nat} {dz nz fz : Int} {ds ns fs : Bool}
theorem NmI.mv (h : NmI w N f dz ds nz ns fz fs A) (hb : Below (w.heap.size + 6) A B) : NmI w N f dz ds nz ns fz fs B :=
  ⟨h.gr.below hb (by omega), (hb.block _ (by omega)).trans h.r1, boxB h.r2 hb (by omega), (hb.block _ (by omega)).trans h.dl, (hb.block _ (by omega)).trans h.nl, (hb.block _ (by omega)).trans h.fl, h.bw.trans (hb.mono (by omega))⟩
theorem NmI.lt (h : NmI w N f dz ds nz ns fz fs A) : w.heap.size + 6 ≤ A.heap.size := h.fl.lt
theorem NmI.setD (h : NmI w N f dz ds nz ns fz fs A) (x : Int) : NmI w N f x true nz ns fz fs (A.setRow (w.heap.size + 1 + 1 + 1) #[.int .i64 x, .bool true]) :=
  ⟨(setRow_other A _ _ _ (by omega)).trans h.gr, (setRow_other A _ _ _ (by omega)).trans h.r1, (setRow_other A _ _ _ (by omega)).trans h.r2, setRow_heap A _ _ _ _ _ h.dl, (setRow_other A _ _ _ (by omega)).trans h.nl, (setRow_other A _ _ _ (by omega)).trans h.fl, bsetR h.bw (by omega) _⟩
theorem NmI.setN (h : NmI w N f dz ds nz ns fz fs A) (x : Int) : NmI w N f dz ds x true fz fs (A.setRow (w.heap.size + 1 + 1 + 1 + 1) #[.int .i64 x, .bool true]) :=
  ⟨(setRow_other A _ _ _ (by omega)).trans h.gr, (setRow_other A _ _ _ (by omega)).trans h.r1, (setRow_other A _ _ _ (by omega)).trans h.r2, (setRow_other A _ _ _ (by omega)).trans h.dl, setRow_heap A _ _ _ _ _ h.nl, (setRow_other A _ _ _ (by omega)).trans h.fl, bsetR h.bw (by omega) _⟩
theorem NmI.setF (h : NmI w N f dz ds nz ns fz fs A) (x : Int) : NmI w N f dz ds nz ns x true (A.setRow (w.heap.size + 1 + 1 + 1 + 1 + 1) #[.int .i64 x, .bool true]) :=
  ⟨(setRow_other A _ _ _ (by omega)).trans h.gr, (setRow_other A _ _ _ (by omega)).trans h.r1, (setRow_other A _ _ _ (by omega)).trans h.r2, (setRow_other A _ _ _ (by omega)).trans h.dl, (setRow_other A _ _ _ (by omega)).trans h.nl, setRow_heap A _ _ _ _ _ h.fl, bsetR h.bw (by omega) _⟩
end
/-- The answer in its two boxes. -/
structure AnW (w : World) (P D L M : Int) (q : Bool) (A : World) : Prop where
  r1 : A.heap[w.heap.size + 1]? = some (.cells #[.int .i64 P, .int .i64 D, .int .i64 L, .int .i64 M] 37 (0, 0))
  r2 : Boxed A (w.heap.size + 1 + 1) 4 (.bool q)
  bw : Below w.heap.size w A
theorem AnW.mv {w A B : World} {P D L M : Int} {q : Bool} (h : AnW w P D L M q A) (hb : Below (w.heap.size + 6) A B) : AnW w P D L M q B :=
  ⟨(hb.block _ (by omega)).trans h.r1, boxB h.r2 hb (by omega), h.bw.trans (hb.mono (by omega))⟩
theorem NmI.an {w A : World} {N : Int} {f : Nat → Nat} {dz nz fz : Int} {ds ns fs : Bool} (h : NmI w N f dz ds nz ns fz fs A) (P D L M : Int) (q : Bool) : AnW w P D L M q ((A.setRow (w.heap.size + 1) #[.int .i64 P, .int .i64 D, .int .i64 L, .int .i64 M]).setCell ⟨w.heap.size + 1 + 1, 0, none⟩ (.bool q)) := by
  have h2 : Boxed (A.setRow (w.heap.size + 1) #[.int .i64 P, .int .i64 D, .int .i64 L, .int .i64 M]) (w.heap.size + 1 + 1) 4 (.bool false) := (setRow_other A _ _ _ (by omega)).trans h.r2
  exact ⟨(heap_setCell_other _ ⟨w.heap.size + 1 + 1, 0, none⟩ _ _ (by show _ ≠ w.heap.size + 1 + 1; omega)).trans (setRow_heap A _ _ _ _ _ h.r1), h2.set _, (bsetR h.bw (by omega) _).setCell (p := ⟨w.heap.size + 1 + 1, 0, none⟩) (by show _ ≤ w.heap.size + 1 + 1; omega) _⟩
theorem res_nums {fn : Func} {a b : Tmp} {tmps : Array Value} {w A : World} {P D L M : Int} {q : Bool} (h : fn.results = #[.cell a 37, .cell b 4]) (p1 : tmps.getD a undef = .pointer (some ⟨w.heap.size + 1, 0, none⟩)) (p2 : tmps.getD b undef = .pointer (some ⟨w.heap.size + 1 + 1, 0, none⟩)) (hA : AnW w P D L M q A) :
    (results fn tmps).run Tryd.prog A = .ok (.tuple #[.agg #[.int .i64 P, .int .i64 D, .int .i64 L, .int .i64 M], .bool q]) A := by
  have e2 := hA.r2.cell
  have c0 : A.cell? ⟨w.heap.size + 1, 0, none⟩ = some (.int .i64 P) := cell_of_row _ _ 0 _ _ _ hA.r1
  have c1 : A.cell? ⟨w.heap.size + 1, 1, none⟩ = some (.int .i64 D) := cell_of_row _ _ 1 _ _ _ hA.r1
  have c2 : A.cell? ⟨w.heap.size + 1, 2, none⟩ = some (.int .i64 L) := cell_of_row _ _ 2 _ _ _ hA.r1
  have c3 : A.cell? ⟨w.heap.size + 1, 3, none⟩ = some (.int .i64 M) := cell_of_row _ _ 3 _ _ _ hA.r1
  rw [Array.getD_eq_getD_getElem?] at p1 p2
  simp [results, h, go_sem, p1, p2, e2, c0, c1, c2, c3]
/-- What is told of the numbers. -/
def NuT (N : Nat) (G : Nat → Nat → Int) (P D L M : Int) (q : Bool) : Prop := (q = true ∧ P = N ∧ StN N D L M G) ∨ (q = false ∧ P = 0 ∧ D = 0 ∧ L = 0 ∧ M = 0 ∧ ¬ ∃ k l m, StN N k l m G)
/-- One more number of a kind: it is held, or the graph is none. -/
theorem Lv.one {n i y : Nat} {G : Nat → Nat → Int} {x z : Int} {s : Bool} (K : Lv n G x i z s) (hn : n ≤ 32) (h : (prL n)[i]? = some y) (h01 : x = 0 ∨ x = 1) (e : G (y / 32) (y % 32) = x) :
    ((if s then z == cmG n G (y / 32) (y % 32) else true) = true → Lv n G x (i + 1) (if s then z else cmG n G (y / 32) (y % 32)) true) ∧ ((if s then z == cmG n G (y / 32) (y % 32) else true) = false → ¬ ∃ k l m, StN n k l m G) := by
  cases s with
  | false => exact ⟨fun _ => K.first h e, fun k => by simp at k⟩
  | true => exact ⟨fun k => K.again h (by simpa using (by simpa using k : z = _).symm), fun k => K.no hn h h01 e (by simpa using fun q => (by simpa using k : ¬ z = _) q.symm)⟩

set_option maxRecDepth 100000 in
set_option maxHeartbeats 16000000 in
theorem numbers_any (N : Nat) (G : Nat → Nat → Int) (f : Nat → Nat) (w : World) (hN1 : 1 ≤ N) (hN : N ≤ 24) (hG : Gr N G) (hfr : ∀ a, a < N → f a = rbG N G a) (hf : ∀ a, a < 24 → f a < 2 ^ 32) :
    Calls Tryd.prog 32 #[.agg (gRow N f)] w fun e w' => (∃ (P D L M : Int) (q : Bool), e = .returned (.tuple #[.agg #[.int .i64 P, .int .i64 D, .int .i64 L, .int .i64 M], .bool q]) ∧ NuT N G P D L M q) ∧ Below w.heap.size w w' := by
  obtain ⟨fs, hu⟩ := und45
  refine (callsIn_wide (n := 9)).1 (callsIn_of_wp_marks Tryd.func32 rfl trivial (wpIn_wide.2 ?_) rfl)
  simp only [Tryd.ntmps32, List.size_toArray, List.length_cons, List.length_nil, Nat.reduceAdd, Nat.reduceSub, Array.replicate_succ, Array.replicate_zero, List.push_toArray, List.append_toArray, List.nil_append, List.cons_append]
  have HDG : Hid (∀ a, a < N → dgG N G a = (pc (f a) : Nat)) := fun a ha => by rw [hfr a ha]; exact rb_deg hG (by omega) ha
  have HCM : Hid (∀ a b, a < N → b < N → cmG N G a b = (pc (f a &&& f b) : Nat)) := fun a b ha hb => by rw [hfr a ha, hfr b hb]; exact rb_cm hG (by omega) ha hb
  have HBT : Hid (∀ a b, a < N → b < N → ((f a).testBit b = true → G a b = 1) ∧ ((f a).testBit b = false → G a b = 0)) := fun a b ha hb => by
    rw [hfr a ha, rb_bit]
    rcases hG.bit a b ha hb with e | e <;> simp [hb, e]
  have HGR : Hid (Gr N G) := hG
  clear hG hfr
  obtain ⟨V, HV⟩ : ∃ V, Hid (V = (((((w.alloc (.cells (gRow N f) 47)).alloc (.cells #[.int .i64 0, .int .i64 0, .int .i64 0, .int .i64 0] 37)).alloc (.cells #[.bool false] 4)).alloc (.cells #[.int .i64 0, .bool false] 82)).alloc (.cells #[.int .i64 0, .bool false] 82)).alloc (.cells #[.int .i64 0, .bool false] 82)) := ⟨_, rfl⟩
  have hI0 : NmI w N f 0 false 0 false 0 false V := by
    have al : ∀ (W : World) (o : Obj) (k : Nat) (x : Obj), W.heap[k]? = some x → (W.alloc o).heap[k]? = some x := fun W o k x h => (Below.heap_alloc W o k (Array.getElem?_eq_some_iff.1 h).1).trans h
    have nw : ∀ (W : World) (cs : Array Value) (t : TypeId) (k : Nat), W.heap.size = k → (W.alloc (.cells cs t)).heap[k]? = some (.cells cs t (0, 0)) := fun W cs t k h => by subst h; exact heap_alloc_new W _
    rw [HV.out]
    refine ⟨?_, ?_, ?_, ?_, ?_, ?_, ?_⟩
    · exact al _ _ _ _ (al _ _ _ _ (al _ _ _ _ (al _ _ _ _ (al _ _ _ _ (GrW.made w N f)))))
    · exact al _ _ _ _ (al _ _ _ _ (al _ _ _ _ (al _ _ _ _ (nw _ _ _ _ (by simp)))))
    · exact al _ _ _ _ (al _ _ _ _ (al _ _ _ _ (nw _ _ _ _ (by simp))))
    · exact al _ _ _ _ (al _ _ _ _ (nw _ _ _ _ (by simp)))
    · exact al _ _ _ _ (nw _ _ _ _ (by simp))
    · exact nw _ _ _ _ (by simp)
    · exact (((((balloc w _).alloc (by simp) _).alloc (by simp; omega) _).alloc (by simp; omega) _).alloc (by simp; omega) _).alloc (by simp; omega) _
  have c1 := hI0.gr.places
  rw [HV.out] at c1
  go_wp2
  rw [← HV.out] at c1 ⊢
  go_loopw [13] (fun av wr => ∃ (a : Nat) (dz : Int) (ds : Bool), av = .int .i64 (a : Int) ∧ a ≤ N ∧ Hid (if ds then 0 < a ∧ ∀ a', a' < a → dgG N G a' = dz else a = 0) ∧ NmI w N f dz ds 0 false 0 false wr) (fun av _ => (N - intOf av).toNat)
  case atStart => exact ⟨0, 0, false, rfl, by omega, (rfl : 0 = 0), hI0⟩
  case round =>
    clear c1 hI0
    obtain ⟨a, dz, ds, rfl, ha, HA, hI⟩ := hrel
    have hgr := hI.gr
    by_cases hlt : a < N
    · have hda : decide ((a : Int) < (N : Int)) = true := by simp; omega
      have CD := degree_any N f a wr (by omega) (hf _ (by omega))
      rw [← HDG.out a hlt] at CD
      obtain ⟨c, Hc⟩ : ∃ c, Hid (dgG N G a = c) := ⟨_, rfl⟩
      rw [Hc.out] at CD
      have HI : Hid (NmI w N f dz ds 0 false 0 false wr) := hI
      have HCH : Hid (∀ A, NmI w N f dz ds 0 false 0 false A → Calls Tryd.prog 46 #[.pointer (some ⟨w.heap.size + 1 + 1 + 1, 0, none⟩), .int .i64 c] A fun e w' => e = .returned (.bool (if ds then dz == c else true)) ∧ Hid (w' = if ds then A else A.setRow (w.heap.size + 1 + 1 + 1) #[.int .i64 c, .bool true])) := fun A h => (holds_any _ _ _ _ A h.dl).mono fun _ _ h => h
      have HU : Hid (∀ A3 A4 : World, A4 = (if ds then A3 else A3.setRow (w.heap.size + 1 + 1 + 1) #[.int .i64 c, .bool true]) → NmI w N f dz ds 0 false 0 false A3 → NmI w N f (if ds then dz else c) true 0 false 0 false A4) := fun A3 A4 e h => by
        subst e
        cases ds
        · exact h.setD c
        · exact h
      obtain ⟨q, Hq⟩ : ∃ q : Bool, Hid ((if ds then dz == c else true) = q) := ⟨_, rfl⟩
      rw [Hq.out] at HCH
      have hlw := hI.lt
      have HLW : Hid (w.heap.size + 6 ≤ wr.heap.size) := hlw
      clear hI hlw
      cases q with
      | true =>
        have HN : Hid (if true then 0 < a + 1 ∧ ∀ a', a' < a + 1 → dgG N G a' = (if ds then dz else c) else a + 1 = 0) := by
          show 0 < a + 1 ∧ ∀ a', a' < a + 1 → dgG N G a' = (if ds then dz else c)
          refine ⟨by omega, fun a' h => ?_⟩
          have h1 := HA.out
          have h2 := Hq.out
          cases ds with
          | true =>
            simp at h1 h2 ⊢
            by_cases e : a' = a
            · subst e; rw [Hc.out, h2]
            · exact h1.2 a' (by omega)
          | false =>
            simp at h1 ⊢
            rw [show a' = a by omega]
            exact Hc.out
        go_wp2_with (first
          | (refine wpList_load_row rfl 47 _ rfl w.heap.size rfl 47 _ (0, 0) _ hgr hu rfl (inf45 _ _) ?_)
          | (go_at_call 47; refine CD.mono ?_; rintro e w2 ⟨rfl, hb2⟩; clear CD; have hI2 := HI.out.mv (hb2.mono HLW.out); have CH := HCH.out w2 hI2)
          | (go_at_call 46; refine CH.mono ?_; rintro e w3 ⟨rfl, hw3⟩; clear CH; have hI3 := HU.out w2 w3 hw3.out hI2))
        go_roundw
        case rel => exact ⟨a + 1, _, true, by go_num, by omega, HN, hI3⟩
        case measure => simp [intOf]; omega
      | false =>
        have HN : Hid (¬ ∃ k l m, StN N k l m G) := by
          rintro ⟨k, l, m, S⟩
          have h1 := HA.out
          have h2 := Hq.out
          cases ds with
          | true =>
            simp at h1 h2
            have := stn_deg S (show 0 < N by omega) hlt
            rw [h1.2 0 h1.1, Hc.out] at this
            exact h2 this
          | false => simp at h2
        go_wp2_with (first
          | (refine wpList_load_row rfl 47 _ rfl w.heap.size rfl 47 _ (0, 0) _ hgr hu rfl (inf45 _ _) ?_)
          | (refine wpList_store_row rfl 37 _ _ rfl (w.heap.size + 1) #[.int .i64 0, .int .i64 0, .int .i64 0, .int .i64 0] rfl rfl 37 _ k1 (infSt _ _ _ _) rfl (str_one _ _ _ _) ?_)
          | (go_at_call 47; refine CD.mono ?_; rintro e w2 ⟨rfl, hb2⟩; clear CD; have hI2 := HI.out.mv (hb2.mono HLW.out); have CH := HCH.out w2 hI2)
          | (go_at_call 46; refine CH.mono ?_; rintro e w3 ⟨rfl, hw3⟩; clear CH; have hI3 := HU.out w2 w3 hw3.out hI2; have k1 := hI3.r1; have k4 : Boxed (w3.setRow (w.heap.size + 1) #[.int .i64 0, .int .i64 0, .int .i64 0, .int .i64 0]) (w.heap.size + 1 + 1) 4 (.bool false) := (setRow_other w3 _ _ _ (by omega)).trans hI3.r2; have k2 := k4.cell; have k3 := k4.frozen))
        have hF := hI3.an 0 0 0 0 false
        exact ⟨_, res_nums rfl rfl rfl hF, ⟨0, 0, 0, 0, false, rfl, .inr ⟨rfl, rfl, rfl, rfl, rfl, HN.out⟩⟩, hF.bw⟩
    · have hda : decide ((a : Int) < (N : Int)) = false := by simp; omega
      obtain rfl : a = N := by omega
      obtain ⟨rfl, HD⟩ : ds = true ∧ Hid (∀ a', a' < a → dgG a G a' = dz) := by
        have h1 := HA.out
        cases ds with
        | true => simp at h1; exact ⟨rfl, h1.2⟩
        | false => simp at h1; omega
      have c2 := hgr.places
      have HP : Hid (NmI w a f dz true 0 false 0 false wr) := hI
      clear HA
      go_wp2
      have hS : w.heap.size + 6 ≤ wr.heap.size := hI.lt
      refine (wpIn_wide (n := 9)).1 (wpIn_pairs (N := a) (gf := 26) rfl (enters_of Tryd.func26 (by kernel_rfl) rfl) rfl (pairs_runs a _ (by omega))
        (fun i B => ∃ (nz : Int) (ns : Bool) (fz : Int) (fs : Bool), Lv a G 1 i nz ns ∧ Lv a G 0 i fz fs ∧ NmI w a f dz true nz ns fz fs B)
        (fun B => (¬ ∃ k l m, StN a k l m G) ∧ AnW w 0 0 0 0 false B)
        (fun i A B ⟨nz, ns, fz, fs, h1, h2, h3⟩ hb => ⟨nz, ns, fz, fs, h1, h2, h3.mv (hb.mono hS)⟩) (fun A B h hb => ⟨h.1, h.2.mv (hb.mono hS)⟩) ⟨0, false, 0, false, Lv.start, Lv.start, HP.out⟩
        ?a1 ?assign ?body ?done ?stop)
      case assign =>
        intro l x W K _ hK
        unfold encP
        gi_wp2
        exact hK
      case body =>
        rintro i x B hx ⟨nz, ns, fz, fs, L1, L0, hI⟩ hlt2
        obtain ⟨p1, p2⟩ := prL_at' (by omega) hx
        have hgr := hI.gr
        have CJ := joined_any a f (x / 32) (x % 32) B (by omega) (by omega) (hf _ (by omega))
        obtain ⟨c, Hc⟩ : ∃ c, Hid (cmG a G (x / 32) (x % 32) = c) := ⟨_, rfl⟩
        have HCC : Hid (∀ W, Calls Tryd.prog 48 #[.agg (gRow a f), .int .i64 ((x / 32 : Nat) : Int), .int .i64 ((x % 32 : Nat) : Int)] W fun e w' => e = .returned (.int .i64 c) ∧ Below W.heap.size W w') := fun W => by
          have := common_any a f (x / 32) (x % 32) W (by omega) (by omega) (hf _ (by omega)) (hf _ (by omega))
          rwa [← HCM.out _ _ (by omega) p2, Hc.out] at this
        have HI : Hid (NmI w a f dz true nz ns fz fs B) := hI
        have HL : Hid (w.heap.size + 6 ≤ B.heap.size) := hI.lt
        have HL2 : Hid (wr.heap.size + 1 < B.heap.size) := hlt2
        have HBI := HBT.out (x / 32) (x % 32) (by omega) p2
        have HX : Hid ((prL a)[i]? = some x) := hx
        have HKP : Hid (∀ (A2 A3 A4 : World) (k : Nat) (q : Bool), Below B.heap.size B A2 → Below A2.heap.size A2 A3 → k < wr.heap.size → (A4 = if q then A3 else A3.setRow k #[.int .i64 c, .bool true]) → A4.heap[wr.heap.size]? = B.heap[wr.heap.size]? ∧ A4.heap[wr.heap.size + 1]? = B.heap[wr.heap.size + 1]?) := by
          intro A2 A3 A4 k q h2 h3 hk e
          have h23 := Below.next h2 h3
          have q2 := HL2.out
          subst e
          cases q
          · exact ⟨(setRow_other A3 k _ _ (by omega)).trans (h23.block _ (by omega)), (setRow_other A3 k _ _ (by omega)).trans (h23.block _ (by omega))⟩
          · exact ⟨h23.block _ (by omega), h23.block _ (by omega)⟩
        have HST : Hid (∀ A4 : World, ((A4.setRow (w.heap.size + 1) #[.int .i64 0, .int .i64 0, .int .i64 0, .int .i64 0]).setCell ⟨w.heap.size + 1 + 1, 0, none⟩ (.bool false)).heap[wr.heap.size]? = A4.heap[wr.heap.size]? ∧ ((A4.setRow (w.heap.size + 1) #[.int .i64 0, .int .i64 0, .int .i64 0, .int .i64 0]).setCell ⟨w.heap.size + 1 + 1, 0, none⟩ (.bool false)).heap[wr.heap.size + 1]? = A4.heap[wr.heap.size + 1]?) := fun A4 =>
          ⟨(heap_setCell_other _ ⟨w.heap.size + 1 + 1, 0, none⟩ _ _ (by show _ ≠ w.heap.size + 1 + 1; omega)).trans (setRow_other A4 _ _ _ (by omega)), (heap_setCell_other _ ⟨w.heap.size + 1 + 1, 0, none⟩ _ _ (by show _ ≠ w.heap.size + 1 + 1; omega)).trans (setRow_other A4 _ _ _ (by omega))⟩
        obtain ⟨s, Hs⟩ : ∃ s, Hid ((f (x / 32)).testBit (x % 32) = s) := ⟨_, rfl⟩
        rw [Hs.out] at CJ HBI
        clear hx hI hlt2
        cases s with
        | true =>
          have hone := L1.one (by omega) HX.out (.inr rfl) (HBI.1 rfl)
          have HS0 : Hid (Lv a G 0 (i + 1) fz fs) := L0.skip HX.out (by rw [HBI.1 rfl]; decide)
          rw [Hc.out] at hone
          have HCH : Hid (∀ A, NmI w a f dz true nz ns fz fs A → Calls Tryd.prog 46 #[.pointer (some ⟨w.heap.size + 1 + 1 + 1 + 1, 0, none⟩), .int .i64 c] A fun e w' => e = .returned (.bool (if ns then nz == c else true)) ∧ Hid (w' = if ns then A else A.setRow (w.heap.size + 1 + 1 + 1 + 1) #[.int .i64 c, .bool true])) := fun A h => (holds_any _ _ _ _ A h.nl).mono fun _ _ h => h
          have HU : Hid (∀ A3 A4 : World, A4 = (if ns then A3 else A3.setRow (w.heap.size + 1 + 1 + 1 + 1) #[.int .i64 c, .bool true]) → NmI w a f dz true nz ns fz fs A3 → NmI w a f dz true (if ns then nz else c) true fz fs A4) := fun A3 A4 e h => by
            subst e
            cases ns
            · exact h.setN c
            · exact h
          have HRS : Hid (∀ A4 : World, NmI w a f dz true (if ns then nz else c) true fz fs A4 → (A4.setRow (w.heap.size + 1) #[.int .i64 0, .int .i64 0, .int .i64 0, .int .i64 0]).cell? ⟨w.heap.size + 1 + 1, 0, none⟩ = some (.bool false) ∧ (A4.setRow (w.heap.size + 1) #[.int .i64 0, .int .i64 0, .int .i64 0, .int .i64 0]).frozen? ⟨w.heap.size + 1 + 1, 0, none⟩ = false) := fun A4 h => by
            have k4 : Boxed (A4.setRow (w.heap.size + 1) #[.int .i64 0, .int .i64 0, .int .i64 0, .int .i64 0]) (w.heap.size + 1 + 1) 4 (.bool false) := (setRow_other A4 _ _ _ (by omega)).trans h.r2
            exact ⟨k4.cell, k4.frozen⟩
          obtain ⟨q, Hq⟩ : ∃ q : Bool, Hid ((if ns then nz == c else true) = q) := ⟨_, rfl⟩
          rw [Hq.out] at HCH hone
          have HON : Hid ((q = true → Lv a G 1 (i + 1) (if ns then nz else c) true) ∧ (q = false → ¬ ∃ k l m, StN a k l m G)) := hone
          clear hone HBI L1 L0
          cases q with
          | true =>
            gi_wp2_with (first
            | (refine wpListIn_loadRow rfl 47 _ rfl w.heap.size rfl 47 _ (0, 0) _ hgr hu rfl (inf45 _ _) ?_)
            | (refine wpListIn_loadRow rfl 47 _ rfl w.heap.size rfl 47 _ (0, 0) _ hgr2 hu rfl (inf45 _ _) ?_)
            | (refine wpListIn_storeRow rfl 37 _ _ rfl (w.heap.size + 1) #[.int .i64 0, .int .i64 0, .int .i64 0, .int .i64 0] rfl rfl 37 _ k1 (infSt _ _ _ _) rfl (str_one _ _ _ _) ?_)
            | (refine ⟨trivial, (callsIn_wide.2 CJ).mono ?_⟩; rintro e A2 ⟨rfl, hA2⟩; clear CJ; have hI2 := HI.out.mv (hA2.mono HL.out); have hgr2 := hI2.gr; have CC := HCC.out A2; clear hgr)
            | (refine ⟨trivial, (callsIn_wide.2 CC).mono ?_⟩; rintro e A3 ⟨rfl, hA3⟩; clear CC; have hI3 := hI2.mv (hA3.mono (by have := HL.out; have := hA2.size; omega)); have CH := HCH.out A3 hI3)
            | (refine ⟨trivial, (callsIn_wide.2 CH).mono ?_⟩; rintro e A4 ⟨rfl, hA4⟩; clear CH; have hI4 := HU.out A3 A4 hA4.out hI3; have k1 := hI4.r1; have k2 := (HRS.out A4 hI4).1; have k3 := (HRS.out A4 hI4).2))
            exact ⟨HKP.out A2 A3 A4 _ _ hA2 hA3 (by omega) hA4.out, _, _, _, _, HON.out.1 (by trivial), HS0.out, hI4⟩
          | false =>
            gi_wp2_with (first
            | (refine wpListIn_loadRow rfl 47 _ rfl w.heap.size rfl 47 _ (0, 0) _ hgr hu rfl (inf45 _ _) ?_)
            | (refine wpListIn_loadRow rfl 47 _ rfl w.heap.size rfl 47 _ (0, 0) _ hgr2 hu rfl (inf45 _ _) ?_)
            | (refine wpListIn_storeRow rfl 37 _ _ rfl (w.heap.size + 1) #[.int .i64 0, .int .i64 0, .int .i64 0, .int .i64 0] rfl rfl 37 _ k1 (infSt _ _ _ _) rfl (str_one _ _ _ _) ?_)
            | (refine ⟨trivial, (callsIn_wide.2 CJ).mono ?_⟩; rintro e A2 ⟨rfl, hA2⟩; clear CJ; have hI2 := HI.out.mv (hA2.mono HL.out); have hgr2 := hI2.gr; have CC := HCC.out A2; clear hgr)
            | (refine ⟨trivial, (callsIn_wide.2 CC).mono ?_⟩; rintro e A3 ⟨rfl, hA3⟩; clear CC; have hI3 := hI2.mv (hA3.mono (by have := HL.out; have := hA2.size; omega)); have CH := HCH.out A3 hI3)
            | (refine ⟨trivial, (callsIn_wide.2 CH).mono ?_⟩; rintro e A4 ⟨rfl, hA4⟩; clear CH; have hI4 := HU.out A3 A4 hA4.out hI3; have k1 := hI4.r1; have k2 := (HRS.out A4 hI4).1; have k3 := (HRS.out A4 hI4).2))
            have h1 := HKP.out A2 A3 A4 _ _ hA2 hA3 (by omega) hA4.out
            have h2 := HST.out A4
            exact ⟨⟨h2.1.trans h1.1, h2.2.trans h1.2⟩, HON.out.2 (by trivial), hI4.an 0 0 0 0 false⟩
        | false =>
          have hone := L0.one (by omega) HX.out (.inl rfl) (HBI.2 rfl)
          have HS0 : Hid (Lv a G 1 (i + 1) nz ns) := L1.skip HX.out (by rw [HBI.2 rfl]; decide)
          rw [Hc.out] at hone
          have HCH : Hid (∀ A, NmI w a f dz true nz ns fz fs A → Calls Tryd.prog 46 #[.pointer (some ⟨w.heap.size + 1 + 1 + 1 + 1 + 1, 0, none⟩), .int .i64 c] A fun e w' => e = .returned (.bool (if fs then fz == c else true)) ∧ Hid (w' = if fs then A else A.setRow (w.heap.size + 1 + 1 + 1 + 1 + 1) #[.int .i64 c, .bool true])) := fun A h => (holds_any _ _ _ _ A h.fl).mono fun _ _ h => h
          have HU : Hid (∀ A3 A4 : World, A4 = (if fs then A3 else A3.setRow (w.heap.size + 1 + 1 + 1 + 1 + 1) #[.int .i64 c, .bool true]) → NmI w a f dz true nz ns fz fs A3 → NmI w a f dz true nz ns (if fs then fz else c) true A4) := fun A3 A4 e h => by
            subst e
            cases fs
            · exact h.setF c
            · exact h
          have HRS : Hid (∀ A4 : World, NmI w a f dz true nz ns (if fs then fz else c) true A4 → (A4.setRow (w.heap.size + 1) #[.int .i64 0, .int .i64 0, .int .i64 0, .int .i64 0]).cell? ⟨w.heap.size + 1 + 1, 0, none⟩ = some (.bool false) ∧ (A4.setRow (w.heap.size + 1) #[.int .i64 0, .int .i64 0, .int .i64 0, .int .i64 0]).frozen? ⟨w.heap.size + 1 + 1, 0, none⟩ = false) := fun A4 h => by
            have k4 : Boxed (A4.setRow (w.heap.size + 1) #[.int .i64 0, .int .i64 0, .int .i64 0, .int .i64 0]) (w.heap.size + 1 + 1) 4 (.bool false) := (setRow_other A4 _ _ _ (by omega)).trans h.r2
            exact ⟨k4.cell, k4.frozen⟩
          obtain ⟨q, Hq⟩ : ∃ q : Bool, Hid ((if fs then fz == c else true) = q) := ⟨_, rfl⟩
          rw [Hq.out] at HCH hone
          have HON : Hid ((q = true → Lv a G 0 (i + 1) (if fs then fz else c) true) ∧ (q = false → ¬ ∃ k l m, StN a k l m G)) := hone
          clear hone HBI L1 L0
          cases q with
          | true =>
            gi_wp2_with (first
            | (refine wpListIn_loadRow rfl 47 _ rfl w.heap.size rfl 47 _ (0, 0) _ hgr hu rfl (inf45 _ _) ?_)
            | (refine wpListIn_loadRow rfl 47 _ rfl w.heap.size rfl 47 _ (0, 0) _ hgr2 hu rfl (inf45 _ _) ?_)
            | (refine wpListIn_storeRow rfl 37 _ _ rfl (w.heap.size + 1) #[.int .i64 0, .int .i64 0, .int .i64 0, .int .i64 0] rfl rfl 37 _ k1 (infSt _ _ _ _) rfl (str_one _ _ _ _) ?_)
            | (refine ⟨trivial, (callsIn_wide.2 CJ).mono ?_⟩; rintro e A2 ⟨rfl, hA2⟩; clear CJ; have hI2 := HI.out.mv (hA2.mono HL.out); have hgr2 := hI2.gr; have CC := HCC.out A2; clear hgr)
            | (refine ⟨trivial, (callsIn_wide.2 CC).mono ?_⟩; rintro e A3 ⟨rfl, hA3⟩; clear CC; have hI3 := hI2.mv (hA3.mono (by have := HL.out; have := hA2.size; omega)); have CH := HCH.out A3 hI3)
            | (refine ⟨trivial, (callsIn_wide.2 CH).mono ?_⟩; rintro e A4 ⟨rfl, hA4⟩; clear CH; have hI4 := HU.out A3 A4 hA4.out hI3; have k1 := hI4.r1; have k2 := (HRS.out A4 hI4).1; have k3 := (HRS.out A4 hI4).2))
            exact ⟨HKP.out A2 A3 A4 _ _ hA2 hA3 (by omega) hA4.out, _, _, _, _, HS0.out, HON.out.1 (by trivial), hI4⟩
          | false =>
            gi_wp2_with (first
            | (refine wpListIn_loadRow rfl 47 _ rfl w.heap.size rfl 47 _ (0, 0) _ hgr hu rfl (inf45 _ _) ?_)
            | (refine wpListIn_loadRow rfl 47 _ rfl w.heap.size rfl 47 _ (0, 0) _ hgr2 hu rfl (inf45 _ _) ?_)
            | (refine wpListIn_storeRow rfl 37 _ _ rfl (w.heap.size + 1) #[.int .i64 0, .int .i64 0, .int .i64 0, .int .i64 0] rfl rfl 37 _ k1 (infSt _ _ _ _) rfl (str_one _ _ _ _) ?_)
            | (refine ⟨trivial, (callsIn_wide.2 CJ).mono ?_⟩; rintro e A2 ⟨rfl, hA2⟩; clear CJ; have hI2 := HI.out.mv (hA2.mono HL.out); have hgr2 := hI2.gr; have CC := HCC.out A2; clear hgr)
            | (refine ⟨trivial, (callsIn_wide.2 CC).mono ?_⟩; rintro e A3 ⟨rfl, hA3⟩; clear CC; have hI3 := hI2.mv (hA3.mono (by have := HL.out; have := hA2.size; omega)); have CH := HCH.out A3 hI3)
            | (refine ⟨trivial, (callsIn_wide.2 CH).mono ?_⟩; rintro e A4 ⟨rfl, hA4⟩; clear CH; have hI4 := HU.out A3 A4 hA4.out hI3; have k1 := hI4.r1; have k2 := (HRS.out A4 hI4).1; have k3 := (HRS.out A4 hI4).2))
            have h1 := HKP.out A2 A3 A4 _ _ hA2 hA3 (by omega) hA4.out
            have h2 := HST.out A4
            exact ⟨⟨h2.1.trans h1.1, h2.2.trans h1.2⟩, HON.out.2 (by trivial), hI4.an 0 0 0 0 false⟩
      case done =>
        rintro B ⟨nz, ns, fz, fs, L1, L0, hI⟩ hK
        have q0 := hI.gr.places
        have q1 := hI.r1
        have q3 : B.cell? ⟨w.heap.size + 1 + 1 + 1, 0, none⟩ = some (.int .i64 dz) := cell_of_row _ _ 0 _ _ _ hI.dl
        have q4 : B.cell? ⟨w.heap.size + 1 + 1 + 1 + 1, 0, none⟩ = some (.int .i64 nz) := cell_of_row _ _ 0 _ _ _ hI.nl
        have q5 : B.cell? ⟨w.heap.size + 1 + 1 + 1 + 1 + 1, 0, none⟩ = some (.int .i64 fz) := cell_of_row _ _ 0 _ _ _ hI.fl
        have k4 : Boxed (B.setRow (w.heap.size + 1) #[.int .i64 (a : Int), .int .i64 dz, .int .i64 nz, .int .i64 fz]) (w.heap.size + 1 + 1) 4 (.bool false) := (setRow_other B _ _ _ (by omega)).trans hI.r2
        have k2 := k4.cell
        have k3 := k4.frozen
        have HST : Hid (StN a dz nz fz G) := lv_stn HGR.out (by omega) HD.out L1 L0
        clear L1 L0
        go_wp2_with (refine wpList_store_row rfl 37 _ _ rfl (w.heap.size + 1) #[.int .i64 (a : Int), .int .i64 dz, .int .i64 nz, .int .i64 fz] rfl rfl 37 _ q1 (infSt _ _ _ _) rfl (str_one _ _ _ _) ?_)
        have hF := hI.an a dz nz fz true
        have hK2 : ((B.setRow (w.heap.size + 1) #[.int .i64 (a : Int), .int .i64 dz, .int .i64 nz, .int .i64 fz]).setCell ⟨w.heap.size + 1 + 1, 0, none⟩ (.bool true)).heap[wr.heap.size]? = some (.deferred (some [])) := (heap_setCell_other _ ⟨w.heap.size + 1 + 1, 0, none⟩ wr.heap.size (.bool true) (by show _ ≠ w.heap.size + 1 + 1; omega)).trans ((setRow_other B _ _ _ (by omega)).trans hK)
        refine ⟨by simp, .inl ⟨_, _, rfl, run_takeDeferred hK2, ?_⟩⟩
        have bP := hF.mv (bput (n := w.heap.size + 6) _ (.deferred none) (l := wr.heap.size) (by omega))
        exact ⟨_, res_nums rfl rfl rfl bP, ⟨_, _, _, _, true, rfl, .inl ⟨rfl, rfl, HST.out⟩⟩, bP.bw⟩
      case stop =>
        rintro B ⟨g1, g2⟩ hK
        refine wpIn_wide.2 ?_
        go_wp2
        refine ⟨by simp, .inl ⟨_, _, rfl, run_takeDeferred hK, ?_⟩⟩
        have bP := g2.mv (bput (n := w.heap.size + 6) _ (.deferred none) (l := wr.heap.size) (by omega))
        exact ⟨_, res_nums rfl rfl rfl bP, ⟨0, 0, 0, 0, false, rfl, .inr ⟨rfl, rfl, rfl, rfl, rfl, g1⟩⟩, bP.bw⟩
end Go.Proofs.YtlmjlffipinjiaaDoor

namespace Go.Proofs.YtlmjlffipinjiaaDoor
open Go.RowKit Go.Shelf

theorem gRow_one (n : Int) (f : Nat → Nat) : (gRow n f).all (·.oneCell') = true := by
  rw [Array.all_eq_true]
  intro i hi
  rw [gRow_size] at hi
  cases i with
  | zero => rfl
  | succ i =>
    have e : (gRow n f)[i + 1]'(by rw [gRow_size]; omega) = .int .u32 ((f i : Nat) : Int) := by simp [gRow]
    rw [e]
    rfl
theorem GrW.zero (w : World) : GrW (w.alloc (.cells #[.int .i64 0, .int .u32 0, .int .u32 0, .int .u32 0, .int .u32 0, .int .u32 0, .int .u32 0, .int .u32 0, .int .u32 0, .int .u32 0, .int .u32 0, .int .u32 0, .int .u32 0, .int .u32 0, .int .u32 0, .int .u32 0, .int .u32 0, .int .u32 0, .int .u32 0, .int .u32 0, .int .u32 0, .int .u32 0, .int .u32 0, .int .u32 0, .int .u32 0] 47)) w.heap.size 0 (fun _ => 0) := GrW.made w 0 (fun _ => 0)
theorem GrW.whole {w : World} {g : Nat} {n : Int} {f : Nat → Nat} (h : GrW w g n f) (n' : Int) (f' : Nat → Nat) : GrW (w.setRow g (gRow n' f')) g n' f' := setRow_heap w g _ _ _ _ h
theorem post_gr {fn : Func} {R : Ending → World → Prop} {a : Act} {w : World} {g : Nat} {n z : Int} {f : Nat → Nat} (s u : Tmp) (hres : fn.results = #[.cell s 47, .tmp u])
    (hp : a.tmps.getD s undef = .pointer (some ⟨g, 0, none⟩)) (hz : a.tmps.getD u undef = .int .i64 z) (hr : GrW w g n f) (hd : a.defers = []) (hR : R (.returned (.tuple #[.agg (gRow n f), .int .i64 z])) w) : bodyPost Tryd.prog fn R .ret a w := by
  obtain ⟨fs, hu⟩ := und45
  refine bodyPost_ret ?_ hd hR
  have hp' : a.tmps[s]?.getD undef = .pointer (some ⟨g, 0, none⟩) := by simpa using hp
  have hz' : a.tmps[u]?.getD undef = .int .i64 z := by simpa using hz
  simp [results, hres, hp', hz', asAddr, run_loadVar_row w g 47 47 (gRow n f) (0, 0) _ hr hu rfl (inf45 n f)]
/-- What open tells. -/
def OpT (s : Int) (L : List Int) (m : Int) (f : Nat → Nat) : Prop := gF s L = 0 → m = s ∧ (∀ a, f a = btG2 s.toNat L (s.toNat * s.toNat) a)
def OpenR (s : Int) (L : List Int) (w : World) (e : Ending) (w' : World) : Prop := (∃ (m : Int) (f : Nat → Nat), e = .returned (.tuple #[.agg (gRow m f), .int .i64 (gF s L : Int)]) ∧ OpT s L m f) ∧ Below w.heap.size w w'

set_option maxRecDepth 100000 in
set_option maxHeartbeats 4000000 in
theorem open_far (s : Int) (L : List Int) (v : Value) (w : World) (h : s < 1 ∨ 24 < s) :
    Calls Tryd.prog 31 #[.agg #[.int .i64 s, v]] w (OpenR s L w) := by
  have HF : Hid (gF s L = 1) := gF_far h
  have hz : GrW ((w.alloc (.cells #[.int .i64 s, v] 26)).alloc (.cells #[.int .i64 0, .int .u32 0, .int .u32 0, .int .u32 0, .int .u32 0, .int .u32 0, .int .u32 0, .int .u32 0, .int .u32 0, .int .u32 0, .int .u32 0, .int .u32 0, .int .u32 0, .int .u32 0, .int .u32 0, .int .u32 0, .int .u32 0, .int .u32 0, .int .u32 0, .int .u32 0, .int .u32 0, .int .u32 0, .int .u32 0, .int .u32 0, .int .u32 0] 47)) (w.heap.size + 1) 0 (fun _ => 0) := by
    have := GrW.zero (w.alloc (.cells #[.int .i64 s, v] 26))
    rwa [World.size_alloc] at this
  have hz2 := hz.whole 0 (fun _ => 0)
  have hb : Below w.heap.size w (((w.alloc (.cells #[.int .i64 s, v] 26)).alloc (.cells #[.int .i64 0, .int .u32 0, .int .u32 0, .int .u32 0, .int .u32 0, .int .u32 0, .int .u32 0, .int .u32 0, .int .u32 0, .int .u32 0, .int .u32 0, .int .u32 0, .int .u32 0, .int .u32 0, .int .u32 0, .int .u32 0, .int .u32 0, .int .u32 0, .int .u32 0, .int .u32 0, .int .u32 0, .int .u32 0, .int .u32 0, .int .u32 0, .int .u32 0] 47)).setRow (w.heap.size + 1) (gRow 0 fun _ => 0)) := bsetR ((balloc w _).alloc (by simp) _) (by omega) _
  by_cases h1 : s < 1
  · have d1 : decide (s < 1) = true := decide_eq_true h1
    clear h h1
    go_enter Tryd.func31, Tryd.ntmps31
    go_wp2_with (refine wpList_store_row rfl 47 _ _ rfl (w.heap.size + 1) (gRow 0 fun _ => 0) rfl rfl 47 _ hz (inf45 _ _) rfl (gRow_one _ _) ?_)
    refine post_gr (z := 1) 2 3 rfl rfl rfl hz2 rfl ⟨⟨0, fun _ => 0, by rw [HF.out]; rfl, fun h => ?_⟩, hb⟩
    rw [HF.out] at h; cases h
  · have d1 : decide (s < 1) = false := decide_eq_false h1
    have d2 : decide (24 < s) = true := decide_eq_true (by omega)
    clear h h1
    go_enter Tryd.func31, Tryd.ntmps31
    go_wp2_with (refine wpList_store_row rfl 47 _ _ rfl (w.heap.size + 1) (gRow 0 fun _ => 0) rfl rfl 47 _ hz (inf45 _ _) rfl (gRow_one _ _) ?_)
    refine post_gr (z := 1) 2 3 rfl rfl rfl hz2 rfl ⟨⟨0, fun _ => 0, by rw [HF.out]; rfl, fun h => ?_⟩, hb⟩
    rw [HF.out] at h; cases h
set_option maxRecDepth 100000 in
set_option maxHeartbeats 4000000 in
theorem open_shape (n : Nat) (L : List Int) (v : Value) (w : World) (h1 : 1 ≤ n) (h8 : n ≤ 8 * 3) (hv : Sl w v L) (_hll : L.length ≤ maxLen) (hl : L.length ≠ n * n) :
    Calls Tryd.prog 31 #[.agg #[.int .i64 (n : Int), v]] w (OpenR n L w) := by
  have HF : Hid (gF n L = 2) := gF_shape h1 h8 hl
  have d1 : decide ((n : Int) < 1) = false := by simp; omega
  have d2 : decide (24 < (n : Int)) = false := by simp; omega
  obtain ⟨a, cap, rfl, _⟩ := hv
  obtain ⟨z, hz⟩ : ∃ z, z = n * n := ⟨_, rfl⟩
  have hz99 : z ≤ 999 := by rw [hz]; exact Nat.le_trans (Nat.mul_le_mul h8 h8) (by decide)
  have hmul : (n : Int) * (n : Int) = (z : Int) := by rw [hz]; simp
  have hne : ((L.length : Int) != (z : Int)) = true := by simp; omega
  have HR : Hid (∀ w', Below w.heap.size w w' → OpenR n L w (.returned (.tuple #[.agg (gRow 0 fun _ => 0), .int .i64 2])) w') := fun w' hb => ⟨⟨0, fun _ => 0, by rw [HF.out]; rfl, fun h => (by rw [HF.out] at h; cases h)⟩, hb⟩
  generalize OpenR n L w = R at *
  clear HF
  generalize L.length = q at *
  clear hz hl
  have hz : GrW ((w.alloc (.cells #[.int .i64 (n : Int), (.slice a q cap)] 26)).alloc (.cells #[.int .i64 0, .int .u32 0, .int .u32 0, .int .u32 0, .int .u32 0, .int .u32 0, .int .u32 0, .int .u32 0, .int .u32 0, .int .u32 0, .int .u32 0, .int .u32 0, .int .u32 0, .int .u32 0, .int .u32 0, .int .u32 0, .int .u32 0, .int .u32 0, .int .u32 0, .int .u32 0, .int .u32 0, .int .u32 0, .int .u32 0, .int .u32 0, .int .u32 0] 47)) (w.heap.size + 1) 0 (fun _ => 0) := by
    have := GrW.zero (w.alloc (.cells #[.int .i64 (n : Int), .slice a q cap] 26))
    rwa [World.size_alloc] at this
  have hz2 := hz.whole 0 (fun _ => 0)
  have hb : Below w.heap.size w (((w.alloc (.cells #[.int .i64 (n : Int), (.slice a q cap)] 26)).alloc (.cells #[.int .i64 0, .int .u32 0, .int .u32 0, .int .u32 0, .int .u32 0, .int .u32 0, .int .u32 0, .int .u32 0, .int .u32 0, .int .u32 0, .int .u32 0, .int .u32 0, .int .u32 0, .int .u32 0, .int .u32 0, .int .u32 0, .int .u32 0, .int .u32 0, .int .u32 0, .int .u32 0, .int .u32 0, .int .u32 0, .int .u32 0, .int .u32 0, .int .u32 0] 47)).setRow (w.heap.size + 1) (gRow 0 fun _ => 0)) := bsetR ((balloc w _).alloc (by simp) _) (by omega) _
  go_enter Tryd.func31, Tryd.ntmps31
  go_wp2_with (refine wpList_store_row rfl 47 _ _ rfl (w.heap.size + 1) (gRow 0 fun _ => 0) rfl rfl 47 _ hz (inf45 _ _) rfl (gRow_one _ _) ?_)
  exact post_gr (z := 2) 2 3 rfl rfl rfl hz2 rfl (HR.out _ hb)
end Go.Proofs.YtlmjlffipinjiaaDoor
