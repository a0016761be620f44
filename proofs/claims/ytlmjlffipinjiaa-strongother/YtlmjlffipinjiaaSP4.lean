/- The walk of mutual. -/
import Derived.Test.YtlmjlffipinjiaaSP3
import Derived.Shelf.RegionOpen
import Derived.Stop.RegionWithIn
namespace Go.Proofs.Ytlmjlffipinjiaa
open Go.RowKit Go.Shelf

attribute [local go_sem] Oper.semAt_some
theorem stepIn_loadRow {F : Fence} {n : Nat} {P : Program} {ops : Array Oper} {E : Prop} {o : Oper} {a : Act} {w : World} {K : Act → World → Prop} {Q : Exit → Act → World → Prop} (hgd : o.guard = none) (ty : TypeId) (x : Operand) (ho : o.op = .load ty x)
    (g : Nat) (hx : a.eval x = .pointer (some ⟨g, 0, none⟩)) (t : TypeId) (cs : Array Value) (fr : Nat × Nat) (d : TypeDesc) (hg : w.heap[g]? = some (.cells cs t fr))
    (hu : P.underlying ty = some d) (hd : (match d with | .struct _ | .array _ _ => true | _ => false) = true) (hi : (P.info? ty).map (·.size) = some cs.size)
    (h : K (a.put o.dst (.agg cs)) w) : if Region.wanted o (yielded ops a.tmps) = true then Oper.wpIn F n P o a w K Q else E := by
  rw [if_pos (by simp [Region.wanted, hgd])]
  exact wpIn_loadRow ty x ho g hx t cs fr d hg hu hd hi h
/-- In a round operations that defer nothing are carried out as everywhere. -/
theorem anyIn_round {F : Fence} {n : Nat} {P : Program} {md : Region.Mode} {ops : Array Oper} {Q : Exit → Act → World → Prop} (l : Nat) (hd : ∀ (i : Nat) (o : Oper), ops[i]? = some o → ∀ c, o.op ≠ .defer c) :
    ∀ (fuel : Nat) (listed : Array Bool) (a : Act) (w : World), F.round = none → wpAnyIn F n P md ops Q fuel listed a w → wpAnyIn (F.inRound l) n P md ops Q fuel listed a w := by
  intro fuel
  induction fuel with
  | zero => intro listed a w _ h; exact h
  | succ fuel ih =>
    intro listed a w hro h
    refine ⟨h.1, fun i hi => ?_⟩
    have h2 := h.2 i hi
    unfold wpOpIn at h2 ⊢
    cases ho : ops[i]? with
    | none => rw [ho] at h2; exact ih _ _ _ hro h2
    | some o =>
      rw [ho] at h2
      simp only at h2 ⊢
      by_cases hw : Region.wanted o (yielded ops a.tmps) = true
      · rw [if_pos hw] at h2 ⊢
        have h3 := Oper.wpIn_mono (fun a w h => ih _ a w hro h) h2
        refine ⟨h3.1, ?_⟩
        have h4 := h3.2
        rw [Oper.semAt_eq _ _ _ (hd i o ho)] at h4 ⊢
        exact h4
      · rw [if_neg hw] at h2 ⊢
        exact ⟨h2.1, ih _ _ _ hro h2.2⟩
/-- No place is joined to itself, and none to one that is not joined to it. -/
def MuB (N : Nat) (f : Nat → Nat) : Prop := (∀ a, a < N → (f a).testBit a = false) ∧ ∀ i y : Nat, (prL N)[i]? = some y → (f (y / 32)).testBit (y % 32) = (f (y % 32)).testBit (y / 32)

set_option maxRecDepth 100000 in
set_option maxHeartbeats 8000000 in
theorem mutual_any (N : Nat) (f : Nat → Nat) (w : World) (hN : N ≤ 24) (hf : ∀ a, a < 24 → f a < 2 ^ 32) :
    Calls Try.prog 33 #[.agg (gRow N f)] w fun e w' => (∃ q : Bool, e = .returned (.bool q) ∧ (q = true ↔ MuB N f)) ∧ Below w.heap.size w w' := by
  obtain ⟨fs, hu⟩ := und45
  refine (callsIn_wide (n := 9)).1 (callsIn_of_wp_marks Try.func33 rfl trivial (wpIn_wide.2 ?_) rfl)
  simp only [Try.ntmps33, List.size_toArray, List.length_cons, List.length_nil, Nat.reduceAdd, Nat.reduceSub, Array.replicate_succ, Array.replicate_zero, List.push_toArray, List.append_toArray, List.nil_append, List.cons_append]
  have hG0 := (GrW.made w N f)
  have c0 := (hG0.places)
  have c1 := (Below.cell (balloc (w.alloc (.cells (gRow N f) 45)) (.cells #[.bool false] 4)) (p := ⟨w.heap.size, 0, none⟩) (by simp)).trans c0
  have HP0 : Hid (PrI w N f false ((w.alloc (.cells (gRow N f) 45)).alloc (.cells #[.bool false] 4))) := by
    have h := Boxed.new (w.alloc (.cells (gRow N f) 45)) 4 (.bool false)
    rw [World.size_alloc] at h
    exact ⟨hG0.below (balloc _ _) (by simp), h, ((balloc w _).alloc (by simp) _)⟩
  go_wp2
  go_loopw [8] (fun av wr => ∃ (a : Nat), av = .int .i64 (a : Int) ∧ a ≤ N ∧ Hid (∀ a', a' < a → (f a').testBit a' = false) ∧ PrI w N f false wr) (fun av _ => (N - intOf av).toNat)
  case atStart => exact ⟨0, rfl, by omega, (fun a' h => absurd h (by omega) : ∀ a', a' < 0 → _), HP0.out⟩
  case round =>
    clear hG0 c0 c1 HP0
    obtain ⟨a, rfl, ha, HA, hP⟩ := hrel
    have hgr := hP.gr
    by_cases hlt : a < N
    · have hda : decide ((a : Int) < (N : Int)) = true := by simp; omega
      have CJ := joined_any N f a a wr (by omega) (by omega) (hf _ (by omega))
      obtain ⟨s, Hs⟩ : ∃ s, Hid ((f a).testBit a = s) := ⟨_, rfl⟩
      rw [Hs.out] at CJ
      have HP : Hid (PrI w N f false wr) := hP
      have hlw : w.heap.size + 1 < wr.heap.size := hP.bx.lt
      cases s with
      | true =>
        go_wp2_with (first
          | (refine wpList_load_row rfl 45 _ rfl w.heap.size rfl 45 _ (0, 0) _ hgr hu rfl (inf45 _ _) ?_)
          | (go_at_call 22; refine CJ.mono ?_; rintro e w2 ⟨rfl, hb2⟩; clear CJ; have hP2 := HP.out.mv (hb2.mono (by omega)); have k2 := hP2.bx.cell; have k3 := hP2.bx.frozen))
        have hP3 := hP2.put false
        exact ⟨_, res_bool rfl rfl hP3.bx, ⟨false, rfl, by simp; intro h; exact absurd (h.1 a hlt) (by rw [Hs.out]; simp)⟩, hP3.bw⟩
      | false =>
        go_wp2_with (first
          | (refine wpList_load_row rfl 45 _ rfl w.heap.size rfl 45 _ (0, 0) _ hgr hu rfl (inf45 _ _) ?_)
          | (go_at_call 22; refine CJ.mono ?_; rintro e w2 ⟨rfl, hb2⟩; clear CJ; have hP2 := HP.out.mv (hb2.mono (by omega))))
        go_roundw
        case rel =>
          refine ⟨a + 1, by go_num, by omega, (fun a' h => ?_ : ∀ a', a' < a + 1 → _), hP2⟩
          by_cases e : a' = a
          · subst e; exact Hs.out
          · exact HA.out a' (by omega)
        case measure => simp [intOf]; omega
    · have hda : decide ((a : Int) < (N : Int)) = false := by simp; omega
      obtain rfl : a = N := by omega
      have c2 := hgr.places
      have HP : Hid (PrI w a f false wr) := hP
      go_wp2
      have hS : w.heap.size + 2 ≤ wr.heap.size := hP.bx.lt
      refine (wpIn_wide (n := 9)).1 (wpIn_pairs (N := a) (gf := 35) rfl (enters_of Try.func35 (by kernel_rfl) rfl) rfl (pairs_runs a _ (by omega))
        (fun i B => (∀ j y : Nat, j < i → (prL a)[j]? = some y → (f (y / 32)).testBit (y % 32) = (f (y % 32)).testBit (y / 32)) ∧ PrI w a f false B)
        (fun B => (¬ MuB a f) ∧ PrI w a f false B)
        (fun i A B h hb => ⟨h.1, h.2.mv (hb.mono hS)⟩) (fun A B h hb => ⟨h.1, h.2.mv (hb.mono hS)⟩) ⟨fun j y h => absurd h (by omega), HP.out⟩
        ?a1 ?assign ?body ?done ?stop)
      case assign =>
        intro l x W K _ hK
        unfold encP
        gi_wp2
        exact hK
      case body =>
        rintro i x B hx ⟨g1, g2⟩ hlt2
        obtain ⟨p1, p2⟩ := prL_at' (by omega) hx
        have HX : Hid ((prL a)[i]? = some x) := hx
        have HG1 : Hid (∀ j y : Nat, j < i → (prL a)[j]? = some y → (f (y / 32)).testBit (y % 32) = (f (y % 32)).testBit (y / 32)) := g1
        obtain ⟨s, Hs⟩ : ∃ s, Hid ((f (x / 32)).testBit (x % 32) = s) := ⟨_, rfl⟩
        obtain ⟨t, Ht⟩ : ∃ t, Hid ((f (x % 32)).testBit (x / 32) = t) := ⟨_, rfl⟩
        have C1 := joined_any a f (x / 32) (x % 32) B.drew (by omega) (by omega) (hf _ (by omega))
        have HC2 : Hid (∀ W, Calls Try.prog 22 #[.agg (gRow a f), .int .i64 ((x % 32 : Nat) : Int), .int .i64 ((x / 32 : Nat) : Int)] W fun e w' => e = .returned (.bool t) ∧ Below W.heap.size W w') := fun W => by
          have := joined_any a f (x % 32) (x / 32) W (by omega) (by omega) (hf _ (by omega))
          rwa [Ht.out] at this
        rw [Hs.out] at C1
        have hgr1 : GrW B.drew w.heap.size a f := g2.gr
        have HG2 : Hid (PrI w a f false B.drew) := (⟨g2.gr, g2.bx, g2.bw.drew⟩ : PrI w a f false B.drew)
        have HL : Hid (w.heap.size + 2 ≤ B.drew.heap.size) := (g2.bx.lt : w.heap.size + 2 ≤ B.heap.size)
        have HL2 : Hid (wr.heap.size + 1 < B.drew.heap.size) := hlt2
        by_cases hst : s = t
        · have hd : (s != t) = false := by simp [hst]
          have HE : Hid (∀ A2 A3 : World, Below B.drew.heap.size B.drew A2 → Below A2.heap.size A2 A3 → (A3.heap[wr.heap.size]? = B.heap[wr.heap.size]? ∧ A3.heap[wr.heap.size + 1]? = B.heap[wr.heap.size + 1]?) ∧ (∀ j y : Nat, j < i + 1 → (prL a)[j]? = some y → (f (y / 32)).testBit (y % 32) = (f (y % 32)).testBit (y / 32)) ∧ PrI w a f false A3) := by
            intro A2 A3 h2 h3
            have h23 := Below.next h2 h3
            have q := HL2.out
            refine ⟨⟨h23.block _ (by omega), h23.block _ (by omega)⟩, fun j y hj hy => ?_, HG2.out.mv (h23.mono HL.out)⟩
            by_cases e : j = i
            · subst e
              rw [HX.out] at hy
              cases hy
              rw [Hs.out, Ht.out, hst]
            · exact HG1.out j y (by omega) hy
          clear hx g1 hlt2 g2
          gi_wp2
          refine wpIn_region_any (by kernel_rfl) (anyIn_round (wr.heap.size + 1) (fun i o h c e => by revert h; revert i; intro i h; have hm := Array.mem_of_getElem? h; simp at hm; rcases hm with rfl | rfl | rfl | rfl | rfl | rfl | rfl | rfl | rfl <;> cases e) _ _ _ _ rfl ?_)
          try (change wpAnyIn _ _ _ _ _ _ _ _ _ (World.drew _))
          refine wpAnyIn_take (i := 1) (v := .int .i64 ((x / 32 : Nat) : Int)) rfl rfl (by kernel_rfl) (by kernel_rfl) (by kernel_rfl) (by intro _ _ _ h; first | exact h | cases h.1) ⟨Or.inl ⟨by rfl, fun w => by go_simp⟩, fun _ => rfl⟩ ?_
          refine wpAnyIn_take (i := 2) (v := .int .i64 ((x % 32 : Nat) : Int)) rfl rfl (by kernel_rfl) (by kernel_rfl) (by kernel_rfl) (by intro _ _ _ h; first | exact h | cases h.1) ⟨Or.inl ⟨by rfl, fun w => by go_simp⟩, fun _ => rfl⟩ ?_
          refine wpAnyIn_take (i := 5) (v := .int .i64 ((x % 32 : Nat) : Int)) rfl rfl (by kernel_rfl) (by kernel_rfl) (by kernel_rfl) (by intro _ _ _ h; first | exact h | cases h.1) ⟨Or.inl ⟨by rfl, fun w => by go_simp⟩, fun _ => rfl⟩ ?_
          refine wpAnyIn_take (i := 6) (v := .int .i64 ((x / 32 : Nat) : Int)) rfl rfl (by kernel_rfl) (by kernel_rfl) (by kernel_rfl) (by intro _ _ _ h; first | exact h | cases h.1) ⟨Or.inl ⟨by rfl, fun w => by go_simp⟩, fun _ => rfl⟩ ?_
          refine wpAnyIn_ready (rs := [0, 4]) (by kernel_rfl) (by simp) (AllReadyIn.cons rfl (fun K hK => ?_) (AllReadyIn.cons rfl (fun K hK => ?_) AllReadyIn.nil))
          · refine stepIn_loadRow rfl 45 _ rfl w.heap.size rfl 45 _ (0, 0) _ hgr1 hu rfl (inf45 _ _) (hK _ _ ?_)
            clear hK K
            refine wpAnyIn_ready (rs := [3, 4]) (by kernel_rfl) (by simp) (AllReadyIn.cons rfl (fun K hK => ?_) (AllReadyIn.cons rfl (fun K hK => ?_) AllReadyIn.nil))
            · go_simp
              refine ⟨trivial, (callsIn_wide.2 C1).mono ?_⟩
              rintro e A2 ⟨rfl, hA2⟩
              refine hK _ _ ?_
              clear hK K
              have hP2 := HG2.out.mv (hA2.mono (by have := HL.out; omega))
              have hgr2 := hP2.gr
              have C2 := HC2.out A2
              refine wpAnyIn_ready (rs := [4]) (by kernel_rfl) (by simp) (AllReadyIn.cons rfl (fun K hK => ?_) AllReadyIn.nil)
              refine stepIn_loadRow rfl 45 _ rfl w.heap.size rfl 45 _ (0, 0) _ hgr2 hu rfl (inf45 _ _) (hK _ _ ?_)
              clear hK K
              refine wpAnyIn_ready (rs := [7]) (by kernel_rfl) (by simp) (AllReadyIn.cons rfl (fun K hK => ?_) AllReadyIn.nil)
              go_simp
              refine ⟨trivial, (callsIn_wide.2 C2).mono ?_⟩
              rintro e A3 ⟨rfl, hA3⟩
              refine hK _ _ ?_
              clear hK K
              refine wpAnyIn_take (i := 8) (v := .bool false) rfl rfl (by kernel_rfl) (by kernel_rfl) (by kernel_rfl) (by intro _ _ _ h; first | exact h | cases h.1) ⟨Or.inl ⟨by rfl, fun w => by first | (go_simp; exact hst) | go_simp⟩, fun _ => rfl⟩ ?_
              refine wpAnyIn_done (by kernel_rfl) ?_ _
              gi_wp2
              exact HE.out A2 A3 hA2 hA3
            · refine stepIn_loadRow rfl 45 _ rfl w.heap.size rfl 45 _ (0, 0) _ hgr1 hu rfl (inf45 _ _) (hK _ _ ?_)
              clear hK K
              refine wpAnyIn_ready (rs := [3]) (by kernel_rfl) (by simp) (AllReadyIn.cons rfl (fun K hK => ?_) AllReadyIn.nil)
              go_simp
              refine ⟨trivial, (callsIn_wide.2 C1).mono ?_⟩
              rintro e A2 ⟨rfl, hA2⟩
              refine hK _ _ ?_
              clear hK K
              have hP2 := HG2.out.mv (hA2.mono (by have := HL.out; omega))
              have hgr2 := hP2.gr
              have C2 := HC2.out A2
              refine wpAnyIn_ready (rs := [7]) (by kernel_rfl) (by simp) (AllReadyIn.cons rfl (fun K hK => ?_) AllReadyIn.nil)
              go_simp
              refine ⟨trivial, (callsIn_wide.2 C2).mono ?_⟩
              rintro e A3 ⟨rfl, hA3⟩
              refine hK _ _ ?_
              clear hK K
              refine wpAnyIn_take (i := 8) (v := .bool false) rfl rfl (by kernel_rfl) (by kernel_rfl) (by kernel_rfl) (by intro _ _ _ h; first | exact h | cases h.1) ⟨Or.inl ⟨by rfl, fun w => by first | (go_simp; exact hst) | go_simp⟩, fun _ => rfl⟩ ?_
              refine wpAnyIn_done (by kernel_rfl) ?_ _
              gi_wp2
              exact HE.out A2 A3 hA2 hA3
          · refine stepIn_loadRow rfl 45 _ rfl w.heap.size rfl 45 _ (0, 0) _ hgr1 hu rfl (inf45 _ _) (hK _ _ ?_)
            clear hK K
            refine wpAnyIn_ready (rs := [0]) (by kernel_rfl) (by simp) (AllReadyIn.cons rfl (fun K hK => ?_) AllReadyIn.nil)
            refine stepIn_loadRow rfl 45 _ rfl w.heap.size rfl 45 _ (0, 0) _ hgr1 hu rfl (inf45 _ _) (hK _ _ ?_)
            clear hK K
            refine wpAnyIn_ready (rs := [3]) (by kernel_rfl) (by simp) (AllReadyIn.cons rfl (fun K hK => ?_) AllReadyIn.nil)
            go_simp
            refine ⟨trivial, (callsIn_wide.2 C1).mono ?_⟩
            rintro e A2 ⟨rfl, hA2⟩
            refine hK _ _ ?_
            clear hK K
            have hP2 := HG2.out.mv (hA2.mono (by have := HL.out; omega))
            have hgr2 := hP2.gr
            have C2 := HC2.out A2
            refine wpAnyIn_ready (rs := [7]) (by kernel_rfl) (by simp) (AllReadyIn.cons rfl (fun K hK => ?_) AllReadyIn.nil)
            go_simp
            refine ⟨trivial, (callsIn_wide.2 C2).mono ?_⟩
            rintro e A3 ⟨rfl, hA3⟩
            refine hK _ _ ?_
            clear hK K
            refine wpAnyIn_take (i := 8) (v := .bool false) rfl rfl (by kernel_rfl) (by kernel_rfl) (by kernel_rfl) (by intro _ _ _ h; first | exact h | cases h.1) ⟨Or.inl ⟨by rfl, fun w => by first | (go_simp; exact hst) | go_simp⟩, fun _ => rfl⟩ ?_
            refine wpAnyIn_done (by kernel_rfl) ?_ _
            gi_wp2
            exact HE.out A2 A3 hA2 hA3
        · have hd : (s != t) = true := by simp [hst]
          have HE : Hid (∀ A2 A3 : World, Below B.drew.heap.size B.drew A2 → Below A2.heap.size A2 A3 → ((A3.setCell ⟨w.heap.size + 1, 0, none⟩ (.bool false)).heap[wr.heap.size]? = B.heap[wr.heap.size]? ∧ (A3.setCell ⟨w.heap.size + 1, 0, none⟩ (.bool false)).heap[wr.heap.size + 1]? = B.heap[wr.heap.size + 1]?) ∧ (¬ MuB a f) ∧ PrI w a f false (A3.setCell ⟨w.heap.size + 1, 0, none⟩ (.bool false))) := by
            intro A2 A3 h2 h3
            have h23 := Below.next h2 h3
            have q := HL2.out
            refine ⟨⟨(heap_setCell_other A3 ⟨w.heap.size + 1, 0, none⟩ _ _ (by show _ ≠ w.heap.size + 1; omega)).trans (h23.block _ (by omega)), (heap_setCell_other A3 ⟨w.heap.size + 1, 0, none⟩ _ _ (by show _ ≠ w.heap.size + 1; omega)).trans (h23.block _ (by omega))⟩, fun M => ?_, (HG2.out.mv (h23.mono HL.out)).put false⟩
            have := M.2 i x HX.out
            rw [Hs.out, Ht.out] at this
            exact hst this
          clear hx g1 hlt2 g2
          gi_wp2
          refine wpIn_region_any (by kernel_rfl) (anyIn_round (wr.heap.size + 1) (fun i o h c e => by revert h; revert i; intro i h; have hm := Array.mem_of_getElem? h; simp at hm; rcases hm with rfl | rfl | rfl | rfl | rfl | rfl | rfl | rfl | rfl <;> cases e) _ _ _ _ rfl ?_)
          try (change wpAnyIn _ _ _ _ _ _ _ _ _ (World.drew _))
          refine wpAnyIn_take (i := 1) (v := .int .i64 ((x / 32 : Nat) : Int)) rfl rfl (by kernel_rfl) (by kernel_rfl) (by kernel_rfl) (by intro _ _ _ h; first | exact h | cases h.1) ⟨Or.inl ⟨by rfl, fun w => by go_simp⟩, fun _ => rfl⟩ ?_
          refine wpAnyIn_take (i := 2) (v := .int .i64 ((x % 32 : Nat) : Int)) rfl rfl (by kernel_rfl) (by kernel_rfl) (by kernel_rfl) (by intro _ _ _ h; first | exact h | cases h.1) ⟨Or.inl ⟨by rfl, fun w => by go_simp⟩, fun _ => rfl⟩ ?_
          refine wpAnyIn_take (i := 5) (v := .int .i64 ((x % 32 : Nat) : Int)) rfl rfl (by kernel_rfl) (by kernel_rfl) (by kernel_rfl) (by intro _ _ _ h; first | exact h | cases h.1) ⟨Or.inl ⟨by rfl, fun w => by go_simp⟩, fun _ => rfl⟩ ?_
          refine wpAnyIn_take (i := 6) (v := .int .i64 ((x / 32 : Nat) : Int)) rfl rfl (by kernel_rfl) (by kernel_rfl) (by kernel_rfl) (by intro _ _ _ h; first | exact h | cases h.1) ⟨Or.inl ⟨by rfl, fun w => by go_simp⟩, fun _ => rfl⟩ ?_
          refine wpAnyIn_ready (rs := [0, 4]) (by kernel_rfl) (by simp) (AllReadyIn.cons rfl (fun K hK => ?_) (AllReadyIn.cons rfl (fun K hK => ?_) AllReadyIn.nil))
          · refine stepIn_loadRow rfl 45 _ rfl w.heap.size rfl 45 _ (0, 0) _ hgr1 hu rfl (inf45 _ _) (hK _ _ ?_)
            clear hK K
            refine wpAnyIn_ready (rs := [3, 4]) (by kernel_rfl) (by simp) (AllReadyIn.cons rfl (fun K hK => ?_) (AllReadyIn.cons rfl (fun K hK => ?_) AllReadyIn.nil))
            · go_simp
              refine ⟨trivial, (callsIn_wide.2 C1).mono ?_⟩
              rintro e A2 ⟨rfl, hA2⟩
              refine hK _ _ ?_
              clear hK K
              have hP2 := HG2.out.mv (hA2.mono (by have := HL.out; omega))
              have hgr2 := hP2.gr
              have C2 := HC2.out A2
              refine wpAnyIn_ready (rs := [4]) (by kernel_rfl) (by simp) (AllReadyIn.cons rfl (fun K hK => ?_) AllReadyIn.nil)
              refine stepIn_loadRow rfl 45 _ rfl w.heap.size rfl 45 _ (0, 0) _ hgr2 hu rfl (inf45 _ _) (hK _ _ ?_)
              clear hK K
              refine wpAnyIn_ready (rs := [7]) (by kernel_rfl) (by simp) (AllReadyIn.cons rfl (fun K hK => ?_) AllReadyIn.nil)
              go_simp
              refine ⟨trivial, (callsIn_wide.2 C2).mono ?_⟩
              rintro e A3 ⟨rfl, hA3⟩
              refine hK _ _ ?_
              clear hK K
              refine wpAnyIn_take (i := 8) (v := .bool true) rfl rfl (by kernel_rfl) (by kernel_rfl) (by kernel_rfl) (by intro _ _ _ h; first | exact h | cases h.1) ⟨Or.inl ⟨by rfl, fun w => by first | (go_simp; exact hst) | go_simp⟩, fun _ => rfl⟩ ?_
              refine wpAnyIn_done (by kernel_rfl) ?_ _
              have hP3 := hP2.mv (hA3.mono (by have := HL.out; have := hA2.size; omega))
              have k2 := hP3.bx.cell
              have k3 := hP3.bx.frozen
              gi_wp2
              exact HE.out A2 A3 hA2 hA3
            · refine stepIn_loadRow rfl 45 _ rfl w.heap.size rfl 45 _ (0, 0) _ hgr1 hu rfl (inf45 _ _) (hK _ _ ?_)
              clear hK K
              refine wpAnyIn_ready (rs := [3]) (by kernel_rfl) (by simp) (AllReadyIn.cons rfl (fun K hK => ?_) AllReadyIn.nil)
              go_simp
              refine ⟨trivial, (callsIn_wide.2 C1).mono ?_⟩
              rintro e A2 ⟨rfl, hA2⟩
              refine hK _ _ ?_
              clear hK K
              have hP2 := HG2.out.mv (hA2.mono (by have := HL.out; omega))
              have hgr2 := hP2.gr
              have C2 := HC2.out A2
              refine wpAnyIn_ready (rs := [7]) (by kernel_rfl) (by simp) (AllReadyIn.cons rfl (fun K hK => ?_) AllReadyIn.nil)
              go_simp
              refine ⟨trivial, (callsIn_wide.2 C2).mono ?_⟩
              rintro e A3 ⟨rfl, hA3⟩
              refine hK _ _ ?_
              clear hK K
              refine wpAnyIn_take (i := 8) (v := .bool true) rfl rfl (by kernel_rfl) (by kernel_rfl) (by kernel_rfl) (by intro _ _ _ h; first | exact h | cases h.1) ⟨Or.inl ⟨by rfl, fun w => by first | (go_simp; exact hst) | go_simp⟩, fun _ => rfl⟩ ?_
              refine wpAnyIn_done (by kernel_rfl) ?_ _
              have hP3 := hP2.mv (hA3.mono (by have := HL.out; have := hA2.size; omega))
              have k2 := hP3.bx.cell
              have k3 := hP3.bx.frozen
              gi_wp2
              exact HE.out A2 A3 hA2 hA3
          · refine stepIn_loadRow rfl 45 _ rfl w.heap.size rfl 45 _ (0, 0) _ hgr1 hu rfl (inf45 _ _) (hK _ _ ?_)
            clear hK K
            refine wpAnyIn_ready (rs := [0]) (by kernel_rfl) (by simp) (AllReadyIn.cons rfl (fun K hK => ?_) AllReadyIn.nil)
            refine stepIn_loadRow rfl 45 _ rfl w.heap.size rfl 45 _ (0, 0) _ hgr1 hu rfl (inf45 _ _) (hK _ _ ?_)
            clear hK K
            refine wpAnyIn_ready (rs := [3]) (by kernel_rfl) (by simp) (AllReadyIn.cons rfl (fun K hK => ?_) AllReadyIn.nil)
            go_simp
            refine ⟨trivial, (callsIn_wide.2 C1).mono ?_⟩
            rintro e A2 ⟨rfl, hA2⟩
            refine hK _ _ ?_
            clear hK K
            have hP2 := HG2.out.mv (hA2.mono (by have := HL.out; omega))
            have hgr2 := hP2.gr
            have C2 := HC2.out A2
            refine wpAnyIn_ready (rs := [7]) (by kernel_rfl) (by simp) (AllReadyIn.cons rfl (fun K hK => ?_) AllReadyIn.nil)
            go_simp
            refine ⟨trivial, (callsIn_wide.2 C2).mono ?_⟩
            rintro e A3 ⟨rfl, hA3⟩
            refine hK _ _ ?_
            clear hK K
            refine wpAnyIn_take (i := 8) (v := .bool true) rfl rfl (by kernel_rfl) (by kernel_rfl) (by kernel_rfl) (by intro _ _ _ h; first | exact h | cases h.1) ⟨Or.inl ⟨by rfl, fun w => by first | (go_simp; exact hst) | go_simp⟩, fun _ => rfl⟩ ?_
            refine wpAnyIn_done (by kernel_rfl) ?_ _
            have hP3 := hP2.mv (hA3.mono (by have := HL.out; have := hA2.size; omega))
            have k2 := hP3.bx.cell
            have k3 := hP3.bx.frozen
            gi_wp2
            exact HE.out A2 A3 hA2 hA3
      case done =>
        rintro B ⟨g1, g2⟩ hK
        have k2 := g2.bx.cell
        have k3 := g2.bx.frozen
        have HG1 : Hid (MuB a f) := ⟨HA.out, fun i y hy => g1 i y (prL_lt hy) hy⟩
        clear g1
        go_wp2
        have hK2 := (heap_setCell_other B ⟨w.heap.size + 1, 0, none⟩ wr.heap.size (.bool true) (by show _ ≠ w.heap.size + 1; omega)).trans hK
        refine ⟨by simp, .inl ⟨_, _, rfl, run_takeDeferred hK2, ?_⟩⟩
        have bP := (g2.put true).mv (bput (n := w.heap.size + 2) _ (.deferred none) (l := wr.heap.size) (by omega))
        exact ⟨_, res_bool rfl rfl bP.bx, ⟨true, rfl, by simpa using HG1.out⟩, bP.bw⟩
      case stop =>
        rintro B ⟨g1, g2⟩ hK
        refine wpIn_wide.2 ?_
        go_wp2
        refine ⟨by simp, .inl ⟨_, _, rfl, run_takeDeferred hK, ?_⟩⟩
        have bP := g2.mv (bput (n := w.heap.size + 2) _ (.deferred none) (l := wr.heap.size) (by omega))
        exact ⟨_, res_bool rfl rfl bP.bx, ⟨false, rfl, by simp; exact g1⟩, bP.bw⟩
end Go.Proofs.Ytlmjlffipinjiaa
