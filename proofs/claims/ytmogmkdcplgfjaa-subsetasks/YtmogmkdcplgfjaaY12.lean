/- The walk of holders: which sets have a set of the family within them. -/
import Derived.Test.YtmogmkdcplgfjaaY11
namespace Go.Proofs.Ytmogmkdcplgfjaa
open Go.RowKit Go.Shelf

attribute [local go_sem] Oper.semAt_some

def meB (M : List Nat) (i s : Nat) : Bool := (M.take i).contains s
theorem me_zero (M : List Nat) (s : Nat) : meB M 0 s = false := by unfold meB; rw [List.take_zero]; rfl
theorem me_step {M : List Nat} {i : Nat} (hi : i < M.length) : updV (meB M i) (M.getD i 0) true = meB M (i + 1) := by
  have e : M.take (i + 1) = M.take i ++ [M.getD i 0] := by
    rw [List.take_add_one, List.getElem?_eq_getElem hi, List.getD_eq_getElem?_getD, List.getElem?_eq_getElem hi]; rfl
  funext s
  unfold updV meB
  rw [e, Bool.eq_iff_iff]
  by_cases e1 : s = M.getD i 0
  · rw [if_pos e1, List.contains_iff_mem, List.mem_append]
    simp only [true_iff]
    exact .inr (by rw [e1]; exact List.mem_cons_self)
  · rw [if_neg e1, List.contains_iff_mem, List.contains_iff_mem, List.mem_append, List.mem_singleton]
    exact ⟨.inl, fun h => h.resolve_right e1⟩
theorem me_all (M : List Nat) : meB M M.length = hmB M 0 0 := by
  funext s
  rw [hm_zero]
  unfold meB
  rw [List.take_of_length_le (Nat.le_refl _)]
/-- A row of truths that is read. -/
def Tr (W : World) (v : Value) (A : Nat) (f : Nat → Bool) : Prop := ∃ g, v = .slice (some ⟨g, 0, none⟩) A A ∧ OwV 4 Value.bool W g A f

set_option maxRecDepth 100000 in
set_option maxHeartbeats 16000000 in
theorem holders_any (n A : Nat) (M : List Nat) (v : Value) (w : World) (hn : n ≤ 12) (HA2 : Hid (2 ^ n = A)) (hv : Wd w v M) (hl : M.length ≤ 4096) (h4 : ∀ i, i < M.length → M.getD i 0 < A) :
    Calls Try.prog 50 #[.int .i64 (n : Int), v] w fun e w' => (∃ y, e = .returned y ∧ Tr w' y A (hd M)) ∧ Below w.heap.size w w' := by
  have eA : (1 : Int) * 2 ^ n = (A : Int) := by rw [Int.one_mul, ← HA2.out]; simp
  have hA12 : A ≤ 4096 := by rw [← HA2.out]; exact (Nat.pow_le_pow_right (by decide) hn : 2 ^ n ≤ 2 ^ 12)
  have hAw : IntKind.i64.wrap (A : Int) = (A : Int) := IntWalk.i64_in _ (by omega)
  have hmk : ∀ w : World, (Instr.makeSlice 51 (.int .i64 (A : Int)) (.int .i64 (A : Int))).run Try.prog w = .ok (.slice (some ⟨w.heap.size, 0, none⟩) A A) (w.alloc (.cells (madeCells #[.bool false] A) 4)) := fun w => run_makeB A (by omega) w
  obtain ⟨a, c, rfl, -, hA⟩ := hv
  have HA : Hid (∀ W, Below w.heap.size w W → ∀ i, i < M.length → ∃ b off, a = some ⟨b, off, none⟩ ∧ W.cell? ⟨b, off + i, none⟩ = some (.int .i64 ((M.getD i 0 : Nat) : Int))) := fun W bW i hi => by
    obtain ⟨b, o, e, hc⟩ := hA i hi
    exact ⟨b, o, e, (bW.cell (World.block_lt_of_cell? _ _ hc)).trans hc⟩
  have H4 : Hid (∀ i, i < M.length → M.getD i 0 < A) := h4
  have HI0 : Hid (MI w w.heap.size A (meB M 0) [] ((w.alloc (.cells (madeCells #[.bool false] A) 4)).alloc (.cells #[.slice (some ⟨w.heap.size, 0, none⟩) A A] 51))) := MI.made A w _ fun j => (me_zero M j).symm
  have HME : Hid (∀ i, i < M.length → updV (meB M i) (M.getD i 0) true = meB M (i + 1)) := fun i hi => me_step hi
  have HMA : Hid (meB M M.length = hmB M 0 0) := me_all M
  have HX : Hid (∀ s, s < A → hmB M s (lsL s).length = hmB M (s + 1) 0) := fun s hs => hm_next (by omega)
  have HSS : Hid (∀ s k x, s < A → (lsL s)[k]? = some x → updV (hmB M s k) s (hmB M s k s || hmB M s k x) = hmB M s (k + 1)) := fun s k x hs h => hm_step (by omega) h
  have HZ : Hid (∀ j, j < A → hmB M A 0 j = hd M j) := fun j hj => by unfold hmB; rw [if_pos hj]
  obtain ⟨m, Hm⟩ : ∃ m, Hid (M.length = m) := ⟨_, rfl⟩
  rw [Hm.out] at HA H4 HME HMA hl ⊢
  obtain ⟨g, Hg⟩ : ∃ g, Hid (w.heap.size = g) := ⟨_, rfl⟩
  clear hA h4 HA2
  refine (callsIn_wide (n := 9)).1 (callsIn_of_wp_marks Try.func50 rfl trivial (wpIn_wide.2 ?_) rfl)
  simp only [Try.ntmps50, List.size_toArray, List.length_cons, List.length_nil, Nat.reduceAdd, Nat.reduceSub, Array.replicate_succ, Array.replicate_zero, List.push_toArray, List.append_toArray, List.nil_append, List.cons_append]
  go_wp2
  rw [Hg.out] at HI0 ⊢
  go_loopw [15] (fun iv wr => ∃ (i : Nat), iv = .int .i64 (i : Int) ∧ i ≤ m ∧ MI w g A (meB M i) [] wr) (fun iv _ => (m - intOf iv).toNat)
  case atStart => exact ⟨0, rfl, by omega, HI0.out⟩
  case round =>
    clear HI0
    obtain ⟨i, rfl, hi, hI⟩ := hrel
    have q5 := hI.b.cell
    by_cases hlt : i < m
    · have hd : decide ((i : Int) < (m : Int)) = true := by simp; omega
      have hii : (i : Int) < (m : Int) := by omega
      obtain ⟨b1, o1, rfl, c1⟩ := HA.out wr (by rw [Hg.out]; exact hI.bw) i hlt
      have hyA := H4.out i hlt
      have hup := HME.out i hlt
      obtain ⟨y, Hy⟩ : ∃ y, Hid (M.getD i 0 = y) := ⟨_, rfl⟩
      rw [Hy.out] at c1 hyA hup
      have hyi : (y : Int) < (A : Int) := by omega
      have qo := hI.o.cell y hyA
      have fo := hI.o.frozen y
      have HI2 : Hid (MI w g A (meB M (i + 1)) [] (wr.setCell ⟨g, y, none⟩ (.bool true))) := by
        show MI _ _ _ _ _ _
        rw [← hup]
        exact hI.set y true
      clear hup hI
      go_wp2
      go_roundw
      case rel => exact ⟨i + 1, by go_num, by omega, HI2.out⟩
      case measure => simp [intOf]; omega
    · have hd : decide ((i : Int) < (m : Int)) = false := by simp; omega
      obtain rfl : i = m := by omega
      rw [HMA.out] at hI
      have HI : Hid (MI w g A (hmB M 0 0) [] wr) := hI
      clear hI
      go_wp2
      refine wp_loop (fun act W => ∃ (u0 u1 u2 u3 u4 u6 u7 u8 u9 u10 u11 u12 u13 u14 u15 u16 u17 u18 u19 u20 u21 u22 u26 u27 u28 u29 u30 u31 u32 u33 u34 u35 u36 u37 u38 u39 u40 u41 u42 u43 u44 u45 : Value) (s : Nat) (rs : List Nat), act = { tmps := #[u0, u1, u2, u3, u4, .pointer (some ⟨g + 1, 0, none⟩), u6, u7, u8, u9, u10, u11, u12, u13, u14, u15, u16, u17, u18, u19, u20, u21, u22, .slice (some ⟨g, 0, none⟩) A A, .int .i64 (A : Int), .int .i64 (s : Int), u26, u27, u28, u29, u30, u31, u32, u33, u34, u35, u36, u37, u38, u39, u40, u41, u42, u43, u44, u45], defers := rs.map markOf } ∧ s ≤ A ∧ MI w g A (hmB M s 0) rs W) (fun act _ => A - (intOf (act.tmps.getD 25 undef)).toNat) ?start ?round
      case start => exact ⟨_, _, _, _, _, _, _, _, _, _, _, _, _, _, _, _, _, _, _, _, _, _, _, _, _, _, _, _, _, _, _, _, _, _, _, _, _, _, _, _, _, _, 0, [], rfl, by omega, HI.out⟩
      case round =>
        clear HI q5 hlt hd
        rintro act W ⟨u0, u1, u2, u3, u4, u6, u7, u8, u9, u10, u11, u12, u13, u14, u15, u16, u17, u18, u19, u20, u21, u22, u26, u27, u28, u29, u30, u31, u32, u33, u34, u35, u36, u37, u38, u39, u40, u41, u42, u43, u44, u45, s, rs, rfl, hs, hI⟩
        have hsz := hI.size
        by_cases hlt : s < A
        · have hd : decide (s < A) = true := by simpa using hlt
          have hd2 : decide ((s : Int) < (A : Int)) = true := by simp; omega
          have hss : (s : Int) < (A : Int) := by omega
          have HXi : Hid (hmB M s (lsL s).length = hmB M (s + 1) 0) := HX.out s hlt
          have HSi : Hid (∀ k x, (lsL s)[k]? = some x → updV (hmB M s k) s (hmB M s k s || hmB M s k x) = hmB M s (k + 1)) := fun k x h => HSS.out s k x hlt h
          have b1 := balloc W (.cells #[.int .i64 (s : Int)] 3)
          have f8 := Boxed.new W 3 (.int .i64 (s : Int))
          have q8 := f8.cell
          obtain ⟨w1, Hw1⟩ : ∃ w1, Hid (w1 = W.alloc (.cells #[.int .i64 (s : Int)] 3)) := ⟨_, rfl⟩
          have CL := lessOne_any s w1
          have s1 : w1.heap.size = W.heap.size + 1 := by rw [Hw1.out]; simp
          rw [← Hw1.out] at f8 b1 q8
          rw [s1] at CL
          have HS1 : Hid (w1.heap.size = W.heap.size + 1) := s1
          have HI : Hid (MI w g A (hmB M s 0) rs W) := hI
          clear hI s1
          go_wp2_with (first | (rw [← Hw1.out]; go_at_call 49; refine CL.mono ?_; rintro e w2 ⟨rfl, hw2⟩) | (go_at_call 49; refine CL.mono ?_; rintro e w2 ⟨rfl, hw2⟩))
          have s1 := HS1.out
          have b2 := balloc w1 (.cells #[.int .i64 (s : Int)] 3)
          have f9 := Boxed.new w1 3 (.int .i64 (s : Int))
          have s2 : (w1.alloc (.cells #[.int .i64 (s : Int)] 3)).heap.size = w1.heap.size + 1 := by simp
          rw [← hw2] at b2 f9 s2
          rw [s1] at f9
          have hAb : Below W.heap.size W w2 := b1.trans (b2.mono (by omega))
          have hrs : ∀ l, W.heap.size ≤ l → l ∉ rs := fun l hl => HI.out.new hl
          have HI2 : Hid (MI w g A (hmB M s 0) rs w2) := HI.out.below hAb
          have f82 : Boxed w2 W.heap.size 3 (.int .i64 (s : Int)) := boxLow f8 b2 (by omega)
          rw [← hw2]
          have HS2 : Hid (w2.heap.size = W.heap.size + 2) := by show _ = _; omega
          clear hw2 CL b1 b2 s1 s2 hAb f8 q8
          refine (wpIn_wide (n := 9)).1 (wpIn_runs2 (ys := lsL s) (enc := encI) (Kp := KB (W.heap.size + 1)) (Ab := AbN) (gf := 56) (lb := #[.pointer (some ⟨W.heap.size + 1, 0, none⟩)]) rfl (enters_of Try.func56 (by kernel_rfl) rfl)
            (less_runs s _ (W.heap.size + 1) w2 (by omega) f9) (fun _ => rfl) (fun h k => k.trans h) ?hKb (fun _ _ _ _ _ h => h.elim)
            (fun k C => MI w g A (hmB M s k) rs C ∧ Boxed C W.heap.size 3 (.int .i64 (s : Int)) ∧ w2.heap.size ≤ C.heap.size) (fun _ _ => False) ?hIp (fun _ _ _ _ h => h.elim) (fun _ _ _ _ _ _ _ h => h.elim) (fun _ _ _ _ h => h.elim) ?h0
            ?a1 ?assign ?body ?done (fun _ _ h => h.elim))
          case hKb =>
            intro C o hC
            have s2 := HS2.out
            exact World.putObj_heap_other (by omega)
          case hIp =>
            rintro k C o o' ⟨g1, g2, g3⟩ _ _
            have s2 := HS2.out
            exact ⟨g1.put _ (by omega) (hrs _ (by omega)), boxAt g2 (World.putObj_heap_other (by omega)), by simpa [World.putObj] using g3⟩
          case h0 =>
            intro V hb
            have s2 := HS2.out
            exact ⟨HI2.out.below hb, boxLow f82 hb (by omega), hb.size⟩
          case assign =>
            intro l x W K _ hK
            unfold encI
            gi_wp2
            exact hK
          case body =>
            rintro k x C hx ⟨g1, g2, g3⟩ hD hrec
            have s2 := HS2.out
            have hxs : x < s := ls_lt (List.mem_of_getElem? hx) (by omega)
            have hxA : x < A := by omega
            have hxi : (x : Int) < (A : Int) := by omega
            have q5 := g1.b.cell
            have q8 := g2.cell
            have qo := g1.o.cell s hlt
            have qx := g1.o.cell x hxA
            have fo := g1.o.frozen s
            have hst := HSi.out k x hx
            obtain ⟨p, Hp⟩ : ∃ p, Hid (hmB M s k s = p) := ⟨_, rfl⟩
            obtain ⟨q, Hq⟩ : ∃ q, Hid (hmB M s k x = q) := ⟨_, rfl⟩
            rw [Hp.out] at qo hst
            rw [Hq.out] at qx hst
            have HF : Hid (∀ E, E = C.drew.setCell ⟨g, s, none⟩ (.bool (p || q)) → (E.heap[w2.heap.size]? = C.heap[w2.heap.size]? ∧ E.heap[w2.heap.size + 1]? = C.heap[w2.heap.size + 1]?) ∧ KB (W.heap.size + 1) (w2.heap.size + 1) C E ∧ MI w g A (hmB M s (k + 1)) rs E ∧ Boxed E W.heap.size 3 (.int .i64 (s : Int)) ∧ w2.heap.size ≤ E.heap.size) := by
              rintro E rfl
              have oth : ∀ b, b ≠ g → (C.drew.setCell ⟨g, s, none⟩ (.bool (p || q))).heap[b]? = C.heap[b]? := fun b hb => heap_setCell_other C.drew ⟨g, s, none⟩ b _ hb
              refine ⟨⟨oth _ (by omega), oth _ (by omega)⟩, oth _ (by omega), ?_, boxAt g2 (oth _ (by omega)), by rw [World.size_setCell]; exact g3⟩
              rw [← hst]
              exact (g1.below (bdrewN (Below.refl _ _) 1)).set s (p || q)
            have HS0 : Hid (C.drew.cell? ⟨g + 1, 0, none⟩ = some (.slice (some ⟨g, 0, none⟩) A A) ∧ C.drew.cell? ⟨W.heap.size, 0, none⟩ = some (.int .i64 (s : Int)) ∧ C.drew.cell? ⟨g, x, none⟩ = some (.bool q)) := ⟨q5, q8, qx⟩
            have HSt : Hid ((C.drew.setCell ⟨g, s, none⟩ (.bool (p || q))).cell? ⟨g + 1, 0, none⟩ = some (.slice (some ⟨g, 0, none⟩) A A) ∧ (C.drew.setCell ⟨g, s, none⟩ (.bool (p || q))).cell? ⟨W.heap.size, 0, none⟩ = some (.int .i64 (s : Int)) ∧ (C.drew.setCell ⟨g, s, none⟩ (.bool (p || q))).cell? ⟨g, x, none⟩ = some (.bool q)) := by
              refine ⟨?_, ?_, ?_⟩
              · rw [World.cell?_setCell_other _ _ _ _ (by intro e; cases e)]; exact q5
              · rw [World.cell?_setCell_far _ _ _ _ (by show g ≠ W.heap.size; omega)]; exact q8
              · rw [World.cell?_setCell_other _ _ _ _ (by intro e; have := congrArg Addr.off e; simp at this; omega)]; exact qx
            have qod : C.drew.cell? ⟨g, s, none⟩ = some (.bool p) := qo
            have fod : C.drew.frozen? ⟨g, s, none⟩ = false := fo
            clear hrec hx hst hD Hp Hq
            gi_wp2
            refine wpIn_region_round (S := fun w' : World => w'.cell? ⟨g + 1, 0, none⟩ = some (.slice (some ⟨g, 0, none⟩) A A) ∧ w'.cell? ⟨W.heap.size, 0, none⟩ = some (.int .i64 (s : Int)) ∧ w'.cell? ⟨g, x, none⟩ = some (.bool q)) (by kernel_rfl) (fun i o h c e => by revert h; revert i; intro i h; have hm := Array.mem_of_getElem? h; simp at hm; rcases hm with rfl | rfl | rfl | rfl | rfl | rfl | rfl | rfl | rfl | rfl | rfl | rfl | rfl | rfl <;> cases e) (by rintro ⟨_, _, h⟩; exact h) HS0.out (fun hSx => ?_)
            refine wpAnyH_take (i := 0) (v := .slice (some ⟨g, 0, none⟩) A A) rfl (by kernel_rfl) (by kernel_rfl) (by kernel_rfl) (by intro _ _ _ h; first | exact h | cases h.1) (Or.inl ⟨by kernel_rfl, fun w' hSw => by (try dsimp only at hSw); obtain ⟨hs0, hs1, hs2⟩ := hSw; go_simp⟩) hSx ?_
            try simp only [Act.put, List.setIfInBounds_toArray]
            refine wpAnyH_take (i := 1) (v := .int .i64 (s : Int)) rfl (by kernel_rfl) (by kernel_rfl) (by kernel_rfl) (by intro _ _ _ h; first | exact h | cases h.1) (Or.inl ⟨by kernel_rfl, fun w' hSw => by (try dsimp only at hSw); obtain ⟨hs0, hs1, hs2⟩ := hSw; go_simp⟩) hSx ?_
            try simp only [Act.put]
            refine wpAnyH_take (i := 2) (v := .slice (some ⟨g, 0, none⟩) A A) rfl (by kernel_rfl) (by kernel_rfl) (by kernel_rfl) (by intro _ _ _ h; first | exact h | cases h.1) (Or.inl ⟨by kernel_rfl, fun w' hSw => by (try dsimp only at hSw); obtain ⟨hs0, hs1, hs2⟩ := hSw; go_simp⟩) hSx ?_
            try simp only [Act.put]
            refine wpAnyH_take (i := 3) (v := .int .i64 (s : Int)) rfl (by kernel_rfl) (by kernel_rfl) (by kernel_rfl) (by intro _ _ _ h; first | exact h | cases h.1) (Or.inl ⟨by kernel_rfl, fun w' hSw => by (try dsimp only at hSw); obtain ⟨hs0, hs1, hs2⟩ := hSw; go_simp⟩) hSx ?_
            try simp only [Act.put]
            refine wpAnyH_take (i := 4) (v := .pointer (some ⟨g, s, none⟩)) rfl (by kernel_rfl) (by kernel_rfl) (by kernel_rfl) (by intro _ _ _ h; first | exact h | cases h.1) (Or.inl ⟨by kernel_rfl, fun w' hSw => by (try dsimp only at hSw); obtain ⟨hs0, hs1, hs2⟩ := hSw; go_simp⟩) hSx ?_
            try simp only [Act.put]
            cases p with
            | true =>
              refine wpAnyH_ready (rs := [5]) (by kernel_rfl) (by simp) ?_
              refine AllReadyH.cons rfl (fun J hJ => ?_) AllReadyH.nil
              go_simp
              refine hJ.out _ _ hSx (fun hSx => ?_)
              clear hJ J
              try simp only [Act.put, List.setIfInBounds_toArray, List.set_cons_zero, List.set_cons_succ]
              refine wpAnyH_take (i := 6) (v := .bool true) rfl (by kernel_rfl) (by kernel_rfl) (by kernel_rfl) (by intro _ _ _ h; first | exact h | cases h.1) (Or.inl ⟨by kernel_rfl, fun w' hSw => by (try dsimp only at hSw); obtain ⟨hs0, hs1, hs2⟩ := hSw; go_simp⟩) hSx ?_
              try simp only [Act.put, List.setIfInBounds_toArray]
              refine wpAnyH_take (i := 7) (v := undef) rfl (by kernel_rfl) (by kernel_rfl) (by kernel_rfl) (by intro _ _ _ h; first | exact h | cases h.1) (Or.inr ⟨by kernel_rfl, rfl⟩) hSx ?_
              try simp only [Act.put]
              refine wpAnyH_take (i := 8) (v := undef) rfl (by kernel_rfl) (by kernel_rfl) (by kernel_rfl) (by intro _ _ _ h; first | exact h | cases h.1) (Or.inr ⟨by kernel_rfl, rfl⟩) hSx ?_
              try simp only [Act.put]
              refine wpAnyH_take (i := 9) (v := undef) rfl (by kernel_rfl) (by kernel_rfl) (by kernel_rfl) (by intro _ _ _ h; first | exact h | cases h.1) (Or.inr ⟨by kernel_rfl, rfl⟩) hSx ?_
              try simp only [Act.put]
              refine wpAnyH_take (i := 10) (v := undef) rfl (by kernel_rfl) (by kernel_rfl) (by kernel_rfl) (by intro _ _ _ h; first | exact h | cases h.1) (Or.inr ⟨by kernel_rfl, rfl⟩) hSx ?_
              try simp only [Act.put]
              refine wpAnyH_take (i := 11) (v := .bool true) rfl (by kernel_rfl) (by kernel_rfl) (by kernel_rfl) (by intro _ _ _ h; first | exact h | cases h.1) (Or.inl ⟨by kernel_rfl, fun w' hSw => by (try dsimp only at hSw); obtain ⟨hs0, hs1, hs2⟩ := hSw; go_simp⟩) hSx ?_
              try simp only [Act.put]
              refine wpAnyH_take (i := 12) (v := .pointer (some ⟨g, s, none⟩)) rfl (by kernel_rfl) (by kernel_rfl) (by kernel_rfl) (by intro _ _ _ h; first | exact h | cases h.1) (Or.inl ⟨by kernel_rfl, fun w' hSw => by (try dsimp only at hSw); obtain ⟨hs0, hs1, hs2⟩ := hSw; go_simp⟩) hSx ?_
              try simp only [Act.put]
              refine wpAnyH_ready (rs := [13]) (by kernel_rfl) (by simp) ?_
              refine AllReadyH.cons rfl (fun J hJ => ?_) AllReadyH.nil
              go_simp
              refine hJ.out _ _ (HSt.out) (fun hSx => ?_)
              clear hJ J
              try simp only [Act.put, List.setIfInBounds_toArray, List.set_cons_zero, List.set_cons_succ]
              refine wpAnyH_done (by kernel_rfl) ?_ _
              exact HF.out _ rfl
            | false =>
              refine wpAnyH_ready (rs := [5]) (by kernel_rfl) (by simp) ?_
              refine AllReadyH.cons rfl (fun J hJ => ?_) AllReadyH.nil
              go_simp
              refine hJ.out _ _ hSx (fun hSx => ?_)
              clear hJ J
              try simp only [Act.put, List.setIfInBounds_toArray, List.set_cons_zero, List.set_cons_succ]
              refine wpAnyH_take (i := 6) (v := .bool false) rfl (by kernel_rfl) (by kernel_rfl) (by kernel_rfl) (by intro _ _ _ h; first | exact h | cases h.1) (Or.inl ⟨by kernel_rfl, fun w' hSw => by (try dsimp only at hSw); obtain ⟨hs0, hs1, hs2⟩ := hSw; go_simp⟩) hSx ?_
              try simp only [Act.put, List.setIfInBounds_toArray]
              refine wpAnyH_take (i := 7) (v := .slice (some ⟨g, 0, none⟩) A A) rfl (by kernel_rfl) (by kernel_rfl) (by kernel_rfl) (by intro _ _ _ h; first | exact h | cases h.1) (Or.inl ⟨by kernel_rfl, fun w' hSw => by (try dsimp only at hSw); obtain ⟨hs0, hs1, hs2⟩ := hSw; go_simp⟩) hSx ?_
              try simp only [Act.put]
              refine wpAnyH_take (i := 8) (v := .int .i64 (x : Int)) rfl (by kernel_rfl) (by kernel_rfl) (by kernel_rfl) (by intro _ _ _ h; first | exact h | cases h.1) (Or.inl ⟨by kernel_rfl, fun w' hSw => by (try dsimp only at hSw); obtain ⟨hs0, hs1, hs2⟩ := hSw; go_simp⟩) hSx ?_
              try simp only [Act.put]
              refine wpAnyH_take (i := 9) (v := .pointer (some ⟨g, x, none⟩)) rfl (by kernel_rfl) (by kernel_rfl) (by kernel_rfl) (by intro _ _ _ h; first | exact h | cases h.1) (Or.inl ⟨by kernel_rfl, fun w' hSw => by (try dsimp only at hSw); obtain ⟨hs0, hs1, hs2⟩ := hSw; go_simp⟩) hSx ?_
              try simp only [Act.put]
              refine wpAnyH_take (i := 10) (v := .bool q) rfl (by kernel_rfl) (by kernel_rfl) (by kernel_rfl) (by intro _ _ _ h; first | exact h | cases h.1) (Or.inl ⟨by kernel_rfl, fun w' hSw => by (try dsimp only at hSw); obtain ⟨hs0, hs1, hs2⟩ := hSw; go_simp⟩) hSx ?_
              try simp only [Act.put]
              refine wpAnyH_take (i := 11) (v := .bool q) rfl (by kernel_rfl) (by kernel_rfl) (by kernel_rfl) (by intro _ _ _ h; first | exact h | cases h.1) (Or.inl ⟨by kernel_rfl, fun w' hSw => by (try dsimp only at hSw); obtain ⟨hs0, hs1, hs2⟩ := hSw; go_simp⟩) hSx ?_
              try simp only [Act.put]
              refine wpAnyH_take (i := 12) (v := .pointer (some ⟨g, s, none⟩)) rfl (by kernel_rfl) (by kernel_rfl) (by kernel_rfl) (by intro _ _ _ h; first | exact h | cases h.1) (Or.inl ⟨by kernel_rfl, fun w' hSw => by (try dsimp only at hSw); obtain ⟨hs0, hs1, hs2⟩ := hSw; go_simp⟩) hSx ?_
              try simp only [Act.put]
              refine wpAnyH_ready (rs := [13]) (by kernel_rfl) (by simp) ?_
              refine AllReadyH.cons rfl (fun J hJ => ?_) AllReadyH.nil
              go_simp
              refine hJ.out _ _ (HSt.out) (fun hSx => ?_)
              clear hJ J
              try simp only [Act.put, List.setIfInBounds_toArray, List.set_cons_zero, List.set_cons_succ]
              refine wpAnyH_done (by kernel_rfl) ?_ _
              exact HF.out _ rfl
          case done =>
            rintro C ⟨g1, g2, g3⟩ hK
            have s2 := HS2.out
            rw [HXi.out] at g1
            have n3 := g1.more (hrs _ (by omega)) (by omega) hK
            clear s2 g1 g2 g3
            go_wp2
            refine ⟨⟨_, _, _, _, _, _, _, _, _, _, _, _, _, _, _, _, _, _, _, _, _, _, _, _, _, _, _, _, _, _, _, _, _, _, _, _, _, _, _, _, _, _, s + 1, w2.heap.size :: rs, rfl, by omega, n3⟩, ?_⟩
            show A - ((s : Int) + 1).toNat < A - ((s : Int)).toNat
            omega
        · have hd : decide (s < A) = false := by simpa using hlt
          have hd2 : decide ((s : Int) < (A : Int)) = false := by simp; omega
          obtain rfl : s = A := by omega
          have q5 := hI.b.cell
          go_wp2
          refine marks_leave2 (m := g + 2) rs W hI.nd hI.mks fun D hb hc => ?_
          refine ⟨_, results_tmp (t := 4) rfl _ _ _, ⟨_, rfl, g, rfl, ?_⟩, ?_⟩
          · exact ((hI.o.low hb (by omega)).congr HZ.out)
          · rw [Hg.out]; exact hI.bw.trans (hb.mono (by omega))
end Go.Proofs.Ytmogmkdcplgfjaa
