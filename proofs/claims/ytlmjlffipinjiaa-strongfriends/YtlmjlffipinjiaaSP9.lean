/- What Friend tells. -/
import Derived.Test.YtlmjlffipinjiaaSP8
namespace Go.Proofs.Ytlmjlffipinjiaa
open Go.RowKit Go.Shelf

attribute [local go_sem] Oper.semAt_some
theorem sR_but (a : Nat) : ∀ n, sR n (fun c => if c = a then 0 else 1) = if a < n then (n : Int) - 1 else n
  | 0 => by simp [sR]
  | n + 1 => by
    rw [sR, sR_but a n]
    by_cases h1 : n = a
    · subst h1; simp
    · by_cases h2 : a < n
      · rw [if_pos h2, if_neg h1, if_pos (by omega)]; omega
      · rw [if_neg h2, if_neg h1, if_neg (by omega)]; omega
theorem Gr.short {n : Nat} {G : Nat → Nat → Int} (hG : Gr n G) {a : Nat} (ha : a < n) (h : dgG n G a + 1 ≠ n) : ∃ b, b < n ∧ b ≠ a ∧ G a b = 0 := by
  apply Classical.byContradiction
  intro k
  apply h
  have e : dgG n G a = sR n (fun c => if c = a then 0 else 1) := sR_congr fun c hc => by
    by_cases q : c = a
    · subst q; rw [if_pos rfl]; exact hG.diag c ha
    · rw [if_neg q]
      rcases hG.bit a c ha hc with e | e
      · exact absurd ⟨c, hc, q, e⟩ k
      · exact e
  rw [e, sR_but, if_pos ha]
  omega
set_option maxRecDepth 100000 in
set_option maxHeartbeats 16000000 in
theorem ffri : FFri := by
  intro s L v W hv hll
  obtain ⟨fs, hu⟩ := und45
  have hbox := heap_alloc_new W (.cells #[.int .i64 s, v] 24)
  have x0 : (W.alloc (.cells #[.int .i64 s, v] 24)).cell? ⟨W.heap.size, 0, none⟩ = some (.int .i64 s) := cell_of_row _ _ 0 _ _ _ hbox
  have x1 : (W.alloc (.cells #[.int .i64 s, v] 24)).cell? ⟨W.heap.size, 1, none⟩ = some v := cell_of_row _ _ 1 _ _ _ hbox
  have b0 := balloc W (.cells #[.int .i64 s, v] 24)
  have CO := open_any s L v _ (hv.below b0) hll
  have HX0 : Hid ((W.alloc (.cells #[.int .i64 s, v] 24)).cell? ⟨W.heap.size, 0, none⟩ = some (.int .i64 s)) := x0
  have HLS : Hid (W.heap.size < (W.alloc (.cells #[.int .i64 s, v] 24)).heap.size) := (by simp : W.heap.size < (W.alloc (.cells #[.int .i64 s, v] 24)).heap.size)
  have HB1 : Hid (Below W.heap.size W (W.alloc (.cells #[.int .i64 s, v] 24))) := b0
  clear b0 hbox
  by_cases h0 : gF s L = 0
  · obtain ⟨n, rfl, G⟩ := gF_ok h0
    have hn1 := G.pos
    have hn2 := G.le
    have he : ((gF n L : Int) != 0) = false := by simp [h0]
    have HC18 : Hid (∀ e w2, OpenR n L (W.alloc (.cells #[.int .i64 (n : Int), v] 24)) e w2 → ∃ f, e = .returned (.tuple #[.agg (gRow n f), .int .i64 0]) ∧ Hid ((∀ a, a < n → f a = rbG n (gx n L) a) ∧ ∀ a, a < 24 → f a < 2 ^ 32) ∧ Below (W.alloc (.cells #[.int .i64 (n : Int), v] 24)).heap.size (W.alloc (.cells #[.int .i64 (n : Int), v] 24)) w2) := by
      rintro e w2 ⟨⟨m, f, rfl, hO⟩, hb2⟩
      obtain ⟨n', e1, _, rfl, h1, h2⟩ := op_good h0 hO
      obtain rfl : n = n' := by omega
      exact ⟨f, by rw [h0]; rfl, ⟨h1, h2⟩, hb2⟩
    have HC23 : Hid (∀ f w, (∀ a, a < n → f a = rbG n (gx n L) a) ∧ (∀ a, a < 24 → f a < 2 ^ 32) → Calls Try.prog 23 #[.agg (gRow n f)] w fun e w' => (∃ (q : Bool), e = .returned (.bool q) ∧ (q = true ↔ Fri n (gx n L))) ∧ Below w.heap.size w w') := fun f w hf => (friendly_any n f w G.le hf.2).mono fun e w' ⟨⟨q, h1, h2⟩, hb⟩ => by
      refine ⟨⟨q, h1, h2.trans ?_⟩, hb⟩
      have cm : ∀ a b, a < n → b < n → cmG n (gx n L) a b = (pc (f a &&& f b) : Nat) := fun a b ha hb => by rw [hf.1 a ha, hf.1 b hb]; exact rb_cm G.gr (by omega) ha hb
      constructor
      · intro h
        refine fri_all (by omega) fun i y _ hy => ?_
        obtain ⟨p1, p2⟩ := prL_at' (by omega) hy
        rw [cm _ _ (by omega) p2, h i y hy]
        rfl
      · intro h i y hy
        obtain ⟨p1, p2⟩ := prL_at' (by omega) hy
        have := h (y / 32) (y % 32) (by omega) p2 (by omega)
        rw [cm _ _ (by omega) p2] at this
        omega
    have HC24 : Hid (∀ f w a, (∀ a, a < n → f a = rbG n (gx n L) a) ∧ (∀ a, a < 24 → f a < 2 ^ 32) → a < n → Calls Try.prog 24 #[.agg (gRow n f), .int .i64 (a : Int)] w fun e w' => e = .returned (.int .i64 (dgG n (gx n L) a)) ∧ Below w.heap.size w w') := fun f w a hf ha => by
      have := degree_any n f a w (by omega) (hf.2 a (by omega))
      rwa [hf.1 a ha, ← rb_deg G.gr (by omega) ha] at this
    have HG : Hid (GoodG n L) := G
    have HR : Hid (∀ x u w', FrT n (gx n L) x u → Below W.heap.size W w' → (∃ (x' u' : Nat), Ending.returned (.tuple #[.int .i64 (x : Int), .int .i64 (u : Int)]) = .returned (.tuple #[.int .i64 (x' : Int), .int .i64 (u' : Int)]) ∧ FrR n L x' u') ∧ Below W.heap.size W w') := fun x u w' h hb => ⟨⟨x, u, rfl, .inr ⟨n, rfl, G, h⟩⟩, hb⟩
    have KB : Hid (∀ (w2 : World) (f : Nat → Nat), Below (W.alloc (.cells #[.int .i64 (n : Int), v] 24)).heap.size (W.alloc (.cells #[.int .i64 (n : Int), v] 24)) w2 → Below (W.alloc (.cells #[.int .i64 (n : Int), v] 24)).heap.size (W.alloc (.cells #[.int .i64 (n : Int), v] 24)) ((w2.alloc (.cells #[.int .i64 0, .int .u32 0, .int .u32 0, .int .u32 0, .int .u32 0, .int .u32 0, .int .u32 0, .int .u32 0, .int .u32 0, .int .u32 0, .int .u32 0, .int .u32 0, .int .u32 0, .int .u32 0, .int .u32 0, .int .u32 0, .int .u32 0, .int .u32 0, .int .u32 0, .int .u32 0, .int .u32 0, .int .u32 0, .int .u32 0, .int .u32 0, .int .u32 0] 45)).setRow w2.heap.size (gRow n f))) := fun w2 f hb => Below.next hb (bsetR (balloc w2 _) (Nat.le_refl _) _)
    have CO2 := CO.mono (HC18.out)
    clear CO G h0
    generalize gF n L = gg at *
    by_cases hfr : Fri n (gx n L)
    · have CQ : Hid (∀ f w, (∀ a, a < n → f a = rbG n (gx n L) a) ∧ (∀ a, a < 24 → f a < 2 ^ 32) → Calls Try.prog 23 #[.agg (gRow n f)] w fun e w' => e = .returned (.bool true) ∧ Below w.heap.size w w') := fun f w hf => (HC23.out f w hf).mono fun e w' ⟨⟨q, h1, h2⟩, hb⟩ => ⟨by rw [h1, h2.2 hfr], hb⟩
      have HFR : Hid (Fri n (gx n L)) := hfr
      clear hfr
      go_enter Try.func11, Try.ntmps11
      go_wp2_with (first
        | (refine wpList_store_row rfl 45 _ _ rfl w2.heap.size (gRow n f) rfl rfl 45 _ hz (inf45 _ _) (by rw [gRow_size]; rfl) (gRow_one _ _) ?_)
        | (refine wpList_load_row rfl 45 _ rfl w2.heap.size rfl 45 _ (0, 0) _ hg3 hu rfl (inf45 _ _) ?_)
        | (go_at_call 18; refine CO2.mono ?_; rintro e w2 ⟨f, rfl, Hf, hb2⟩; clear CO2; have hz := GrW.zero w2; have hg3 : GrW ((w2.alloc (.cells #[.int .i64 0, .int .u32 0, .int .u32 0, .int .u32 0, .int .u32 0, .int .u32 0, .int .u32 0, .int .u32 0, .int .u32 0, .int .u32 0, .int .u32 0, .int .u32 0, .int .u32 0, .int .u32 0, .int .u32 0, .int .u32 0, .int .u32 0, .int .u32 0, .int .u32 0, .int .u32 0, .int .u32 0, .int .u32 0, .int .u32 0, .int .u32 0, .int .u32 0] 45)).setRow w2.heap.size (gRow n f)) w2.heap.size n f := hz.whole n f; have CN := CQ.out f ((w2.alloc (.cells #[.int .i64 0, .int .u32 0, .int .u32 0, .int .u32 0, .int .u32 0, .int .u32 0, .int .u32 0, .int .u32 0, .int .u32 0, .int .u32 0, .int .u32 0, .int .u32 0, .int .u32 0, .int .u32 0, .int .u32 0, .int .u32 0, .int .u32 0, .int .u32 0, .int .u32 0, .int .u32 0, .int .u32 0, .int .u32 0, .int .u32 0, .int .u32 0, .int .u32 0] 45)).setRow w2.heap.size (gRow n f)) Hf.out; have hb3 := KB.out w2 f hb2)
        | (go_at_call 23; refine CN.mono ?_; rintro e w4 ⟨rfl, hb4⟩; clear CN; have hg4 := hg3.below hb4 hg3.lt; have hbw4 := Below.next hb3 hb4; have x04 := (hbw4.cell (p := ⟨W.heap.size, 0, none⟩) HLS.out).trans HX0.out))
      go_loopw [20] (fun av wr => ∃ (a : Nat), av = .int .i64 (a : Int) ∧ a ≤ n ∧ Hid (∀ y, y < a → ∃ b, b < n ∧ b ≠ y ∧ gx n L y b = 0) ∧ GrW wr w2.heap.size n f ∧ Below (W.alloc (.cells #[.int .i64 (n : Int), v] 24)).heap.size (W.alloc (.cells #[.int .i64 (n : Int), v] 24)) wr) (fun av _ => (n - intOf av).toNat)
      case atStart => exact ⟨0, rfl, by omega, (fun y h => absurd h (by omega) : ∀ y, y < 0 → _), hg4, hbw4⟩
      case round =>
        clear hg4 hbw4 x04
        obtain ⟨a, rfl, ha, HA, hgr, hB⟩ := hrel
        by_cases hlt : a < n
        · have hda : decide ((a : Int) < (n : Int)) = true := by simp; omega
          have hgd : GrW wr.drew w2.heap.size n f := hgr
          have x0d : wr.drew.cell? ⟨W.heap.size, 0, none⟩ = some (.int .i64 (n : Int)) := (hB.cell (p := ⟨W.heap.size, 0, none⟩) HLS.out).trans HX0.out
          have CD := HC24.out f wr.drew a Hf.out hlt
          have hdl := HG.out.gr.dg_less hlt
          have hsub : IntKind.i64.wrap ((n : Int) - 1) = (n : Int) - 1 := by rw [IntKind.wrap_i64]; omega
          have HSD : Hid (∀ w5 : World, Below wr.drew.heap.size wr.drew w5 → w5.cell? ⟨W.heap.size, 0, none⟩ = some (.int .i64 (n : Int))) := fun w5 hb5 => (hb5.cell (p := ⟨W.heap.size, 0, none⟩) (Nat.lt_of_lt_of_le HLS.out hB.size)).trans ((hB.cell (p := ⟨W.heap.size, 0, none⟩) HLS.out).trans HX0.out)
          have HBB : Hid (∀ w5 : World, Below wr.drew.heap.size wr.drew w5 → Below (W.alloc (.cells #[.int .i64 (n : Int), v] 24)).heap.size (W.alloc (.cells #[.int .i64 (n : Int), v] 24)) w5) := fun w5 hb5 => Below.next (hB.drew : Below _ _ wr.drew) hb5
          have HB2 : Hid (∀ w5 : World, Below wr.drew.heap.size wr.drew w5 → GrW w5 w2.heap.size n f ∧ Below (W.alloc (.cells #[.int .i64 (n : Int), v] 24)).heap.size (W.alloc (.cells #[.int .i64 (n : Int), v] 24)) w5) := fun w5 hb5 => ⟨hgd.below hb5 hgd.lt, HBB.out w5 hb5⟩
          obtain ⟨d, Hd⟩ : ∃ d, Hid (dgG n (gx n L) a = d) := ⟨_, rfl⟩
          rw [Hd.out] at CD hdl
          by_cases hfull : d + 1 = n
          · have hd : (d == (n : Int) - 1) = true := by simp; omega
            have HFT : Hid (FrT n (gx n L) a 0) := .inl ⟨HFR.out, rfl, hlt, fun b hb hne => HG.out.gr.full hlt (by rw [Hd.out]; exact hfull) hb hne, HA.out⟩
            have HYES : Hid (∀ w5 : World, Below wr.drew.heap.size wr.drew w5 → (∃ (x' u' : Nat), Ending.returned (.tuple #[.int .i64 (a : Int), .int .i64 0]) = .returned (.tuple #[.int .i64 (x' : Int), .int .i64 (u' : Int)]) ∧ FrR n L x' u') ∧ Below W.heap.size W w5) := fun w5 hb5 => HR.out a 0 w5 HFT.out (Below.next HB1.out (HBB.out w5 hb5))
            clear hgr hB hfull
            go_wp2
            refine (wpIn_wide (n := 9)).1 (wpIn_region_any (by kernel_rfl) ?_)
            try (change wpAnyIn _ _ _ _ _ _ _ _ _ (World.drew _))
            refine wpAnyIn_take (i := 1) (v := .int .i64 (a : Int)) rfl rfl (by kernel_rfl) (by kernel_rfl) (by kernel_rfl) (by intro _ _ _ h; first | exact h | cases h.1) ⟨Or.inl ⟨by rfl, fun w => by go_simp⟩, fun _ => rfl⟩ ?_
            refine wpAnyIn_take (i := 3) (v := .pointer (some ⟨W.heap.size, 0, none⟩)) rfl rfl (by kernel_rfl) (by kernel_rfl) (by kernel_rfl) (by intro _ _ _ h; first | exact h | cases h.1) ⟨Or.inl ⟨by rfl, fun w => by go_simp⟩, fun _ => rfl⟩ ?_
            refine wpAnyIn_ready (rs := [0, 4]) (by kernel_rfl) (by simp) (AllReadyIn.cons rfl (fun K hK => ?_) (AllReadyIn.cons rfl (fun K hK => ?_) AllReadyIn.nil))
            · refine stepIn_loadRow rfl 45 _ rfl w2.heap.size rfl 45 _ (0, 0) _ hgd hu rfl (inf45 _ _) (hK _ _ ?_)
              clear hK K
              refine wpAnyIn_ready (rs := [2, 4]) (by kernel_rfl) (by simp) (AllReadyIn.cons rfl (fun K hK => ?_) (AllReadyIn.cons rfl (fun K hK => ?_) AllReadyIn.nil))
              · go_simp
                refine ⟨trivial, (callsIn_wide.2 CD).mono ?_⟩
                rintro e w5 ⟨rfl, hb5⟩
                refine hK _ _ ?_
                clear hK K
                have x0e := HSD.out w5 hb5
                refine wpAnyIn_ready (rs := [4]) (by kernel_rfl) (by simp) (AllReadyIn.cons rfl (fun K hK => ?_) AllReadyIn.nil)
                go_simp
                refine hK _ _ ?_
                clear hK K
                refine wpAnyIn_take (i := 5) (v := .int .i64 ((n : Int) - 1)) rfl rfl (by kernel_rfl) (by kernel_rfl) (by kernel_rfl) (by intro _ _ _ h; first | exact h | cases h.1) ⟨Or.inl ⟨by rfl, fun w => by go_simp⟩, fun _ => rfl⟩ ?_
                refine wpAnyIn_take (i := 6) (v := .bool true) rfl rfl (by kernel_rfl) (by kernel_rfl) (by kernel_rfl) (by intro _ _ _ h; first | exact h | cases h.1) ⟨Or.inl ⟨by rfl, fun w => by go_simp⟩, fun _ => rfl⟩ ?_
                refine wpAnyIn_done (by kernel_rfl) ?_ _
                go_wp2
                go_ret2
                exact HYES.out w5 hb5
              · go_simp
                refine hK _ _ ?_
                clear hK K
                refine wpAnyIn_take (i := 5) (v := .int .i64 ((n : Int) - 1)) rfl rfl (by kernel_rfl) (by kernel_rfl) (by kernel_rfl) (by intro _ _ _ h; first | exact h | cases h.1) ⟨Or.inl ⟨by rfl, fun w => by go_simp⟩, fun _ => rfl⟩ ?_
                refine wpAnyIn_ready (rs := [2]) (by kernel_rfl) (by simp) (AllReadyIn.cons rfl (fun K hK => ?_) AllReadyIn.nil)
                go_simp
                refine ⟨trivial, (callsIn_wide.2 CD).mono ?_⟩
                rintro e w5 ⟨rfl, hb5⟩
                refine hK _ _ ?_
                clear hK K
                have x0e := HSD.out w5 hb5
                refine wpAnyIn_take (i := 6) (v := .bool true) rfl rfl (by kernel_rfl) (by kernel_rfl) (by kernel_rfl) (by intro _ _ _ h; first | exact h | cases h.1) ⟨Or.inl ⟨by rfl, fun w => by go_simp⟩, fun _ => rfl⟩ ?_
                refine wpAnyIn_done (by kernel_rfl) ?_ _
                go_wp2
                go_ret2
                exact HYES.out w5 hb5
            · go_simp
              refine hK _ _ ?_
              clear hK K
              refine wpAnyIn_take (i := 5) (v := .int .i64 ((n : Int) - 1)) rfl rfl (by kernel_rfl) (by kernel_rfl) (by kernel_rfl) (by intro _ _ _ h; first | exact h | cases h.1) ⟨Or.inl ⟨by rfl, fun w => by go_simp⟩, fun _ => rfl⟩ ?_
              refine wpAnyIn_ready (rs := [0]) (by kernel_rfl) (by simp) (AllReadyIn.cons rfl (fun K hK => ?_) AllReadyIn.nil)
              refine stepIn_loadRow rfl 45 _ rfl w2.heap.size rfl 45 _ (0, 0) _ hgd hu rfl (inf45 _ _) (hK _ _ ?_)
              clear hK K
              refine wpAnyIn_ready (rs := [2]) (by kernel_rfl) (by simp) (AllReadyIn.cons rfl (fun K hK => ?_) AllReadyIn.nil)
              go_simp
              refine ⟨trivial, (callsIn_wide.2 CD).mono ?_⟩
              rintro e w5 ⟨rfl, hb5⟩
              refine hK _ _ ?_
              clear hK K
              have x0e := HSD.out w5 hb5
              refine wpAnyIn_take (i := 6) (v := .bool true) rfl rfl (by kernel_rfl) (by kernel_rfl) (by kernel_rfl) (by intro _ _ _ h; first | exact h | cases h.1) ⟨Or.inl ⟨by rfl, fun w => by go_simp⟩, fun _ => rfl⟩ ?_
              refine wpAnyIn_done (by kernel_rfl) ?_ _
              go_wp2
              go_ret2
              exact HYES.out w5 hb5
          · have hd : (d == (n : Int) - 1) = false := by simp; omega
            have HA2 : Hid (∀ y, y < a + 1 → ∃ b, b < n ∧ b ≠ y ∧ gx n L y b = 0) := fun y hy => by
              by_cases e : y = a
              · subst e; exact HG.out.gr.short hlt (by rw [Hd.out]; exact hfull)
              · exact HA.out y (by omega)
            clear hgr hB hfull
            go_wp2
            refine (wpIn_wide (n := 9)).1 (wpIn_region_any (by kernel_rfl) ?_)
            try (change wpAnyIn _ _ _ _ _ _ _ _ _ (World.drew _))
            refine wpAnyIn_take (i := 1) (v := .int .i64 (a : Int)) rfl rfl (by kernel_rfl) (by kernel_rfl) (by kernel_rfl) (by intro _ _ _ h; first | exact h | cases h.1) ⟨Or.inl ⟨by rfl, fun w => by go_simp⟩, fun _ => rfl⟩ ?_
            refine wpAnyIn_take (i := 3) (v := .pointer (some ⟨W.heap.size, 0, none⟩)) rfl rfl (by kernel_rfl) (by kernel_rfl) (by kernel_rfl) (by intro _ _ _ h; first | exact h | cases h.1) ⟨Or.inl ⟨by rfl, fun w => by go_simp⟩, fun _ => rfl⟩ ?_
            refine wpAnyIn_ready (rs := [0, 4]) (by kernel_rfl) (by simp) (AllReadyIn.cons rfl (fun K hK => ?_) (AllReadyIn.cons rfl (fun K hK => ?_) AllReadyIn.nil))
            · refine stepIn_loadRow rfl 45 _ rfl w2.heap.size rfl 45 _ (0, 0) _ hgd hu rfl (inf45 _ _) (hK _ _ ?_)
              clear hK K
              refine wpAnyIn_ready (rs := [2, 4]) (by kernel_rfl) (by simp) (AllReadyIn.cons rfl (fun K hK => ?_) (AllReadyIn.cons rfl (fun K hK => ?_) AllReadyIn.nil))
              · go_simp
                refine ⟨trivial, (callsIn_wide.2 CD).mono ?_⟩
                rintro e w5 ⟨rfl, hb5⟩
                refine hK _ _ ?_
                clear hK K
                have x0e := HSD.out w5 hb5
                refine wpAnyIn_ready (rs := [4]) (by kernel_rfl) (by simp) (AllReadyIn.cons rfl (fun K hK => ?_) AllReadyIn.nil)
                go_simp
                refine hK _ _ ?_
                clear hK K
                refine wpAnyIn_take (i := 5) (v := .int .i64 ((n : Int) - 1)) rfl rfl (by kernel_rfl) (by kernel_rfl) (by kernel_rfl) (by intro _ _ _ h; first | exact h | cases h.1) ⟨Or.inl ⟨by rfl, fun w => by go_simp⟩, fun _ => rfl⟩ ?_
                refine wpAnyIn_take (i := 6) (v := .bool false) rfl rfl (by kernel_rfl) (by kernel_rfl) (by kernel_rfl) (by intro _ _ _ h; first | exact h | cases h.1) ⟨Or.inl ⟨by rfl, fun w => by go_simp⟩, fun _ => rfl⟩ ?_
                refine wpAnyIn_done (by kernel_rfl) ?_ _
                go_wp2
                go_roundw
                case rel => exact ⟨a + 1, by go_num, by omega, HA2, HB2.out w5 hb5⟩
                case measure => simp [intOf]; omega
              · go_simp
                refine hK _ _ ?_
                clear hK K
                refine wpAnyIn_take (i := 5) (v := .int .i64 ((n : Int) - 1)) rfl rfl (by kernel_rfl) (by kernel_rfl) (by kernel_rfl) (by intro _ _ _ h; first | exact h | cases h.1) ⟨Or.inl ⟨by rfl, fun w => by go_simp⟩, fun _ => rfl⟩ ?_
                refine wpAnyIn_ready (rs := [2]) (by kernel_rfl) (by simp) (AllReadyIn.cons rfl (fun K hK => ?_) AllReadyIn.nil)
                go_simp
                refine ⟨trivial, (callsIn_wide.2 CD).mono ?_⟩
                rintro e w5 ⟨rfl, hb5⟩
                refine hK _ _ ?_
                clear hK K
                have x0e := HSD.out w5 hb5
                refine wpAnyIn_take (i := 6) (v := .bool false) rfl rfl (by kernel_rfl) (by kernel_rfl) (by kernel_rfl) (by intro _ _ _ h; first | exact h | cases h.1) ⟨Or.inl ⟨by rfl, fun w => by go_simp⟩, fun _ => rfl⟩ ?_
                refine wpAnyIn_done (by kernel_rfl) ?_ _
                go_wp2
                go_roundw
                case rel => exact ⟨a + 1, by go_num, by omega, HA2, HB2.out w5 hb5⟩
                case measure => simp [intOf]; omega
            · go_simp
              refine hK _ _ ?_
              clear hK K
              refine wpAnyIn_take (i := 5) (v := .int .i64 ((n : Int) - 1)) rfl rfl (by kernel_rfl) (by kernel_rfl) (by kernel_rfl) (by intro _ _ _ h; first | exact h | cases h.1) ⟨Or.inl ⟨by rfl, fun w => by go_simp⟩, fun _ => rfl⟩ ?_
              refine wpAnyIn_ready (rs := [0]) (by kernel_rfl) (by simp) (AllReadyIn.cons rfl (fun K hK => ?_) AllReadyIn.nil)
              refine stepIn_loadRow rfl 45 _ rfl w2.heap.size rfl 45 _ (0, 0) _ hgd hu rfl (inf45 _ _) (hK _ _ ?_)
              clear hK K
              refine wpAnyIn_ready (rs := [2]) (by kernel_rfl) (by simp) (AllReadyIn.cons rfl (fun K hK => ?_) AllReadyIn.nil)
              go_simp
              refine ⟨trivial, (callsIn_wide.2 CD).mono ?_⟩
              rintro e w5 ⟨rfl, hb5⟩
              refine hK _ _ ?_
              clear hK K
              have x0e := HSD.out w5 hb5
              refine wpAnyIn_take (i := 6) (v := .bool false) rfl rfl (by kernel_rfl) (by kernel_rfl) (by kernel_rfl) (by intro _ _ _ h; first | exact h | cases h.1) ⟨Or.inl ⟨by rfl, fun w => by go_simp⟩, fun _ => rfl⟩ ?_
              refine wpAnyIn_done (by kernel_rfl) ?_ _
              go_wp2
              go_roundw
              case rel => exact ⟨a + 1, by go_num, by omega, HA2, HB2.out w5 hb5⟩
              case measure => simp [intOf]; omega
        · exfalso
          obtain rfl : a = n := by omega
          obtain ⟨x, hx, hxb⟩ := HFR.out.friend HG.out.gr HG.out.pos
          obtain ⟨b, hb, hne, h0⟩ := HA.out x hx
          have := hxb b hb hne
          omega
    · have CQ : Hid (∀ f w, (∀ a, a < n → f a = rbG n (gx n L) a) ∧ (∀ a, a < 24 → f a < 2 ^ 32) → Calls Try.prog 23 #[.agg (gRow n f)] w fun e w' => e = .returned (.bool false) ∧ Below w.heap.size w w') := fun f w hf => (HC23.out f w hf).mono fun e w' ⟨⟨q, h1, h2⟩, hb⟩ => ⟨by cases q; exact h1; exact absurd (h2.1 rfl) hfr, hb⟩
      have HFT : Hid (FrT n (gx n L) 0 4) := .inr ⟨hfr, rfl, rfl⟩
      clear hfr
      go_enter Try.func11, Try.ntmps11
      go_wp2_with (first
        | (refine wpList_store_row rfl 45 _ _ rfl w2.heap.size (gRow n f) rfl rfl 45 _ hz (inf45 _ _) (by rw [gRow_size]; rfl) (gRow_one _ _) ?_)
        | (refine wpList_load_row rfl 45 _ rfl w2.heap.size rfl 45 _ (0, 0) _ hg3 hu rfl (inf45 _ _) ?_)
        | (go_at_call 18; refine CO2.mono ?_; rintro e w2 ⟨f, rfl, Hf, hb2⟩; clear CO2; have hz := GrW.zero w2; have hg3 : GrW ((w2.alloc (.cells #[.int .i64 0, .int .u32 0, .int .u32 0, .int .u32 0, .int .u32 0, .int .u32 0, .int .u32 0, .int .u32 0, .int .u32 0, .int .u32 0, .int .u32 0, .int .u32 0, .int .u32 0, .int .u32 0, .int .u32 0, .int .u32 0, .int .u32 0, .int .u32 0, .int .u32 0, .int .u32 0, .int .u32 0, .int .u32 0, .int .u32 0, .int .u32 0, .int .u32 0] 45)).setRow w2.heap.size (gRow n f)) w2.heap.size n f := hz.whole n f; have CN := CQ.out f ((w2.alloc (.cells #[.int .i64 0, .int .u32 0, .int .u32 0, .int .u32 0, .int .u32 0, .int .u32 0, .int .u32 0, .int .u32 0, .int .u32 0, .int .u32 0, .int .u32 0, .int .u32 0, .int .u32 0, .int .u32 0, .int .u32 0, .int .u32 0, .int .u32 0, .int .u32 0, .int .u32 0, .int .u32 0, .int .u32 0, .int .u32 0, .int .u32 0, .int .u32 0, .int .u32 0] 45)).setRow w2.heap.size (gRow n f)) Hf.out; have hb3 := KB.out w2 f hb2)
        | (go_at_call 23; refine CN.mono ?_; rintro e w4 ⟨rfl, hb4⟩; clear CN; have hg4 := hg3.below hb4 hg3.lt; have hbw4 := Below.next hb3 hb4; have x04 := (hbw4.cell (p := ⟨W.heap.size, 0, none⟩) HLS.out).trans HX0.out))
      go_ret2
      exact HR.out 0 4 _ HFT.out (Below.next HB1.out (Below.next hb3 hb4))
  · have he : ((gF s L : Int) != 0) = true := by simp; omega
    have HFIN : Hid (FrR s L 0 (gF s L)) := .inl ⟨h0, rfl, rfl⟩
    have b0 := HB1.out
    clear h0
    go_enter Try.func11, Try.ntmps11
    go_wp2_with (first
      | (refine wpList_store_row rfl 45 _ _ rfl w2.heap.size (gRow m f) rfl rfl 45 _ hz (inf45 _ _) (by rw [gRow_size]; rfl) (gRow_one _ _) ?_)
      | (go_at_call 18; refine CO.mono ?_; rintro e w2 ⟨⟨m, f, rfl, hO⟩, hb2⟩; clear CO; have hz := GrW.zero w2; have b3 := Below.next b0 hb2))
    go_ret2
    exact ⟨⟨0, gF s L, rfl, HFIN.out⟩, bsetR (b3.alloc b3.size _) b3.size _⟩
end Go.Proofs.Ytlmjlffipinjiaa
