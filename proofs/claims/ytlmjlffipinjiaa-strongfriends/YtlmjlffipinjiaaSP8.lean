/- What Check, Numbers and Friend tell. -/
import Derived.Test.YtlmjlffipinjiaaSP7
namespace Go.Proofs.Ytlmjlffipinjiaa
open Go.RowKit Go.Shelf

theorem op_good {s m : Int} {L : List Int} {f : Nat → Nat} (h : gF s L = 0) (hO : OpT s L m f) : ∃ n : Nat, s = n ∧ GoodG n L ∧ m = n ∧ (∀ a, a < n → f a = rbG n (gx n L) a) ∧ ∀ a, a < 24 → f a < 2 ^ 32 := by
  obtain ⟨n, rfl, G⟩ := gF_ok h
  obtain ⟨rfl, hf⟩ := hO h
  rw [Int.toNat_natCast] at hf
  have := G.le
  exact ⟨n, rfl, G, rfl, fun a ha => by rw [hf a, bt2_all ha], fun a _ => by rw [hf a]; exact Nat.lt_of_lt_of_le (bt2_lt n L _ a) (Nat.pow_le_pow_right (by decide) (by omega))⟩
set_option maxRecDepth 100000 in
set_option maxHeartbeats 4000000 in
theorem fchk : FChk := by
  intro s L v W hv hll
  obtain ⟨fs, hu⟩ := und45
  have hbox := heap_alloc_new W (.cells #[.int .i64 s, v] 24)
  have x0 : (W.alloc (.cells #[.int .i64 s, v] 24)).cell? ⟨W.heap.size, 0, none⟩ = some (.int .i64 s) := cell_of_row _ _ 0 _ _ _ hbox
  have x1 : (W.alloc (.cells #[.int .i64 s, v] 24)).cell? ⟨W.heap.size, 1, none⟩ = some v := cell_of_row _ _ 1 _ _ _ hbox
  have b0 := balloc W (.cells #[.int .i64 s, v] 24)
  have CO := open_any s L v _ (hv.below b0) hll
  go_enter Try.func8, Try.ntmps8
  go_wp2_with (first
    | (refine wpList_store_row rfl 45 _ _ rfl w2.heap.size (gRow m f) rfl rfl 45 _ hz (inf45 _ _) (by rw [gRow_size]; rfl) (gRow_one _ _) ?_)
    | (go_at_call 18; refine CO.mono ?_; rintro e w2 ⟨⟨m, f, rfl, hO⟩, hb2⟩; clear CO; have hz := GrW.zero w2; have b3 := Below.next b0 hb2))
  go_ret
  exact ⟨rfl, bsetR (b3.alloc b3.size _) b3.size _⟩
theorem post_st {fn : Func} {R : Ending → World → Prop} {a : Act} {w : World} {g : Nat} {P D L M z : Int} (s u : Tmp) (hres : fn.results = #[.cell s 28, .tmp u])
    (hp : a.tmps.getD s undef = .pointer (some ⟨g, 0, none⟩)) (hz : a.tmps.getD u undef = .int .i64 z) (hr : w.heap[g]? = some (.cells #[.int .i64 P, .int .i64 D, .int .i64 L, .int .i64 M] 28 (0, 0))) (hd : a.defers = []) (hR : R (.returned (.tuple #[.agg #[.int .i64 P, .int .i64 D, .int .i64 L, .int .i64 M], .int .i64 z])) w) : bodyPost Try.prog fn R .ret a w := by
  refine bodyPost_ret ?_ hd hR
  have hp' : a.tmps[s]?.getD undef = .pointer (some ⟨g, 0, none⟩) := by simpa using hp
  have hz' : a.tmps[u]?.getD undef = .int .i64 z := by simpa using hz
  simp [results, hres, hp', hz', asAddr, run_loadVar_row w g 28 28 _ (0, 0) _ hr Try.underlying28 rfl (infSt _ _ _ _)]
set_option maxRecDepth 100000 in
set_option maxHeartbeats 8000000 in
theorem fnum : FNum := by
  intro s L v W hv hll
  obtain ⟨fs, hu⟩ := und45
  have hbox := heap_alloc_new W (.cells #[.int .i64 s, v] 24)
  have x0 : (W.alloc (.cells #[.int .i64 s, v] 24)).cell? ⟨W.heap.size, 0, none⟩ = some (.int .i64 s) := cell_of_row _ _ 0 _ _ _ hbox
  have x1 : (W.alloc (.cells #[.int .i64 s, v] 24)).cell? ⟨W.heap.size, 1, none⟩ = some v := cell_of_row _ _ 1 _ _ _ hbox
  have b0 := balloc W (.cells #[.int .i64 s, v] 24)
  have hr1 : ((W.alloc (.cells #[.int .i64 s, v] 24)).alloc (.cells #[.int .i64 0, .int .i64 0, .int .i64 0, .int .i64 0] 28)).heap[W.heap.size + 1]? = some (.cells #[.int .i64 0, .int .i64 0, .int .i64 0, .int .i64 0] 28 (0, 0)) := by
    have := heap_alloc_new (W.alloc (.cells #[.int .i64 s, v] 24)) (.cells #[.int .i64 0, .int .i64 0, .int .i64 0, .int .i64 0] 28)
    rwa [World.size_alloc] at this
  have b1 := balloc (W.alloc (.cells #[.int .i64 s, v] 24)) (.cells #[.int .i64 0, .int .i64 0, .int .i64 0, .int .i64 0] 28)
  have y0 := (b1.cell (p := ⟨W.heap.size, 0, none⟩) (by simp)).trans x0
  have y1 := (b1.cell (p := ⟨W.heap.size, 1, none⟩) (by simp)).trans x1
  have b01 := Below.next b0 b1
  have CO := open_any s L v _ (hv.below b01) hll
  have hls : W.heap.size + 1 < ((W.alloc (.cells #[.int .i64 s, v] 24)).alloc (.cells #[.int .i64 0, .int .i64 0, .int .i64 0, .int .i64 0] 28)).heap.size := by simp
  generalize hW1 : (W.alloc (.cells #[.int .i64 s, v] 24)).alloc (.cells #[.int .i64 0, .int .i64 0, .int .i64 0, .int .i64 0] 28) = W1 at *
  have HLS : Hid (W.heap.size + 1 < W1.heap.size) := hls
  have HB1 : Hid (Below W.heap.size W W1) := b01
  have HR1 : Hid (W1.heap[W.heap.size + 1]? = some (.cells #[.int .i64 0, .int .i64 0, .int .i64 0, .int .i64 0] 28 (0, 0))) := hr1
  clear b0 b1 x0 x1 hbox hls b01 hr1
  by_cases h0 : gF s L = 0
  · obtain ⟨n, rfl, G⟩ := gF_ok h0
    have he : ((gF n L : Int) != 0) = false := by simp [h0]
    have HC18 : Hid (∀ e w2, OpenR n L W1 e w2 → ∃ f, e = .returned (.tuple #[.agg (gRow n f), .int .i64 0]) ∧ Hid ((∀ a, a < n → f a = rbG n (gx n L) a) ∧ ∀ a, a < 24 → f a < 2 ^ 32) ∧ Below W1.heap.size W1 w2) := by
      rintro e w2 ⟨⟨m, f, rfl, hO⟩, hb2⟩
      obtain ⟨n', e1, _, rfl, h1, h2⟩ := op_good h0 hO
      obtain rfl : n = n' := by omega
      exact ⟨f, by rw [h0]; rfl, ⟨h1, h2⟩, hb2⟩
    have HC19 : Hid (∀ f w, (∀ a, a < n → f a = rbG n (gx n L) a) ∧ (∀ a, a < 24 → f a < 2 ^ 32) → Calls Try.prog 19 #[.agg (gRow n f)] w fun e w' => (∃ (P D N F : Int) (q : Bool), e = .returned (.tuple #[.agg #[.int .i64 P, .int .i64 D, .int .i64 N, .int .i64 F], .bool q]) ∧ NuT n (gx n L) P D N F q) ∧ Below w.heap.size w w') := fun f w hf => numbers_any n (gx n L) f w G.pos G.le G.gr hf.1 hf.2
    have HFIN : Hid (∀ (P D N F : Int) (q : Bool), NuT n (gx n L) P D N F q → NuR n L P D N F (if q then 0 else 4)) := by
      intro P D N F q h
      refine .inr ⟨n, rfl, G, ?_⟩
      rcases h with ⟨rfl, h1, h2⟩ | ⟨rfl, h1, h2, h3, h4, h5⟩
      · exact .inl ⟨rfl, h1, h2⟩
      · exact .inr ⟨rfl, h1, h2, h3, h4, h5⟩
    have HN0 : Hid (∀ (P D N F : Int), NuT n (gx n L) P D N F false → P = 0 ∧ D = 0 ∧ N = 0 ∧ F = 0) := by
      intro P D N F h
      rcases h with ⟨h, _⟩ | ⟨_, h1, h2, h3, h4, _⟩
      · cases h
      · exact ⟨h1, h2, h3, h4⟩
    have KR : Hid (∀ (w2 w4 : World) (f : Nat → Nat) (row : Array Value), Below W1.heap.size W1 w2 → Below ((w2.alloc (.cells #[.int .i64 0, .int .u32 0, .int .u32 0, .int .u32 0, .int .u32 0, .int .u32 0, .int .u32 0, .int .u32 0, .int .u32 0, .int .u32 0, .int .u32 0, .int .u32 0, .int .u32 0, .int .u32 0, .int .u32 0, .int .u32 0, .int .u32 0, .int .u32 0, .int .u32 0, .int .u32 0, .int .u32 0, .int .u32 0, .int .u32 0, .int .u32 0, .int .u32 0] 45)).setRow w2.heap.size (gRow n f)).heap.size ((w2.alloc (.cells #[.int .i64 0, .int .u32 0, .int .u32 0, .int .u32 0, .int .u32 0, .int .u32 0, .int .u32 0, .int .u32 0, .int .u32 0, .int .u32 0, .int .u32 0, .int .u32 0, .int .u32 0, .int .u32 0, .int .u32 0, .int .u32 0, .int .u32 0, .int .u32 0, .int .u32 0, .int .u32 0, .int .u32 0, .int .u32 0, .int .u32 0, .int .u32 0, .int .u32 0] 45)).setRow w2.heap.size (gRow n f)) w4 → ((w4.alloc (.cells #[.int .i64 0, .int .i64 0, .int .i64 0, .int .i64 0] 28)).setRow w4.heap.size row).heap[W.heap.size + 1]? = some (.cells #[.int .i64 0, .int .i64 0, .int .i64 0, .int .i64 0] 28 (0, 0)) ∧ Below W.heap.size W ((w4.alloc (.cells #[.int .i64 0, .int .i64 0, .int .i64 0, .int .i64 0] 28)).setRow w4.heap.size row)) := by
      intro w2 w4 f row hb2 hb4
      have h1 := HLS.out
      have h2 := hb2.size
      have b3 : Below w2.heap.size w2 ((w2.alloc (.cells #[.int .i64 0, .int .u32 0, .int .u32 0, .int .u32 0, .int .u32 0, .int .u32 0, .int .u32 0, .int .u32 0, .int .u32 0, .int .u32 0, .int .u32 0, .int .u32 0, .int .u32 0, .int .u32 0, .int .u32 0, .int .u32 0, .int .u32 0, .int .u32 0, .int .u32 0, .int .u32 0, .int .u32 0, .int .u32 0, .int .u32 0, .int .u32 0, .int .u32 0] 45)).setRow w2.heap.size (gRow n f)) := bsetR (balloc w2 _) (Nat.le_refl _) _
      have b4 := Below.next b3 hb4
      have b5 : Below w4.heap.size w4 ((w4.alloc (.cells #[.int .i64 0, .int .i64 0, .int .i64 0, .int .i64 0] 28)).setRow w4.heap.size row) := bsetR (balloc w4 _) (Nat.le_refl _) _
      have b6 := Below.next (Below.next hb2 b4) b5
      exact ⟨(b6.block _ h1).trans HR1.out, Below.next HB1.out b6⟩
    have CO2 := CO.mono (HC18.out)
    clear CO G h0
    generalize gF n L = gg at *
    by_cases hst : ∃ k l m, StN n k l m (gx n L)
    · have CQ : Hid (∀ f w, (∀ a, a < n → f a = rbG n (gx n L) a) ∧ (∀ a, a < 24 → f a < 2 ^ 32) → Calls Try.prog 19 #[.agg (gRow n f)] w fun e w' => (∃ (P D N F : Int), e = .returned (.tuple #[.agg #[.int .i64 P, .int .i64 D, .int .i64 N, .int .i64 F], .bool true]) ∧ NuT n (gx n L) P D N F true) ∧ Below w.heap.size w w') := fun f w hf => (HC19.out f w hf).mono fun e w' ⟨⟨P, D, N, F, q, h1, h2⟩, hb⟩ => by
        obtain rfl : q = true := by
          rcases h2 with ⟨h2, _, h3⟩ | ⟨h2, _, _, _, _, h3⟩
          · exact h2
          · exact absurd hst h3
        exact ⟨⟨P, D, N, F, h1, h2⟩, hb⟩
      clear hst HC19
      go_enter Try.func9, Try.ntmps9
      go_wp2_with (first
        | (rw [hW1])
        | (refine wpList_store_row rfl 45 _ _ rfl w2.heap.size (gRow n f) rfl rfl 45 _ hz (inf45 _ _) (by rw [gRow_size]; rfl) (gRow_one _ _) ?_)
        | (refine wpList_load_row rfl 45 _ rfl w2.heap.size rfl 45 _ (0, 0) _ hg3 hu rfl (inf45 _ _) ?_)
        | (go_at_call 18; refine CO2.mono ?_; rintro e w2 ⟨f, rfl, Hf, hb2⟩; clear CO2; have hz := GrW.zero w2; have hg3 := hz.whole n f; have CN := CQ.out f ((w2.alloc (.cells #[.int .i64 0, .int .u32 0, .int .u32 0, .int .u32 0, .int .u32 0, .int .u32 0, .int .u32 0, .int .u32 0, .int .u32 0, .int .u32 0, .int .u32 0, .int .u32 0, .int .u32 0, .int .u32 0, .int .u32 0, .int .u32 0, .int .u32 0, .int .u32 0, .int .u32 0, .int .u32 0, .int .u32 0, .int .u32 0, .int .u32 0, .int .u32 0, .int .u32 0] 45)).setRow w2.heap.size (gRow n f)) Hf.out)
        | (go_at_call 19; refine CN.mono ?_; rintro e w4 ⟨⟨P, D, N, F, rfl, hNu⟩, hb4⟩; clear CN; have hz4 := heap_alloc_new w4 (.cells #[.int .i64 0, .int .i64 0, .int .i64 0, .int .i64 0] 28); have hg5 := setRow_heap _ _ _ #[.int .i64 P, .int .i64 D, .int .i64 N, .int .i64 F] _ _ hz4; have hr5 := (KR.out w2 w4 f #[.int .i64 P, .int .i64 D, .int .i64 N, .int .i64 F] hb2 hb4).1; have hb5 := (KR.out w2 w4 f #[.int .i64 P, .int .i64 D, .int .i64 N, .int .i64 F] hb2 hb4).2; have HNU : Hid (NuT n (gx n L) P D N F true) := hNu; clear hNu)
        | (refine wpList_store_row rfl 28 _ _ rfl w4.heap.size #[.int .i64 P, .int .i64 D, .int .i64 N, .int .i64 F] rfl rfl 28 _ hz4 (infSt _ _ _ _) rfl (str_one _ _ _ _) ?_)
        | (refine wpList_load_row rfl 28 _ rfl w4.heap.size rfl 28 _ (0, 0) _ hg5 Try.underlying28 rfl (infSt _ _ _ _) ?_)
        | (refine wpList_store_row rfl 28 _ _ rfl (W.heap.size + 1) #[.int .i64 P, .int .i64 D, .int .i64 N, .int .i64 F] rfl rfl 28 _ hr5 (infSt _ _ _ _) rfl (str_one _ _ _ _) ?_))
      exact post_st2 2 3 rfl rfl (setRow_heap _ _ _ _ _ _ hr5) rfl rfl ⟨⟨P, D, N, F, 0, rfl, HFIN.out P D N F true HNU.out⟩, bsetR hb5 (by omega) _⟩
    · have CQ : Hid (∀ f w, (∀ a, a < n → f a = rbG n (gx n L) a) ∧ (∀ a, a < 24 → f a < 2 ^ 32) → Calls Try.prog 19 #[.agg (gRow n f)] w fun e w' => (∃ (P D N F : Int), e = .returned (.tuple #[.agg #[.int .i64 P, .int .i64 D, .int .i64 N, .int .i64 F], .bool false]) ∧ NuT n (gx n L) P D N F false) ∧ Below w.heap.size w w') := fun f w hf => (HC19.out f w hf).mono fun e w' ⟨⟨P, D, N, F, q, h1, h2⟩, hb⟩ => by
        obtain rfl : q = false := by
          rcases h2 with ⟨h2, _, h3⟩ | ⟨h2, _, _, _, _, h3⟩
          · exact absurd ⟨_, _, _, h3⟩ hst
          · exact h2
        exact ⟨⟨P, D, N, F, h1, h2⟩, hb⟩
      clear hst HC19
      go_enter Try.func9, Try.ntmps9
      go_wp2_with (first
        | (rw [hW1])
        | (refine wpList_store_row rfl 45 _ _ rfl w2.heap.size (gRow n f) rfl rfl 45 _ hz (inf45 _ _) (by rw [gRow_size]; rfl) (gRow_one _ _) ?_)
        | (refine wpList_load_row rfl 45 _ rfl w2.heap.size rfl 45 _ (0, 0) _ hg3 hu rfl (inf45 _ _) ?_)
        | (go_at_call 18; refine CO2.mono ?_; rintro e w2 ⟨f, rfl, Hf, hb2⟩; clear CO2; have hz := GrW.zero w2; have hg3 := hz.whole n f; have CN := CQ.out f ((w2.alloc (.cells #[.int .i64 0, .int .u32 0, .int .u32 0, .int .u32 0, .int .u32 0, .int .u32 0, .int .u32 0, .int .u32 0, .int .u32 0, .int .u32 0, .int .u32 0, .int .u32 0, .int .u32 0, .int .u32 0, .int .u32 0, .int .u32 0, .int .u32 0, .int .u32 0, .int .u32 0, .int .u32 0, .int .u32 0, .int .u32 0, .int .u32 0, .int .u32 0, .int .u32 0] 45)).setRow w2.heap.size (gRow n f)) Hf.out)
        | (go_at_call 19; refine CN.mono ?_; rintro e w4 ⟨⟨P, D, N, F, rfl, hNu⟩, hb4⟩; clear CN; obtain ⟨rfl, rfl, rfl, rfl⟩ := HN0.out P D N F hNu; have hz4 := heap_alloc_new w4 (.cells #[.int .i64 0, .int .i64 0, .int .i64 0, .int .i64 0] 28); have hg5 := setRow_heap _ _ _ #[.int .i64 0, .int .i64 0, .int .i64 0, .int .i64 0] _ _ hz4; have hr5 := (KR.out w2 w4 f #[.int .i64 0, .int .i64 0, .int .i64 0, .int .i64 0] hb2 hb4).1; have hb5 := (KR.out w2 w4 f #[.int .i64 0, .int .i64 0, .int .i64 0, .int .i64 0] hb2 hb4).2; have HNU : Hid (NuT n (gx n L) 0 0 0 0 false) := hNu; clear hNu)
        | (refine wpList_store_row rfl 28 _ _ rfl w4.heap.size #[.int .i64 0, .int .i64 0, .int .i64 0, .int .i64 0] rfl rfl 28 _ hz4 (infSt _ _ _ _) rfl (str_one _ _ _ _) ?_)
        | (refine wpList_load_row rfl 28 _ rfl w4.heap.size rfl 28 _ (0, 0) _ hg5 Try.underlying28 rfl (infSt _ _ _ _) ?_)
        | (refine wpList_store_row rfl 28 _ _ rfl (W.heap.size + 1) #[.int .i64 0, .int .i64 0, .int .i64 0, .int .i64 0] rfl rfl 28 _ hr5 (infSt _ _ _ _) rfl (str_one _ _ _ _) ?_))
      exact post_st2 2 3 rfl rfl (setRow_heap _ _ _ _ _ _ hr5) rfl rfl ⟨⟨0, 0, 0, 0, 4, rfl, HFIN.out 0 0 0 0 false HNU.out⟩, bsetR hb5 (by omega) _⟩
  · have he : ((gF s L : Int) != 0) = true := by simp; omega
    have KR : Hid (∀ (w2 : World) (m : Int) (f : Nat → Nat), Below W1.heap.size W1 w2 → ((w2.alloc (.cells #[.int .i64 0, .int .u32 0, .int .u32 0, .int .u32 0, .int .u32 0, .int .u32 0, .int .u32 0, .int .u32 0, .int .u32 0, .int .u32 0, .int .u32 0, .int .u32 0, .int .u32 0, .int .u32 0, .int .u32 0, .int .u32 0, .int .u32 0, .int .u32 0, .int .u32 0, .int .u32 0, .int .u32 0, .int .u32 0, .int .u32 0, .int .u32 0, .int .u32 0] 45)).setRow w2.heap.size (gRow m f)).heap[W.heap.size + 1]? = some (.cells #[.int .i64 0, .int .i64 0, .int .i64 0, .int .i64 0] 28 (0, 0)) ∧ Below W.heap.size W ((w2.alloc (.cells #[.int .i64 0, .int .u32 0, .int .u32 0, .int .u32 0, .int .u32 0, .int .u32 0, .int .u32 0, .int .u32 0, .int .u32 0, .int .u32 0, .int .u32 0, .int .u32 0, .int .u32 0, .int .u32 0, .int .u32 0, .int .u32 0, .int .u32 0, .int .u32 0, .int .u32 0, .int .u32 0, .int .u32 0, .int .u32 0, .int .u32 0, .int .u32 0, .int .u32 0] 45)).setRow w2.heap.size (gRow m f))) := by
      intro w2 m f hb2
      have h1 := HLS.out
      have b3 : Below w2.heap.size w2 ((w2.alloc (.cells #[.int .i64 0, .int .u32 0, .int .u32 0, .int .u32 0, .int .u32 0, .int .u32 0, .int .u32 0, .int .u32 0, .int .u32 0, .int .u32 0, .int .u32 0, .int .u32 0, .int .u32 0, .int .u32 0, .int .u32 0, .int .u32 0, .int .u32 0, .int .u32 0, .int .u32 0, .int .u32 0, .int .u32 0, .int .u32 0, .int .u32 0, .int .u32 0, .int .u32 0] 45)).setRow w2.heap.size (gRow m f)) := bsetR (balloc w2 _) (Nat.le_refl _) _
      have b6 := Below.next hb2 b3
      exact ⟨(b6.block _ h1).trans HR1.out, Below.next HB1.out b6⟩
    have HFIN : Hid (NuR s L 0 0 0 0 (gF s L)) := .inl ⟨h0, rfl, rfl, rfl, rfl, rfl⟩
    clear h0
    go_enter Try.func9, Try.ntmps9
    go_wp2_with (first
      | (rw [hW1])
      | (refine wpList_store_row rfl 45 _ _ rfl w2.heap.size (gRow m f) rfl rfl 45 _ hz (inf45 _ _) (by rw [gRow_size]; rfl) (gRow_one _ _) ?_)
      | (go_at_call 18; refine CO.mono ?_; rintro e w2 ⟨⟨m, f, rfl, hO⟩, hb2⟩; clear CO; have hz := GrW.zero w2; have hr5 := (KR.out w2 m f hb2).1; have hb5 := (KR.out w2 m f hb2).2)
      | (refine wpList_store_row rfl 28 _ _ rfl (W.heap.size + 1) #[.int .i64 0, .int .i64 0, .int .i64 0, .int .i64 0] rfl rfl 28 _ hr5 (infSt _ _ _ _) rfl (str_one _ _ _ _) ?_))
    exact post_st2 2 3 rfl rfl (setRow_heap _ _ _ _ _ _ hr5) rfl rfl ⟨⟨0, 0, 0, 0, gF s L, rfl, HFIN.out⟩, bsetR hb5 (by omega) _⟩
end Go.Proofs.Ytlmjlffipinjiaa
