/- What Check, Numbers and Friend tell. -/
import Derived.Test.YtlmjlffipinjiaaDoorSP6
import Derived.Deep.RegionWith
/- The walk of open, where the cells are as many as they are to be. -/
namespace Go.Proofs.YtlmjlffipinjiaaDoor
open Go.RowKit Go.Shelf

/-- What open keeps. -/
structure OpI (w : World) (n : Nat) (v : Value) (f : Nat → Nat) (A : World) : Prop where
  bx : A.heap[w.heap.size]? = some (.cells #[.int .i64 (n : Int), v] 26 (0, 0))
  rs : GrW A (w.heap.size + 1) 0 (fun _ => 0)
  gr : GrW A (w.heap.size + 1 + 1) n f
  bw : Below w.heap.size w A
theorem OpI.mv {w A B : World} {n : Nat} {v : Value} {f : Nat → Nat} (h : OpI w n v f A) (hb : Below A.heap.size A B) : OpI w n v f B :=
  have h1 := (Array.getElem?_eq_some_iff.1 h.bx).1
  ⟨(hb.block _ h1).trans h.bx, h.rs.below hb h.rs.lt, h.gr.below hb h.gr.lt, Below.next h.bw hb⟩
theorem OpI.to {w A B : World} {n : Nat} {v : Value} {f f' : Nat → Nat} (h : OpI w n v f A) (hg : GrW B (w.heap.size + 1 + 1) n f') (hk : ∀ k, k ≠ w.heap.size + 1 + 1 → B.heap[k]? = A.heap[k]?) (hb : Below (w.heap.size + 1 + 1) A B) : OpI w n v f' B :=
  ⟨(hk _ (by omega)).trans h.bx, (hk _ (by omega)).trans h.rs, hg, h.bw.trans (hb.mono (by omega))⟩
theorem GrW.congr {w : World} {g : Nat} {n : Int} {f f' : Nat → Nat} (h : GrW w g n f) (e : ∀ a, f a = f' a) : GrW w g n f' := by
  obtain rfl : f = f' := funext e
  exact h
theorem mu_iff {n : Nat} {L : List Int} {f : Nat → Nat} (hn : n ≤ 32) (hf : ∀ a, a < n → f a = rbG n (gx n L) a) (hb : ∀ j, j < n * n → L.getD j 0 = 0 ∨ L.getD j 0 = 1) : MuB n f ↔ syB n (gx n L) = true := by
  have tb : ∀ a b, a < n → b < n → (f a).testBit b = (gx n L a b == 1) := fun a b ha hb => by rw [hf a ha, rb_bit]; simp [hb]
  have one : ∀ {a b c d : Nat}, a < n → b < n → c < n → d < n → ((gx n L a b == 1) = (gx n L c d == 1) ↔ gx n L a b = gx n L c d) := fun {a b c d} ha hb' hc hd => by
    rcases hb _ (cell_ltG ha hb') with e1 | e1 <;> rcases hb _ (cell_ltG hc hd) with e2 | e2 <;> simp [gx] <;> simp_all
  rw [sy_iff]
  constructor
  · rintro ⟨h1, h2⟩ a b ha hb'
    refine ⟨?_, fun k => ?_⟩
    · rcases Nat.lt_trichotomy a b with q | q | q
      · obtain ⟨i, g1, g2, g3, g4⟩ := prL_of hn q hb'
        have := h2 i _ g2
        rw [g3, g4, tb a b ha hb', tb b a hb' ha] at this
        exact (one ha hb' hb' ha).1 this
      · subst q; rfl
      · obtain ⟨i, g1, g2, g3, g4⟩ := prL_of hn q ha
        have := h2 i _ g2
        rw [g3, g4, tb a b ha hb', tb b a hb' ha] at this
        exact (one ha hb' hb' ha).1 this.symm
    · obtain ⟨rfl, k⟩ := k
      have := h1 a ha
      rw [tb a a ha ha, k] at this
      cases this
  · intro h
    refine ⟨fun a ha => ?_, fun i y hy => ?_⟩
    · rw [tb a a ha ha]
      have := (h a a ha ha).2
      simpa using this
    · obtain ⟨p1, p2⟩ := prL_at' hn hy
      rw [tb _ _ (by omega) p2, tb _ _ p2 (by omega)]
      exact (one (by omega) p2 p2 (by omega)).2 (h _ _ (by omega) p2).1

set_option maxRecDepth 100000 in
set_option maxHeartbeats 16000000 in
theorem open_main (n : Nat) (L : List Int) (v : Value) (w : World) (h1 : 1 ≤ n) (h8 : n ≤ 8 * 3) (hv : Sl w v L) (hl : L.length = n * n) :
    Calls Tryd.prog 31 #[.agg #[.int .i64 (n : Int), v]] w (OpenR n L w) := by
  obtain ⟨fs, hu⟩ := und45
  have d1 : decide ((n : Int) < 1) = false := by simp; omega
  have d2 : decide (24 < (n : Int)) = false := by simp; omega
  have hpos : 0 < n * n := Nat.mul_pos h1 h1
  obtain ⟨b, off, cap, rfl, hbw, hcell⟩ := hv.form hl hpos
  have HB1 : Hid (∀ j, j < n * n → ¬ (L.getD j 0 = 0 ∨ L.getD j 0 = 1) → gF n L = 1) := fun j hj h => gF_bit h1 h8 hl hj h
  have HON : Hid ((∀ j, j < n * n → L.getD j 0 = 0 ∨ L.getD j 0 = 1) → gF n L = if syB n (gx n L) then 0 else 4) := fun h => gF_on h1 h8 hl h
  have HER : Hid (∀ (u : Nat) (w' : World), gF n L = u → u ≠ 0 → Below w.heap.size w w' → OpenR n L w (.returned (.tuple #[.agg (gRow 0 fun _ => 0), .int .i64 (u : Int)])) w') := fun u w' hu h0 hb => ⟨⟨0, fun _ => 0, by rw [hu], fun h => absurd (hu.symm.trans h) h0⟩, hb⟩
  have HOK : Hid (∀ (w' : World), gF n L = 0 → Below w.heap.size w w' → OpenR n L w (.returned (.tuple #[.agg (gRow n (btG2 n L (n * n))), .int .i64 0])) w') := fun w' hu hb => ⟨⟨n, btG2 n L (n * n), by rw [hu]; rfl, fun _ => ⟨rfl, fun a => rfl⟩⟩, hb⟩
  have HMU : Hid ((∀ j, j < n * n → L.getD j 0 = 0 ∨ L.getD j 0 = 1) → (MuB n (btG2 n L (n * n)) ↔ syB n (gx n L) = true)) := fun h => mu_iff (by omega) (fun a ha => bt2_all ha) h
  have HZ : Hid (∀ a, btG2 n L 0 a = 0) := bt2_zero n L
  have HSK : Hid (∀ i a, L.getD i 0 = 0 → btG2 n L (i + 1) a = btG2 n L i a) := fun i a h => bt2_skip h a
  have HPT : Hid (∀ i a, L.getD i 0 = 1 → btG2 n L (i + 1) a = if a = i / n then btG2 n L i (i / n) ||| 2 ^ (i % n) else btG2 n L i a) := fun i a h => by
    rw [bt2_put h1 h a]
    split
    · rename_i e; rw [e]
    · rfl
  have HLT : Hid (∀ i a, btG2 n L i a < 2 ^ 32) := fun i a => Nat.lt_of_lt_of_le (bt2_lt n L i a) (Nat.pow_le_pow_right (by decide) (by omega))
  generalize OpenR n L w = R at *
  generalize gF n L = u at *
  generalize btG2 n L = bt at *
  have HLL : Hid (∀ i, i < n * n → i / n < n ∧ i % n < n) := fun i hi => ⟨Nat.div_lt_of_lt_mul hi, Nat.mod_lt _ h1⟩
  obtain ⟨z, hz⟩ : ∃ z, n * n = z := ⟨_, rfl⟩
  have hz99 : z ≤ 999 := by rw [← hz]; exact Nat.le_trans (Nat.mul_le_mul h8 h8) (by decide)
  have hmul : (n : Int) * (n : Int) = (z : Int) := by rw [← hz]; simp
  rw [hz] at HLL HB1 HON HOK HMU hcell ⊢
  have HC : Hid (∀ j, j < z → w.cell? ⟨b, off + j, none⟩ = some (.int .i64 (L.getD j 0))) := hcell
  clear hz hcell hl hv hpos
  generalize syB n (gx n L) = sy at *
  have hne : ((z : Int) != (z : Int)) = false := by simp
  have hz1 : GrW (((w.alloc (.cells #[.int .i64 (n : Int), .slice (some ⟨b, off, none⟩) z cap] 26)).alloc (.cells #[.int .i64 0, .int .u32 0, .int .u32 0, .int .u32 0, .int .u32 0, .int .u32 0, .int .u32 0, .int .u32 0, .int .u32 0, .int .u32 0, .int .u32 0, .int .u32 0, .int .u32 0, .int .u32 0, .int .u32 0, .int .u32 0, .int .u32 0, .int .u32 0, .int .u32 0, .int .u32 0, .int .u32 0, .int .u32 0, .int .u32 0, .int .u32 0, .int .u32 0] 47)).alloc (.cells #[.int .i64 0, .int .u32 0, .int .u32 0, .int .u32 0, .int .u32 0, .int .u32 0, .int .u32 0, .int .u32 0, .int .u32 0, .int .u32 0, .int .u32 0, .int .u32 0, .int .u32 0, .int .u32 0, .int .u32 0, .int .u32 0, .int .u32 0, .int .u32 0, .int .u32 0, .int .u32 0, .int .u32 0, .int .u32 0, .int .u32 0, .int .u32 0, .int .u32 0] 47)) (w.heap.size + 1 + 1) 0 (fun _ => 0) := by
    have := GrW.zero ((w.alloc (.cells #[.int .i64 (n : Int), .slice (some ⟨b, off, none⟩) z cap] 26)).alloc (.cells #[.int .i64 0, .int .u32 0, .int .u32 0, .int .u32 0, .int .u32 0, .int .u32 0, .int .u32 0, .int .u32 0, .int .u32 0, .int .u32 0, .int .u32 0, .int .u32 0, .int .u32 0, .int .u32 0, .int .u32 0, .int .u32 0, .int .u32 0, .int .u32 0, .int .u32 0, .int .u32 0, .int .u32 0, .int .u32 0, .int .u32 0, .int .u32 0, .int .u32 0] 47))
    rwa [World.size_alloc, World.size_alloc] at this
  have hO : OpI w n (.slice (some ⟨b, off, none⟩) z cap) (bt 0) ((((w.alloc (.cells #[.int .i64 (n : Int), .slice (some ⟨b, off, none⟩) z cap] 26)).alloc (.cells #[.int .i64 0, .int .u32 0, .int .u32 0, .int .u32 0, .int .u32 0, .int .u32 0, .int .u32 0, .int .u32 0, .int .u32 0, .int .u32 0, .int .u32 0, .int .u32 0, .int .u32 0, .int .u32 0, .int .u32 0, .int .u32 0, .int .u32 0, .int .u32 0, .int .u32 0, .int .u32 0, .int .u32 0, .int .u32 0, .int .u32 0, .int .u32 0, .int .u32 0] 47)).alloc (.cells #[.int .i64 0, .int .u32 0, .int .u32 0, .int .u32 0, .int .u32 0, .int .u32 0, .int .u32 0, .int .u32 0, .int .u32 0, .int .u32 0, .int .u32 0, .int .u32 0, .int .u32 0, .int .u32 0, .int .u32 0, .int .u32 0, .int .u32 0, .int .u32 0, .int .u32 0, .int .u32 0, .int .u32 0, .int .u32 0, .int .u32 0, .int .u32 0, .int .u32 0] 47)).setRow (w.heap.size + 1 + 1) (gRow (n : Int) fun _ => 0)) := by
    refine ⟨?_, ?_, (hz1.whole n (fun _ => 0)).congr fun a => (HZ.out a).symm, bsetR (((balloc w _).alloc (by simp) _).alloc (by simp; omega) _) (by omega) _⟩
    · refine (setRow_other _ _ _ _ (by omega)).trans ?_
      exact (Below.heap_alloc _ _ _ (by simp; omega)).trans ((Below.heap_alloc _ _ _ (by simp)).trans (heap_alloc_new w _))
    · refine (setRow_other _ _ _ _ (by omega)).trans ?_
      have := GrW.zero (w.alloc (.cells #[.int .i64 (n : Int), .slice (some ⟨b, off, none⟩) z cap] 26))
      rw [World.size_alloc] at this
      exact (Below.heap_alloc _ _ _ (by simp)).trans this
  have x1 : ((((w.alloc (.cells #[.int .i64 (n : Int), .slice (some ⟨b, off, none⟩) z cap] 26)).alloc (.cells #[.int .i64 0, .int .u32 0, .int .u32 0, .int .u32 0, .int .u32 0, .int .u32 0, .int .u32 0, .int .u32 0, .int .u32 0, .int .u32 0, .int .u32 0, .int .u32 0, .int .u32 0, .int .u32 0, .int .u32 0, .int .u32 0, .int .u32 0, .int .u32 0, .int .u32 0, .int .u32 0, .int .u32 0, .int .u32 0, .int .u32 0, .int .u32 0, .int .u32 0] 47)).alloc (.cells #[.int .i64 0, .int .u32 0, .int .u32 0, .int .u32 0, .int .u32 0, .int .u32 0, .int .u32 0, .int .u32 0, .int .u32 0, .int .u32 0, .int .u32 0, .int .u32 0, .int .u32 0, .int .u32 0, .int .u32 0, .int .u32 0, .int .u32 0, .int .u32 0, .int .u32 0, .int .u32 0, .int .u32 0, .int .u32 0, .int .u32 0, .int .u32 0, .int .u32 0] 47)).setRow (w.heap.size + 1 + 1) (gRow (n : Int) fun _ => 0)).cell? ⟨w.heap.size, 1, none⟩ = some (.slice (some ⟨b, off, none⟩) z cap) := cell_of_row _ _ 1 _ _ _ hO.bx
  go_enter Tryd.func31, Tryd.ntmps31
  go_wp2_with (refine wpList_store_row rfl 47 _ _ rfl (w.heap.size + 1 + 1) (gRow (n : Int) fun _ => 0) rfl rfl 47 _ hz1 (inf45 _ _) rfl (gRow_one _ _) ?_)
  go_loopw [32] (fun av wr => ∃ (i : Nat), av = .int .i64 (i : Int) ∧ i ≤ z ∧ Hid (∀ j, j < i → L.getD j 0 = 0 ∨ L.getD j 0 = 1) ∧ OpI w n (.slice (some ⟨b, off, none⟩) z cap) (bt i) wr) (fun av _ => (z - intOf av).toNat)
  case atStart => exact ⟨0, rfl, by omega, (fun j h => absurd h (by omega) : ∀ j, j < 0 → _), hO⟩
  case round =>
    clear hO x1 hz1
    obtain ⟨i, rfl, hi, HI, hO⟩ := hrel
    have x0 : wr.cell? ⟨w.heap.size, 0, none⟩ = some (.int .i64 (n : Int)) := cell_of_row _ _ 0 _ _ _ hO.bx
    have hrs := hO.rs
    have HO : Hid (OpI w n (.slice (some ⟨b, off, none⟩) z cap) (bt i) wr) := hO
    by_cases hlt : i < z
    · have hdi : decide ((i : Int) < (z : Int)) = true := by simp; omega
      obtain ⟨x, Hx⟩ : ∃ x : Int, Hid (x = L.getD i 0) := ⟨_, rfl⟩
      have hcx := (hO.bw.cell (p := ⟨b, off + i, none⟩) hbw).trans (HC.out i hlt)
      rw [← Hx.out] at hcx
      by_cases hx0 : x = 0
      · have e0 : (x == 0) = true := by simp [hx0]
        have HS : Hid (OpI w n (.slice (some ⟨b, off, none⟩) z cap) (bt (i + 1)) wr) := by
          have e : bt (i + 1) = bt i := funext fun a => HSK.out i a (by rw [← Hx.out]; exact hx0)
          show OpI w n _ (bt (i + 1)) wr
          rw [e]; exact HO.out
        have HI2 : Hid (∀ j, j < i + 1 → L.getD j 0 = 0 ∨ L.getD j 0 = 1) := fun j hj => by
          by_cases e : j = i
          · subst e; left; rw [← Hx.out]; exact hx0
          · exact HI.out j (by omega)
        clear hx0
        go_wp2
        go_roundw
        case rel => exact ⟨i + 1, by go_num, by omega, HI2, HS.out⟩
        case measure => simp [intOf]; omega
      · by_cases hx1 : x = 1
        · have e0 : (x == 0) = false := by simp [hx0]
          have e1 : (x == 1) = true := by simp [hx1]
          have HI2 : Hid (∀ j, j < i + 1 → L.getD j 0 = 0 ∨ L.getD j 0 = 1) := fun j hj => by
            by_cases e : j = i
            · subst e; right; rw [← Hx.out]; exact hx1
            · exact HI.out j (by omega)
          have hq := HLL.out i hlt
          have HX1 : Hid (x = 1) := hx1
          have hdv : (i : Int) / (n : Int) = ((i / n : Nat) : Int) := by simp
          have hmv : (i : Int) % (n : Int) = ((i % n : Nat) : Int) := by simp
          have hn0 : ((n : Int) == 0) = false := by simp; omega
          have CJ := join_any (w.heap.size + 1 + 1) n (bt i) (i / n) (i % n) wr.drew hO.gr (by omega) (by omega) (HLT.out i _)
          obtain ⟨q1, hq1⟩ : ∃ q, i / n = q := ⟨_, rfl⟩
          obtain ⟨q2, hq2⟩ : ∃ q, i % n = q := ⟨_, rfl⟩
          have HSTEP : Hid (∀ w2 : World, GrW w2 (w.heap.size + 1 + 1) n (fun j => if j = q1 then bt i q1 ||| 2 ^ q2 else bt i j) → (∀ k, k ≠ w.heap.size + 1 + 1 → w2.heap[k]? = wr.drew.heap[k]?) → Below (w.heap.size + 1 + 1) wr.drew w2 → OpI w n (.slice (some ⟨b, off, none⟩) z cap) (bt (i + 1)) w2) := fun w2 hg2 hk2 hb2 => by
            refine HO.out.to (hg2.congr fun a => ?_) hk2 ((Below.refl _ wr).drew.trans hb2)
            rw [HPT.out i a (by rw [← Hx.out]; exact HX1.out), hq1, hq2]
          have x0d : wr.drew.cell? ⟨w.heap.size, 0, none⟩ = some (.int .i64 (n : Int)) := x0
          rw [hq1, hq2] at CJ
          rw [hq1] at hdv
          rw [hq2] at hmv
          have hnz : ¬ n = 0 := by omega
          have hwq : IntKind.i64.wrap (q1 : Int) = (q1 : Int) := by rw [IntKind.wrap_i64]; omega
          have htm : (i : Int).tmod (n : Int) = (q2 : Int) := by rw [Int.tmod_eq_emod_of_nonneg (by omega)]; exact hmv
          clear hq1 hq2 hq
          clear hx0 hx1
          go_wp2
          refine (wpIn_wide (n := 9)).1 (wpIn_region_any (by kernel_rfl) ?_)
          try (change wpAnyIn _ _ _ _ _ _ _ _ _ (World.drew _))
          refine wpAnyIn_take (i := 0) (v := .int .i64 (i : Int)) rfl rfl (by kernel_rfl) (by kernel_rfl) (by kernel_rfl) (by intro _ _ _ h; first | exact h | cases h.1) ⟨Or.inl ⟨by rfl, fun w => by go_simp⟩, fun _ => rfl⟩ ?_
          refine wpAnyIn_take (i := 1) (v := .pointer (some ⟨w.heap.size, 0, none⟩)) rfl rfl (by kernel_rfl) (by kernel_rfl) (by kernel_rfl) (by intro _ _ _ h; first | exact h | cases h.1) ⟨Or.inl ⟨by rfl, fun w => by go_simp⟩, fun _ => rfl⟩ ?_
          refine wpAnyIn_take (i := 4) (v := .int .i64 (i : Int)) rfl rfl (by kernel_rfl) (by kernel_rfl) (by kernel_rfl) (by intro _ _ _ h; first | exact h | cases h.1) ⟨Or.inl ⟨by rfl, fun w => by go_simp⟩, fun _ => rfl⟩ ?_
          refine wpAnyIn_take (i := 5) (v := .pointer (some ⟨w.heap.size, 0, none⟩)) rfl rfl (by kernel_rfl) (by kernel_rfl) (by kernel_rfl) (by intro _ _ _ h; first | exact h | cases h.1) ⟨Or.inl ⟨by rfl, fun w => by go_simp⟩, fun _ => rfl⟩ ?_
          refine wpAnyIn_ready (rs := [2, 6]) (by kernel_rfl) (by simp) (AllReadyIn.cons rfl (fun K hK => ?_) (AllReadyIn.cons rfl (fun K hK => ?_) AllReadyIn.nil))
          · go_simp
            refine hK _ _ ?_
            clear hK K
            refine wpAnyIn_take (i := 3) (v := .int .i64 (q1 : Int)) rfl rfl (by kernel_rfl) (by kernel_rfl) (by kernel_rfl) (by intro _ _ _ h; first | exact h | cases h.1) ⟨Or.inl ⟨by rfl, fun w => by go_simp⟩, fun _ => rfl⟩ ?_
            refine wpAnyIn_ready (rs := [6]) (by kernel_rfl) (by simp) (AllReadyIn.cons rfl (fun K hK => ?_) AllReadyIn.nil)
            go_simp
            refine hK _ _ ?_
            clear hK K
            refine wpAnyIn_take (i := 7) (v := .int .i64 (q2 : Int)) rfl rfl (by kernel_rfl) (by kernel_rfl) (by kernel_rfl) (by intro _ _ _ h; first | exact h | cases h.1) ⟨Or.inl ⟨by rfl, fun w => by go_simp⟩, fun _ => rfl⟩ ?_
            refine wpAnyIn_ready (rs := [8]) (by kernel_rfl) (by simp) (AllReadyIn.cons rfl (fun K hK => ?_) AllReadyIn.nil)
            go_simp
            refine ⟨trivial, (callsIn_wide.2 CJ).mono ?_⟩
            rintro e w2 ⟨⟨vv, rfl⟩, hg2, hk2, hb2⟩
            refine hK _ _ ?_
            clear hK K
            have hO2 := HSTEP.out w2 hg2 hk2 hb2
            refine wpAnyIn_done (by kernel_rfl) ?_ _
            go_wp2
            go_roundw
            case rel => exact ⟨i + 1, by go_num, by omega, HI2, hO2⟩
            case measure => simp [intOf]; omega
          · go_simp
            refine hK _ _ ?_
            clear hK K
            refine wpAnyIn_take (i := 7) (v := .int .i64 (q2 : Int)) rfl rfl (by kernel_rfl) (by kernel_rfl) (by kernel_rfl) (by intro _ _ _ h; first | exact h | cases h.1) ⟨Or.inl ⟨by rfl, fun w => by go_simp⟩, fun _ => rfl⟩ ?_
            refine wpAnyIn_ready (rs := [2]) (by kernel_rfl) (by simp) (AllReadyIn.cons rfl (fun K hK => ?_) AllReadyIn.nil)
            go_simp
            refine hK _ _ ?_
            clear hK K
            refine wpAnyIn_take (i := 3) (v := .int .i64 (q1 : Int)) rfl rfl (by kernel_rfl) (by kernel_rfl) (by kernel_rfl) (by intro _ _ _ h; first | exact h | cases h.1) ⟨Or.inl ⟨by rfl, fun w => by go_simp⟩, fun _ => rfl⟩ ?_
            refine wpAnyIn_ready (rs := [8]) (by kernel_rfl) (by simp) (AllReadyIn.cons rfl (fun K hK => ?_) AllReadyIn.nil)
            go_simp
            refine ⟨trivial, (callsIn_wide.2 CJ).mono ?_⟩
            rintro e w2 ⟨⟨vv, rfl⟩, hg2, hk2, hb2⟩
            refine hK _ _ ?_
            clear hK K
            have hO2 := HSTEP.out w2 hg2 hk2 hb2
            refine wpAnyIn_done (by kernel_rfl) ?_ _
            go_wp2
            go_roundw
            case rel => exact ⟨i + 1, by go_num, by omega, HI2, hO2⟩
            case measure => simp [intOf]; omega
        · have e0 : (x == 0) = false := by simp [hx0]
          have e1 : (x == 1) = false := by simp [hx1]
          have hu1 : u = 1 := HB1.out i hlt (by rw [← Hx.out]; omega)
          have HU1 : Hid (u = 1) := hu1
          clear hx0 hx1 hu1
          go_wp2_with (refine wpList_store_row rfl 47 _ _ rfl (w.heap.size + 1) (gRow 0 fun _ => 0) rfl rfl 47 _ hrs (inf45 _ _) rfl (gRow_one _ _) ?_)
          exact post_gr (z := 1) 2 3 rfl rfl rfl (hrs.whole 0 fun _ => 0) rfl (HER.out 1 _ HU1.out (by decide) (bsetR HO.out.bw (by omega) _))
    · have hdi : decide ((i : Int) < (z : Int)) = false := by simp; omega
      obtain rfl : i = z := by omega
      have hgr := hO.gr
      have CM := mutual_any n (bt i) wr (by omega) (fun a _ => HLT.out i a)
      have hon := HON.out HI.out
      have hmu := HMU.out HI.out
      have HLW : Hid (w.heap.size + 1 + 1 < wr.heap.size) := hO.gr.lt
      have HGR : Hid (GrW wr (w.heap.size + 1 + 1) n (bt i)) := hgr
      cases sy with
      | true =>
        have HMUT : Hid (MuB n (bt i)) := hmu.2 rfl
        have HU0 : Hid (u = 0) := (by simpa using hon : u = 0)
        clear hon hmu
        go_wp2_with (first
          | (refine wpList_load_row rfl 47 _ rfl (w.heap.size + 1 + 1) rfl 47 _ (0, 0) _ hgr hu rfl (inf45 _ _) ?_)
          | (refine wpList_load_row rfl 47 _ rfl (w.heap.size + 1 + 1) rfl 47 _ (0, 0) _ hgr2 hu rfl (inf45 _ _) ?_)
          | (refine wpList_store_row rfl 47 _ _ rfl (w.heap.size + 1) (gRow n (bt i)) rfl rfl 47 _ hrs2 (inf45 _ _) (by rw [gRow_size, gRow_size]) (gRow_one _ _) ?_)
          | (go_at_call 45; refine CM.mono ?_; rintro e w2 ⟨⟨q, rfl, hq⟩, hb2⟩; clear CM; obtain rfl : q = true := hq.2 HMUT.out; have hO2 := HO.out.mv hb2; have hgr2 := hO2.gr; have hrs2 := hO2.rs; clear hgr hq))
        exact post_gr (z := 0) 2 3 rfl rfl rfl (hrs2.whole n (bt i)) rfl (HOK.out _ HU0.out (bsetR hO2.bw (by omega) _))
      | false =>
        have HMUT : Hid (¬ MuB n (bt i)) := fun h => (by have := hmu.1 h; cases this)
        have HU0 : Hid (u = 4) := (by simpa using hon : u = 4)
        clear hon hmu
        go_wp2_with (first
          | (refine wpList_load_row rfl 47 _ rfl (w.heap.size + 1 + 1) rfl 47 _ (0, 0) _ hgr hu rfl (inf45 _ _) ?_)
          | (refine wpList_store_row rfl 47 _ _ rfl (w.heap.size + 1) (gRow 0 fun _ => 0) rfl rfl 47 _ hrs2 (inf45 _ _) rfl (gRow_one _ _) ?_)
          | (go_at_call 45; refine CM.mono ?_; rintro e w2 ⟨⟨q, rfl, hq⟩, hb2⟩; clear CM; obtain rfl : q = false := (by cases q; rfl; exact absurd (hq.1 rfl) HMUT.out); have hO2 := HO.out.mv hb2; have hrs2 := hO2.rs; clear hgr hq))
        exact post_gr (z := 4) 2 3 rfl rfl rfl (hrs2.whole 0 fun _ => 0) rfl (HER.out 4 _ HU0.out (by decide) (bsetR hO2.bw (by omega) _))
theorem open_any (s : Int) (L : List Int) (v : Value) (w : World) (hv : Sl w v L) (hll : L.length ≤ maxLen) : Calls Tryd.prog 31 #[.agg #[.int .i64 s, v]] w (OpenR s L w) := by
  by_cases h : s < 1 ∨ 24 < s
  · exact open_far s L v w h
  · obtain ⟨n, rfl⟩ : ∃ n : Nat, s = n := ⟨s.toNat, by omega⟩
    by_cases hl : L.length = n * n
    · exact open_main n L v w (by omega) (by omega) hv hl
    · exact open_shape n L v w (by omega) (by omega) hv hll hl
end Go.Proofs.YtlmjlffipinjiaaDoor

namespace Go.Proofs.YtlmjlffipinjiaaDoor
open Go.RowKit Go.Shelf

theorem op_good {s m : Int} {L : List Int} {f : Nat → Nat} (h : gF s L = 0) (hO : OpT s L m f) : ∃ n : Nat, s = n ∧ GoodG n L ∧ m = n ∧ (∀ a, a < n → f a = rbG n (gx n L) a) ∧ ∀ a, a < 24 → f a < 2 ^ 32 := by
  obtain ⟨n, rfl, G⟩ := gF_ok h
  obtain ⟨rfl, hf⟩ := hO h
  rw [Int.toNat_natCast] at hf
  have := G.le
  exact ⟨n, rfl, G, rfl, fun a ha => by rw [hf a, bt2_all ha], fun a _ => by rw [hf a]; exact Nat.lt_of_lt_of_le (bt2_lt n L _ a) (Nat.pow_le_pow_right (by decide) (by omega))⟩
theorem post_st {fn : Func} {R : Ending → World → Prop} {a : Act} {w : World} {g : Nat} {P D L M z : Int} (s u : Tmp) (hres : fn.results = #[.cell s 37, .tmp u])
    (hp : a.tmps.getD s undef = .pointer (some ⟨g, 0, none⟩)) (hz : a.tmps.getD u undef = .int .i64 z) (hr : w.heap[g]? = some (.cells #[.int .i64 P, .int .i64 D, .int .i64 L, .int .i64 M] 37 (0, 0))) (hd : a.defers = []) (hR : R (.returned (.tuple #[.agg #[.int .i64 P, .int .i64 D, .int .i64 L, .int .i64 M], .int .i64 z])) w) : bodyPost Tryd.prog fn R .ret a w := by
  refine bodyPost_ret ?_ hd hR
  have hp' : a.tmps[s]?.getD undef = .pointer (some ⟨g, 0, none⟩) := by simpa using hp
  have hz' : a.tmps[u]?.getD undef = .int .i64 z := by simpa using hz
  simp [results, hres, hp', hz', asAddr, run_loadVar_row w g 37 37 _ (0, 0) _ hr Tryd.underlying37 rfl (infSt _ _ _ _)]
set_option maxRecDepth 100000 in
set_option maxHeartbeats 8000000 in
theorem fnum : FNum := by
  intro s L v W hv hll
  obtain ⟨fs, hu⟩ := und45
  have hbox := heap_alloc_new W (.cells #[.int .i64 s, v] 26)
  have x0 : (W.alloc (.cells #[.int .i64 s, v] 26)).cell? ⟨W.heap.size, 0, none⟩ = some (.int .i64 s) := cell_of_row _ _ 0 _ _ _ hbox
  have x1 : (W.alloc (.cells #[.int .i64 s, v] 26)).cell? ⟨W.heap.size, 1, none⟩ = some v := cell_of_row _ _ 1 _ _ _ hbox
  have b0 := balloc W (.cells #[.int .i64 s, v] 26)
  have hr1 : ((W.alloc (.cells #[.int .i64 s, v] 26)).alloc (.cells #[.int .i64 0, .int .i64 0, .int .i64 0, .int .i64 0] 37)).heap[W.heap.size + 1]? = some (.cells #[.int .i64 0, .int .i64 0, .int .i64 0, .int .i64 0] 37 (0, 0)) := by
    have := heap_alloc_new (W.alloc (.cells #[.int .i64 s, v] 26)) (.cells #[.int .i64 0, .int .i64 0, .int .i64 0, .int .i64 0] 37)
    rwa [World.size_alloc] at this
  have b1 := balloc (W.alloc (.cells #[.int .i64 s, v] 26)) (.cells #[.int .i64 0, .int .i64 0, .int .i64 0, .int .i64 0] 37)
  have y0 := (b1.cell (p := ⟨W.heap.size, 0, none⟩) (by simp)).trans x0
  have y1 := (b1.cell (p := ⟨W.heap.size, 1, none⟩) (by simp)).trans x1
  have b01 := Below.next b0 b1
  have CO := open_any s L v _ (hv.below b01) hll
  have hls : W.heap.size + 1 < ((W.alloc (.cells #[.int .i64 s, v] 26)).alloc (.cells #[.int .i64 0, .int .i64 0, .int .i64 0, .int .i64 0] 37)).heap.size := by simp
  generalize hW1 : (W.alloc (.cells #[.int .i64 s, v] 26)).alloc (.cells #[.int .i64 0, .int .i64 0, .int .i64 0, .int .i64 0] 37) = W1 at *
  have HLS : Hid (W.heap.size + 1 < W1.heap.size) := hls
  have HB1 : Hid (Below W.heap.size W W1) := b01
  have HR1 : Hid (W1.heap[W.heap.size + 1]? = some (.cells #[.int .i64 0, .int .i64 0, .int .i64 0, .int .i64 0] 37 (0, 0))) := hr1
  clear b0 b1 x0 x1 hbox hls b01 hr1
  by_cases h0 : gF s L = 0
  · obtain ⟨n, rfl, G⟩ := gF_ok h0
    have he : ((gF n L : Int) != 0) = false := by simp [h0]
    have HC18 : Hid (∀ e w2, OpenR n L W1 e w2 → ∃ f, e = .returned (.tuple #[.agg (gRow n f), .int .i64 0]) ∧ Hid ((∀ a, a < n → f a = rbG n (gx n L) a) ∧ ∀ a, a < 24 → f a < 2 ^ 32) ∧ Below W1.heap.size W1 w2) := by
      rintro e w2 ⟨⟨m, f, rfl, hO⟩, hb2⟩
      obtain ⟨n', e1, _, rfl, h1, h2⟩ := op_good h0 hO
      obtain rfl : n = n' := by omega
      exact ⟨f, by rw [h0]; rfl, ⟨h1, h2⟩, hb2⟩
    have HC19 : Hid (∀ f w, (∀ a, a < n → f a = rbG n (gx n L) a) ∧ (∀ a, a < 24 → f a < 2 ^ 32) → Calls Tryd.prog 32 #[.agg (gRow n f)] w fun e w' => (∃ (P D N F : Int) (q : Bool), e = .returned (.tuple #[.agg #[.int .i64 P, .int .i64 D, .int .i64 N, .int .i64 F], .bool q]) ∧ NuT n (gx n L) P D N F q) ∧ Below w.heap.size w w') := fun f w hf => numbers_any n (gx n L) f w G.pos G.le G.gr hf.1 hf.2
    have HFIN : Hid (∀ (P D N F : Int) (q : Bool), NuT n (gx n L) P D N F q → NuR n L P D N F (if q then 0 else 4)) := by
      intro P D N F q h
      refine .inr ⟨n, rfl, G, ?_⟩
      rcases h with ⟨rfl, h1, h2⟩ | ⟨rfl, h1, h2, h3, h4, h5⟩
      · exact .inl ⟨rfl, h1, h2⟩
      · exact .inr ⟨rfl, h1, h2, h3, h4, h5⟩
    have HN0 : Hid (∀ (P D N F : Int), NuT n (gx n L) P D N F false → P = 0 ∧ D = 0 ∧ N = 0 ∧ F = 0) := by
      intro P D N F h
      rcases h with ⟨h, _⟩ | ⟨_, h1, h2, h3, h4, _⟩
      · cases h
      · exact ⟨h1, h2, h3, h4⟩
    have KR : Hid (∀ (w2 w4 : World) (f : Nat → Nat) (row : Array Value), Below W1.heap.size W1 w2 → Below ((w2.alloc (.cells #[.int .i64 0, .int .u32 0, .int .u32 0, .int .u32 0, .int .u32 0, .int .u32 0, .int .u32 0, .int .u32 0, .int .u32 0, .int .u32 0, .int .u32 0, .int .u32 0, .int .u32 0, .int .u32 0, .int .u32 0, .int .u32 0, .int .u32 0, .int .u32 0, .int .u32 0, .int .u32 0, .int .u32 0, .int .u32 0, .int .u32 0, .int .u32 0, .int .u32 0] 47)).setRow w2.heap.size (gRow n f)).heap.size ((w2.alloc (.cells #[.int .i64 0, .int .u32 0, .int .u32 0, .int .u32 0, .int .u32 0, .int .u32 0, .int .u32 0, .int .u32 0, .int .u32 0, .int .u32 0, .int .u32 0, .int .u32 0, .int .u32 0, .int .u32 0, .int .u32 0, .int .u32 0, .int .u32 0, .int .u32 0, .int .u32 0, .int .u32 0, .int .u32 0, .int .u32 0, .int .u32 0, .int .u32 0, .int .u32 0] 47)).setRow w2.heap.size (gRow n f)) w4 → ((w4.alloc (.cells #[.int .i64 0, .int .i64 0, .int .i64 0, .int .i64 0] 37)).setRow w4.heap.size row).heap[W.heap.size + 1]? = some (.cells #[.int .i64 0, .int .i64 0, .int .i64 0, .int .i64 0] 37 (0, 0)) ∧ Below W.heap.size W ((w4.alloc (.cells #[.int .i64 0, .int .i64 0, .int .i64 0, .int .i64 0] 37)).setRow w4.heap.size row)) := by
      intro w2 w4 f row hb2 hb4
      have h1 := HLS.out
      have h2 := hb2.size
      have b3 : Below w2.heap.size w2 ((w2.alloc (.cells #[.int .i64 0, .int .u32 0, .int .u32 0, .int .u32 0, .int .u32 0, .int .u32 0, .int .u32 0, .int .u32 0, .int .u32 0, .int .u32 0, .int .u32 0, .int .u32 0, .int .u32 0, .int .u32 0, .int .u32 0, .int .u32 0, .int .u32 0, .int .u32 0, .int .u32 0, .int .u32 0, .int .u32 0, .int .u32 0, .int .u32 0, .int .u32 0, .int .u32 0] 47)).setRow w2.heap.size (gRow n f)) := bsetR (balloc w2 _) (Nat.le_refl _) _
      have b4 := Below.next b3 hb4
      have b5 : Below w4.heap.size w4 ((w4.alloc (.cells #[.int .i64 0, .int .i64 0, .int .i64 0, .int .i64 0] 37)).setRow w4.heap.size row) := bsetR (balloc w4 _) (Nat.le_refl _) _
      have b6 := Below.next (Below.next hb2 b4) b5
      exact ⟨(b6.block _ h1).trans HR1.out, Below.next HB1.out b6⟩
    have CO2 := CO.mono (HC18.out)
    clear CO G h0
    generalize gF n L = gg at *
    by_cases hst : ∃ k l m, StN n k l m (gx n L)
    · have CQ : Hid (∀ f w, (∀ a, a < n → f a = rbG n (gx n L) a) ∧ (∀ a, a < 24 → f a < 2 ^ 32) → Calls Tryd.prog 32 #[.agg (gRow n f)] w fun e w' => (∃ (P D N F : Int), e = .returned (.tuple #[.agg #[.int .i64 P, .int .i64 D, .int .i64 N, .int .i64 F], .bool true]) ∧ NuT n (gx n L) P D N F true) ∧ Below w.heap.size w w') := fun f w hf => (HC19.out f w hf).mono fun e w' ⟨⟨P, D, N, F, q, h1, h2⟩, hb⟩ => by
        obtain rfl : q = true := by
          rcases h2 with ⟨h2, _, h3⟩ | ⟨h2, _, _, _, _, h3⟩
          · exact h2
          · exact absurd hst h3
        exact ⟨⟨P, D, N, F, h1, h2⟩, hb⟩
      clear hst HC19
      go_enter Tryd.func14, Tryd.ntmps14
      go_wp2_with (first
        | (rw [hW1])
        | (refine wpList_store_row rfl 47 _ _ rfl w2.heap.size (gRow n f) rfl rfl 47 _ hz (inf45 _ _) (by rw [gRow_size]; rfl) (gRow_one _ _) ?_)
        | (refine wpList_load_row rfl 47 _ rfl w2.heap.size rfl 47 _ (0, 0) _ hg3 hu rfl (inf45 _ _) ?_)
        | (go_at_call 31; refine CO2.mono ?_; rintro e w2 ⟨f, rfl, Hf, hb2⟩; clear CO2; have hz := GrW.zero w2; have hg3 := hz.whole n f; have CN := CQ.out f ((w2.alloc (.cells #[.int .i64 0, .int .u32 0, .int .u32 0, .int .u32 0, .int .u32 0, .int .u32 0, .int .u32 0, .int .u32 0, .int .u32 0, .int .u32 0, .int .u32 0, .int .u32 0, .int .u32 0, .int .u32 0, .int .u32 0, .int .u32 0, .int .u32 0, .int .u32 0, .int .u32 0, .int .u32 0, .int .u32 0, .int .u32 0, .int .u32 0, .int .u32 0, .int .u32 0] 47)).setRow w2.heap.size (gRow n f)) Hf.out)
        | (go_at_call 32; refine CN.mono ?_; rintro e w4 ⟨⟨P, D, N, F, rfl, hNu⟩, hb4⟩; clear CN; have hz4 := heap_alloc_new w4 (.cells #[.int .i64 0, .int .i64 0, .int .i64 0, .int .i64 0] 37); have hg5 := setRow_heap _ _ _ #[.int .i64 P, .int .i64 D, .int .i64 N, .int .i64 F] _ _ hz4; have hr5 := (KR.out w2 w4 f #[.int .i64 P, .int .i64 D, .int .i64 N, .int .i64 F] hb2 hb4).1; have hb5 := (KR.out w2 w4 f #[.int .i64 P, .int .i64 D, .int .i64 N, .int .i64 F] hb2 hb4).2; have HNU : Hid (NuT n (gx n L) P D N F true) := hNu; clear hNu)
        | (refine wpList_store_row rfl 37 _ _ rfl w4.heap.size #[.int .i64 P, .int .i64 D, .int .i64 N, .int .i64 F] rfl rfl 37 _ hz4 (infSt _ _ _ _) rfl (str_one _ _ _ _) ?_)
        | (refine wpList_load_row rfl 37 _ rfl w4.heap.size rfl 37 _ (0, 0) _ hg5 Tryd.underlying37 rfl (infSt _ _ _ _) ?_)
        | (refine wpList_store_row rfl 37 _ _ rfl (W.heap.size + 1) #[.int .i64 P, .int .i64 D, .int .i64 N, .int .i64 F] rfl rfl 37 _ hr5 (infSt _ _ _ _) rfl (str_one _ _ _ _) ?_))
      exact post_st2 2 3 rfl rfl (setRow_heap _ _ _ _ _ _ hr5) rfl rfl ⟨⟨P, D, N, F, 0, rfl, HFIN.out P D N F true HNU.out⟩, bsetR hb5 (by omega) _⟩
    · have CQ : Hid (∀ f w, (∀ a, a < n → f a = rbG n (gx n L) a) ∧ (∀ a, a < 24 → f a < 2 ^ 32) → Calls Tryd.prog 32 #[.agg (gRow n f)] w fun e w' => (∃ (P D N F : Int), e = .returned (.tuple #[.agg #[.int .i64 P, .int .i64 D, .int .i64 N, .int .i64 F], .bool false]) ∧ NuT n (gx n L) P D N F false) ∧ Below w.heap.size w w') := fun f w hf => (HC19.out f w hf).mono fun e w' ⟨⟨P, D, N, F, q, h1, h2⟩, hb⟩ => by
        obtain rfl : q = false := by
          rcases h2 with ⟨h2, _, h3⟩ | ⟨h2, _, _, _, _, h3⟩
          · exact absurd ⟨_, _, _, h3⟩ hst
          · exact h2
        exact ⟨⟨P, D, N, F, h1, h2⟩, hb⟩
      clear hst HC19
      go_enter Tryd.func14, Tryd.ntmps14
      go_wp2_with (first
        | (rw [hW1])
        | (refine wpList_store_row rfl 47 _ _ rfl w2.heap.size (gRow n f) rfl rfl 47 _ hz (inf45 _ _) (by rw [gRow_size]; rfl) (gRow_one _ _) ?_)
        | (refine wpList_load_row rfl 47 _ rfl w2.heap.size rfl 47 _ (0, 0) _ hg3 hu rfl (inf45 _ _) ?_)
        | (go_at_call 31; refine CO2.mono ?_; rintro e w2 ⟨f, rfl, Hf, hb2⟩; clear CO2; have hz := GrW.zero w2; have hg3 := hz.whole n f; have CN := CQ.out f ((w2.alloc (.cells #[.int .i64 0, .int .u32 0, .int .u32 0, .int .u32 0, .int .u32 0, .int .u32 0, .int .u32 0, .int .u32 0, .int .u32 0, .int .u32 0, .int .u32 0, .int .u32 0, .int .u32 0, .int .u32 0, .int .u32 0, .int .u32 0, .int .u32 0, .int .u32 0, .int .u32 0, .int .u32 0, .int .u32 0, .int .u32 0, .int .u32 0, .int .u32 0, .int .u32 0] 47)).setRow w2.heap.size (gRow n f)) Hf.out)
        | (go_at_call 32; refine CN.mono ?_; rintro e w4 ⟨⟨P, D, N, F, rfl, hNu⟩, hb4⟩; clear CN; obtain ⟨rfl, rfl, rfl, rfl⟩ := HN0.out P D N F hNu; have hz4 := heap_alloc_new w4 (.cells #[.int .i64 0, .int .i64 0, .int .i64 0, .int .i64 0] 37); have hg5 := setRow_heap _ _ _ #[.int .i64 0, .int .i64 0, .int .i64 0, .int .i64 0] _ _ hz4; have hr5 := (KR.out w2 w4 f #[.int .i64 0, .int .i64 0, .int .i64 0, .int .i64 0] hb2 hb4).1; have hb5 := (KR.out w2 w4 f #[.int .i64 0, .int .i64 0, .int .i64 0, .int .i64 0] hb2 hb4).2; have HNU : Hid (NuT n (gx n L) 0 0 0 0 false) := hNu; clear hNu)
        | (refine wpList_store_row rfl 37 _ _ rfl w4.heap.size #[.int .i64 0, .int .i64 0, .int .i64 0, .int .i64 0] rfl rfl 37 _ hz4 (infSt _ _ _ _) rfl (str_one _ _ _ _) ?_)
        | (refine wpList_load_row rfl 37 _ rfl w4.heap.size rfl 37 _ (0, 0) _ hg5 Tryd.underlying37 rfl (infSt _ _ _ _) ?_)
        | (refine wpList_store_row rfl 37 _ _ rfl (W.heap.size + 1) #[.int .i64 0, .int .i64 0, .int .i64 0, .int .i64 0] rfl rfl 37 _ hr5 (infSt _ _ _ _) rfl (str_one _ _ _ _) ?_))
      exact post_st2 2 3 rfl rfl (setRow_heap _ _ _ _ _ _ hr5) rfl rfl ⟨⟨0, 0, 0, 0, 4, rfl, HFIN.out 0 0 0 0 false HNU.out⟩, bsetR hb5 (by omega) _⟩
  · have he : ((gF s L : Int) != 0) = true := by simp; omega
    have KR : Hid (∀ (w2 : World) (m : Int) (f : Nat → Nat), Below W1.heap.size W1 w2 → ((w2.alloc (.cells #[.int .i64 0, .int .u32 0, .int .u32 0, .int .u32 0, .int .u32 0, .int .u32 0, .int .u32 0, .int .u32 0, .int .u32 0, .int .u32 0, .int .u32 0, .int .u32 0, .int .u32 0, .int .u32 0, .int .u32 0, .int .u32 0, .int .u32 0, .int .u32 0, .int .u32 0, .int .u32 0, .int .u32 0, .int .u32 0, .int .u32 0, .int .u32 0, .int .u32 0] 47)).setRow w2.heap.size (gRow m f)).heap[W.heap.size + 1]? = some (.cells #[.int .i64 0, .int .i64 0, .int .i64 0, .int .i64 0] 37 (0, 0)) ∧ Below W.heap.size W ((w2.alloc (.cells #[.int .i64 0, .int .u32 0, .int .u32 0, .int .u32 0, .int .u32 0, .int .u32 0, .int .u32 0, .int .u32 0, .int .u32 0, .int .u32 0, .int .u32 0, .int .u32 0, .int .u32 0, .int .u32 0, .int .u32 0, .int .u32 0, .int .u32 0, .int .u32 0, .int .u32 0, .int .u32 0, .int .u32 0, .int .u32 0, .int .u32 0, .int .u32 0, .int .u32 0] 47)).setRow w2.heap.size (gRow m f))) := by
      intro w2 m f hb2
      have h1 := HLS.out
      have b3 : Below w2.heap.size w2 ((w2.alloc (.cells #[.int .i64 0, .int .u32 0, .int .u32 0, .int .u32 0, .int .u32 0, .int .u32 0, .int .u32 0, .int .u32 0, .int .u32 0, .int .u32 0, .int .u32 0, .int .u32 0, .int .u32 0, .int .u32 0, .int .u32 0, .int .u32 0, .int .u32 0, .int .u32 0, .int .u32 0, .int .u32 0, .int .u32 0, .int .u32 0, .int .u32 0, .int .u32 0, .int .u32 0] 47)).setRow w2.heap.size (gRow m f)) := bsetR (balloc w2 _) (Nat.le_refl _) _
      have b6 := Below.next hb2 b3
      exact ⟨(b6.block _ h1).trans HR1.out, Below.next HB1.out b6⟩
    have HFIN : Hid (NuR s L 0 0 0 0 (gF s L)) := .inl ⟨h0, rfl, rfl, rfl, rfl, rfl⟩
    clear h0
    go_enter Tryd.func14, Tryd.ntmps14
    go_wp2_with (first
      | (rw [hW1])
      | (refine wpList_store_row rfl 47 _ _ rfl w2.heap.size (gRow m f) rfl rfl 47 _ hz (inf45 _ _) (by rw [gRow_size]; rfl) (gRow_one _ _) ?_)
      | (go_at_call 31; refine CO.mono ?_; rintro e w2 ⟨⟨m, f, rfl, hO⟩, hb2⟩; clear CO; have hz := GrW.zero w2; have hr5 := (KR.out w2 m f hb2).1; have hb5 := (KR.out w2 m f hb2).2)
      | (refine wpList_store_row rfl 37 _ _ rfl (W.heap.size + 1) #[.int .i64 0, .int .i64 0, .int .i64 0, .int .i64 0] rfl rfl 37 _ hr5 (infSt _ _ _ _) rfl (str_one _ _ _ _) ?_))
    exact post_st2 2 3 rfl rfl (setRow_heap _ _ _ _ _ _ hr5) rfl rfl ⟨⟨0, 0, 0, 0, gF s L, rfl, HFIN.out⟩, bsetR hb5 (by omega) _⟩
end Go.Proofs.YtlmjlffipinjiaaDoor
