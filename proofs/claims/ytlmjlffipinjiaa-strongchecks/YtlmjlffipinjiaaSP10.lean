/- The walk of drawn. -/
import Derived.Test.YtlmjlffipinjiaaSP9
import Derived.Deep.RegionHeld3
namespace Go.Proofs.Ytlmjlffipinjiaa
open Go.RowKit Go.Shelf

attribute [local go_sem] Oper.semAt_some
theorem mk_info : ∃ i, Try.prog.info? 3 = some i ∧ i.zero = some (.int .i64 0) ∧ i.size = 1 ∧ i.bytes = 8 := by
  refine ⟨_, rfl, ?_, ?_, ?_⟩ <;> kernel_rfl
theorem mk_row (n : Nat) (hn : n ≤ 999) (w : World) : (Instr.makeSlice 22 (.int .i64 (n : Int)) (.int .i64 (n : Int))).run Try.prog w = .ok (.slice (some ⟨w.heap.size, 0, none⟩) n n) (w.alloc (.cells (madeCells #[.int .i64 0] n) 3)) := by
  obtain ⟨i3, hi, hz0, hz1, hz2⟩ := mk_info
  have h := run_make (P := Try.prog) w 22 3 i3 (.int .i64 0) Try.underlying22 hi hz0 .i64 .i64 n n (by omega) (by omega) (by rw [hz2]; omega) (by omega)
  simpa [hz1, Value.cells] using h
/-- A function that tells of two places whether they are joined. -/
def TelB (gf : Nat) (bd lb : Array Value) (N : Nat) (J : Nat → Nat → Bool) (w : World) : Prop := ∀ (a b : Nat) (W : World), a < b → b < N → Below w.heap.size w W → Calls Try.prog gf (bd ++ (#[.int .i64 (a : Int), .int .i64 (b : Int)] ++ lb)) W fun e w' => e = .returned (.bool (J a b)) ∧ Below W.heap.size W w'

structure DrP (w : World) (N : Nat) (fv : Value) (A : World) : Prop where
  bf : Boxed A w.heap.size 51 fv
  br : A.heap[w.heap.size + 1]? = some (.cells #[.int .i64 0, .slice none 0 0] 24 (0, 0))
  bs : Boxed A (w.heap.size + 1 + 1) 3 (.int .i64 (N : Int))
  sz : A.heap.size = w.heap.size + 3
  bw : Below w.heap.size w A
/-- What drawn keeps. -/
structure DrI (w : World) (N : Nat) (fv : Value) (go gs z : Nat) (F : Nat → Int) (A : World) : Prop where
  bf : Boxed A w.heap.size 51 fv
  br : A.heap[w.heap.size + 1]? = some (.cells #[.int .i64 0, .slice none 0 0] 24 (0, 0))
  bs : Boxed A (w.heap.size + 1 + 1) 3 (.int .i64 (N : Int))
  bo : A.heap[go]? = some (.cells #[.int .i64 (N : Int), .slice (some ⟨gs, 0, none⟩) z z] 24 (0, 0))
  ow : Own A gs z F
  l1 : w.heap.size + 3 ≤ go
  l2 : w.heap.size + 3 ≤ gs
  ne : go ≠ gs
  bw : Below w.heap.size w A
section
variable {w A B : World} {N go gs z : Nat} {fv : Value} {F : Nat → Int}
theorem DrI.mv (h : DrI w N fv go gs z F A) {n : Nat} (hb : Below n A B) (h1 : go < n) (h2 : gs < n) : DrI w N fv go gs z F B :=
  have q1 := h.l1
  have q2 := h.l2
  ⟨boxB h.bf hb (by omega), (hb.block _ (by omega)).trans h.br, boxB h.bs hb (by omega), (hb.block _ (by omega)).trans h.bo, (by obtain ⟨cur, k1, k2⟩ := h.ow; exact ⟨cur, (hb.block _ h2).trans k1, k2⟩), h.l1, h.l2, h.ne, h.bw.trans (hb.mono (by omega))⟩
theorem DrI.put (h : DrI w N fv go gs z F A) (j : Nat) (x : Int) : DrI w N fv go gs z (upd F j x) (A.setCell ⟨gs, j, none⟩ (.int .i64 x)) :=
  have q1 := h.l1
  have q2 := h.l2
  have k : ∀ b, b ≠ gs → (A.setCell ⟨gs, j, none⟩ (.int .i64 x)).heap[b]? = A.heap[b]? := fun b hb => heap_setCell_other A ⟨gs, j, none⟩ b _ hb
  ⟨(k _ (by omega)).trans h.bf, (k _ (by omega)).trans h.br, (k _ (by omega)).trans h.bs, (k _ h.ne).trans h.bo, h.ow.set j x, h.l1, h.l2, h.ne, h.bw.setCell (p := ⟨gs, j, none⟩) (by show _ ≤ gs; omega) _⟩
theorem DrI.congr {F' : Nat → Int} (h : DrI w N fv go gs z F A) (e : ∀ j, j < z → F j = F' j) : DrI w N fv go gs z F' A := ⟨h.bf, h.br, h.bs, h.bo, h.ow.congr e, h.l1, h.l2, h.ne, h.bw⟩
end
theorem made_own (w : World) (n : Nat) : Own (w.alloc (.cells (madeCells #[.int .i64 0] n) 3)) w.heap.size n (fun _ => 0) := by
  refine ⟨_, heap_alloc_new w _, fun j hj => ?_⟩
  rw [← Array.getElem?_toList, toList_madeCells_one]
  simp [hj]
theorem DrP.one {w V : World} {N z : Nat} {fv : Value} (h : DrP w N fv V) : DrI w N fv (w.heap.size + 3 + 1) (w.heap.size + 3) z (fun _ => 0) ((V.alloc (.cells (madeCells #[.int .i64 0] z) 3)).alloc (.cells #[.int .i64 (N : Int), .slice (some ⟨w.heap.size + 3, 0, none⟩) z z] 24)).drew := by
  have b : Below V.heap.size V (World.drew _) := Below.drew (Below.next (balloc V (.cells (madeCells #[.int .i64 0] z) 3)) (balloc _ (.cells #[.int .i64 (N : Int), .slice (some ⟨w.heap.size + 3, 0, none⟩) z z] 24)))
  have hs := h.sz
  have o := made_own V z
  have n := heap_alloc_new (V.alloc (.cells (madeCells #[.int .i64 0] z) 3)) (.cells #[.int .i64 (N : Int), .slice (some ⟨w.heap.size + 3, 0, none⟩) z z] 24)
  rw [World.size_alloc, hs] at n
  rw [hs] at o
  exact ⟨boxB h.bf b (by omega), (b.block _ (by omega)).trans h.br, boxB h.bs b (by omega), n, (o.below (balloc _ _)).drew, by omega, by omega, by omega, h.bw.trans (b.mono (by omega))⟩
theorem DrP.two {w V : World} {N z : Nat} {fv : Value} (h : DrP w N fv V) : DrI w N fv (w.heap.size + 3) (w.heap.size + 3 + 1) z (fun _ => 0) ((V.alloc (.cells #[.int .i64 (N : Int), .slice (some ⟨w.heap.size + 3 + 1, 0, none⟩) z z] 24)).alloc (.cells (madeCells #[.int .i64 0] z) 3)).drew := by
  have b : Below V.heap.size V (World.drew _) := Below.drew (Below.next (balloc V (.cells #[.int .i64 (N : Int), .slice (some ⟨w.heap.size + 3 + 1, 0, none⟩) z z] 24)) (balloc _ (.cells (madeCells #[.int .i64 0] z) 3)))
  have hs := h.sz
  have o := made_own (V.alloc (.cells #[.int .i64 (N : Int), .slice (some ⟨w.heap.size + 3 + 1, 0, none⟩) z z] 24)) z
  have n := heap_alloc_new V (.cells #[.int .i64 (N : Int), .slice (some ⟨w.heap.size + 3 + 1, 0, none⟩) z z] 24)
  rw [World.size_alloc, hs] at o
  rw [hs] at n
  exact ⟨boxB h.bf b (by omega), (b.block _ (by omega)).trans h.br, boxB h.bs b (by omega), (Below.heap_alloc _ _ _ (by rw [World.size_alloc]; omega)).trans n, o.drew, by omega, by omega, by omega, h.bw.trans (b.mono (by omega))⟩
set_option maxRecDepth 100000 in
set_option maxHeartbeats 8000000 in
theorem drawn_any (N gf : Nat) (bd lb : Array Value) (J : Nat → Nat → Bool) (w : World) (hN : N ≤ 24) (eg : ∀ args w, (callFunc gf args).run Try.prog w = .ok (.enter gf args) w) (hT : TelB gf bd lb N J w) :
    Calls Try.prog 20 #[.int .i64 (N : Int), .func (.func gf) bd lb] w fun e w' => (∃ g, e = .returned (.agg #[.int .i64 (N : Int), .slice (some ⟨g, 0, none⟩) (N * N) (N * N)]) ∧ Own w' g (N * N) (drF N J (prL N).length)) ∧ Below w.heap.size w w' := by
  refine (callsIn_wide (n := 9)).1 (callsIn_of_wp_marks Try.func20 rfl trivial (wpIn_wide.2 ?_) rfl)
  simp only [Try.ntmps20, List.size_toArray, List.length_cons, List.length_nil, Nat.reduceAdd, Nat.reduceSub, Array.replicate_succ, Array.replicate_zero, List.push_toArray, List.append_toArray, List.nil_append, List.cons_append]
  obtain ⟨z, Hz⟩ : ∃ z : Nat, Hid (z = N * N) := ⟨_, rfl⟩
  have hz99 : z ≤ 999 := by rw [Hz.out]; exact Nat.le_trans (Nat.mul_le_mul hN hN) (by decide)
  have hmul : (N : Int) * (N : Int) = (z : Int) := by rw [Hz.out]; simp
  have hmk := mk_row z hz99
  have hwz : IntKind.i64.wrap (z : Int) = (z : Int) := by rw [IntKind.wrap_i64]; omega
  rw [← Hz.out]
  go_wp2
  have S0 : (((((w.alloc (.cells #[.func (.func gf) bd lb] 51)).alloc (.cells #[.int .i64 0, .slice none 0 0] 24)).alloc (.cells #[.int .i64 (N : Int)] 3))).drew).cell? ⟨w.heap.size + 1 + 1, 0, none⟩ = some (.int .i64 (N : Int)) := by
    have h := Boxed.new ((w.alloc (.cells #[.func (.func gf) bd lb] 51)).alloc (.cells #[.int .i64 0, .slice none 0 0] 24)) 3 (.int .i64 (N : Int))
    rw [World.size_alloc, World.size_alloc] at h
    exact h.cell
  have hV : DrP w N (.func (.func gf) bd lb) (((w.alloc (.cells #[.func (.func gf) bd lb] 51)).alloc (.cells #[.int .i64 0, .slice none 0 0] 24)).alloc (.cells #[.int .i64 (N : Int)] 3)) := by
    have al : ∀ (W : World) (o : Obj) (k : Nat) (x : Obj), W.heap[k]? = some x → (W.alloc o).heap[k]? = some x := fun W o k x h => (Below.heap_alloc W o k (Array.getElem?_eq_some_iff.1 h).1).trans h
    have nw : ∀ (W : World) (cs : Array Value) (t : TypeId) (k : Nat), W.heap.size = k → (W.alloc (.cells cs t)).heap[k]? = some (.cells cs t (0, 0)) := fun W cs t k h => by subst h; exact heap_alloc_new W _
    refine ⟨?_, ?_, ?_, by simp, ?_⟩
    · exact al _ _ _ _ (al _ _ _ _ (Boxed.new w 51 _))
    · exact al _ _ _ _ (nw _ _ _ _ (by simp))
    · exact nw _ _ _ _ (by simp)
    · exact ((balloc w _).alloc (by simp) _).alloc (by simp; omega) _
  generalize ((w.alloc (.cells #[.func (.func gf) bd lb] 51)).alloc (.cells #[.int .i64 0, .slice none 0 0] 24)).alloc (.cells #[.int .i64 (N : Int)] 3) = V at *
  have hsV := hV.sz
  have HV : Hid (DrP w N (.func (.func gf) bd lb) V) := hV
  have k0 : V.cell? ⟨w.heap.size + 1 + 1, 0, none⟩ = some (.int .i64 (N : Int)) := S0
  have k1 : ∀ o, (V.alloc o).drew.cell? ⟨w.heap.size + 1 + 1, 0, none⟩ = some (.int .i64 (N : Int)) := fun o => ((balloc V o).cell (p := ⟨w.heap.size + 1 + 1, 0, none⟩) (by show w.heap.size + 1 + 1 < _; omega)).trans k0
  have k2 : ∀ o o', ((V.alloc o).alloc o').drew.cell? ⟨w.heap.size + 1 + 1, 0, none⟩ = some (.int .i64 (N : Int)) := fun o o' => ((Below.next (balloc V o) (balloc _ o')).cell (p := ⟨w.heap.size + 1 + 1, 0, none⟩) (by show w.heap.size + 1 + 1 < _; omega)).trans k0
  clear S0
  refine Code.wp_mono (Q := fun e a' w' => e = .normal ∧ ∃ go gs, a' = { tmps := #[.int .i64 (N : Int), .func (.func gf) bd lb, undef, .pointer (some ⟨w.heap.size, 0, none⟩), .pointer (some ⟨w.heap.size + 1, 0, none⟩), .pointer (some ⟨w.heap.size + 1 + 1, 0, none⟩), .pointer (some ⟨go, 0, none⟩), undef, undef, .int .i64 (N : Int), .int .i64 (N : Int), .int .i64 (N : Int), .int .i64 (N : Int), .int .i64 (z : Int), .slice (some ⟨gs, 0, none⟩) z z, .agg #[.int .i64 (N : Int), .slice (some ⟨gs, 0, none⟩) z z], undef, undef, undef, undef, undef, undef, undef, undef, undef, undef, undef, undef, undef, undef, undef, undef, undef, undef, undef, undef, undef, undef, undef, undef, undef], defers := [] } ∧ DrI w N (.func (.func gf) bd lb) go gs z (fun _ => 0) w') ?rest ?region
  case region =>
    go_region_held3 (fun w' => w'.cell? ⟨w.heap.size + 1 + 1, 0, none⟩ = some (.int .i64 (N : Int))) (first | assumption | exact k1 _ | exact k2 _ _ | go_keep) (fail)
    · exact ⟨rfl, _, _, rfl, HV.out.one⟩
    · exact ⟨rfl, _, _, rfl, HV.out.two⟩
  case rest =>
    clear k0 k1 k2 hV hmk hwz
    rintro e a' w' ⟨rfl, go, gs, rfl, hD⟩
    have HT : Hid (TelB gf bd lb N J w) := hT
    clear hT hsV HV
    have HD : Hid (DrI w N (.func (.func gf) bd lb) go gs z (fun _ => 0) w') := hD
    have hl1 : go < w'.heap.size := (Array.getElem?_eq_some_iff.1 hD.bo).1
    have hl2 : gs < w'.heap.size := hD.ow.lt
    go_wp2
    refine (wpIn_wide (n := 9)).1 (wpIn_pairs (N := N) (gf := 35) rfl (enters_of Try.func35 (by kernel_rfl) rfl) rfl (pairs_runs N _ (by omega))
      (fun i B => DrI w N (.func (.func gf) bd lb) go gs z (drF N J i) B) (fun _ => False)
      (fun i A B h hb => h.mv hb hl1 hl2) (fun A B h hb => h) (HD.out.congr fun j _ => (drF_zero N J j).symm)
      ?a1 ?assign ?body ?done ?stop)
    case assign =>
      intro l x W K _ hK
      unfold encP
      gi_wp2
      exact hK
    case body =>
      rintro i x B hx hI hlt2
      obtain ⟨p1, p2⟩ := prL_at' (by omega) hx
      have q1 := hI.bf.cell
      have q2 := hI.bs.cell
      have CJ := HT.out (x / 32) (x % 32) B p1 p2 hI.bw
      obtain ⟨s, Hs⟩ : ∃ s, Hid (J (x / 32) (x % 32) = s) := ⟨_, rfl⟩
      rw [Hs.out] at CJ
      have HI : Hid (DrI w N (.func (.func gf) bd lb) go gs z (drF N J i) B) := hI
      have HX : Hid ((prL N)[i]? = some x) := hx
      have HL2 : Hid (w'.heap.size + 1 < B.heap.size) := hlt2
      have HL1 : Hid (go < w'.heap.size ∧ gs < w'.heap.size) := ⟨hl1, hl2⟩
      obtain ⟨p, hp⟩ : ∃ p, x / 32 = p := ⟨_, rfl⟩
      obtain ⟨q, hq⟩ : ∃ q, x % 32 = q := ⟨_, rfl⟩
      have r1 : ((x : Int) / 32) = (p : Int) := by omega
      have r2 : ((x : Int) % 32) = (q : Int) := by omega
      rw [hp, hq] at CJ
      clear hx hI hlt2
      cases s with
      | false =>
        have HN : Hid (∀ j, drF N J (i + 1) j = drF N J i j) := fun j => drF_skip HX.out Hs.out j
        gi_wp2
        refine ⟨trivial, (callsIn_wide.2 CJ).mono ?_⟩
        rintro e A2 ⟨rfl, hA2⟩
        clear CJ
        gi_wp2
        have h1 := HL1.out
        have h2 := HL2.out
        exact ⟨⟨hA2.block _ (by omega), hA2.block _ (by omega)⟩, (HI.out.mv hA2 (by omega) (by omega)).congr fun j _ => (HN.out j).symm⟩
      | true =>
        have HN : Hid (∀ j, drF N J (i + 1) j = if j = x % 32 * N + x / 32 then 1 else if j = x / 32 * N + x % 32 then 1 else drF N J i j) := fun j => drF_put HX.out Hs.out j
        have z1 := cell_ltG (n := N) (r := x / 32) (c := x % 32) (by omega) p2
        have z2 := cell_ltG (n := N) (r := x % 32) (c := x / 32) p2 (by omega)
        rw [← Hz.out] at z1 z2
        obtain ⟨m1, hm1⟩ : ∃ m, p * N = m := ⟨_, rfl⟩
        obtain ⟨m2, hm2⟩ : ∃ m, q * N = m := ⟨_, rfl⟩
        rw [hp, hq, hm1, hm2] at HN
        rw [hp, hq, hm1] at z1
        rw [hp, hq, hm2] at z2
        rw [hp, hq] at p1
        rw [hq] at p2
        have e1 : (p : Int) * (N : Int) = (m1 : Int) := by rw [← hm1]; simp
        have e2 : (q : Int) * (N : Int) = (m2 : Int) := by rw [← hm2]; simp
        have HW : Hid (∀ (A2 : World), Below B.heap.size B A2 → DrI w N (.func (.func gf) bd lb) go gs z (drF N J i) A2) := fun A2 h => HI.out.mv h (by have := HL1.out; have := HL2.out; omega) (by have := HL1.out; have := HL2.out; omega)
        gi_wp2
        refine ⟨trivial, (callsIn_wide.2 CJ).mono ?_⟩
        rintro e A2 ⟨rfl, hA2⟩
        clear CJ
        have hD2 := HW.out A2 hA2
        have k1 := (row2 hD2.bo).2.1
        have k2 := hD2.bs.cell
        have k3 := hD2.ow.cell (m1 + q) (by omega)
        have k4 := hD2.ow.frozen (m1 + q)
        have hD3 := hD2.put (m1 + q) 1
        have k5 := (row2 hD3.bo).2.1
        have k6 := hD3.bs.cell
        have k7 := hD3.ow.cell (m2 + p) (by omega)
        have k8 := hD3.ow.frozen (m2 + p)
        gi_wp2
        have h1 := HL1.out
        have h2 := HL2.out
        have kk : ∀ b, b ≠ gs → ((A2.setCell ⟨gs, m1 + q, none⟩ (.int .i64 1)).setCell ⟨gs, m2 + p, none⟩ (.int .i64 1)).heap[b]? = A2.heap[b]? := fun b hb => (heap_setCell_other _ ⟨gs, m2 + p, none⟩ b _ hb).trans (heap_setCell_other A2 ⟨gs, m1 + q, none⟩ b _ hb)
        exact ⟨⟨(kk _ (by omega)).trans (hA2.block _ (by omega)), (kk _ (by omega)).trans (hA2.block _ (by omega))⟩, (hD3.put (m2 + p) 1).congr fun j _ => by rw [HN.out j]; rfl⟩
    case done =>
      rintro B hI hK
      have x0 := (row2 hI.bo).1
      have x1 := (row2 hI.bo).2.1
      obtain ⟨y0, y1, y2, y3⟩ := row2 hI.br
      have HI : Hid (DrI w N (.func (.func gf) bd lb) go gs z (drF N J (prL N).length) B) := hI
      have HK : Hid (B.heap[w'.heap.size]? = some (.deferred (some []))) := hK
      have HL1 : Hid (go < w'.heap.size ∧ gs < w'.heap.size) := ⟨hl1, hl2⟩
      clear hI hK
      go_wp2
      have h1 := HL1.out
      have g1 := HI.out.l1
      have g2 := HI.out.l2
      have hrow := put2_row HI.out.br (.int .i64 (N : Int)) (.slice (some ⟨gs, 0, none⟩) z z)
      have kk : ∀ b, b ≠ w.heap.size + 1 → ((B.setCell ⟨w.heap.size + 1, 0, none⟩ (.int .i64 (N : Int))).setCell ⟨w.heap.size + 1, 1, none⟩ (.slice (some ⟨gs, 0, none⟩) z z)).heap[b]? = B.heap[b]? := fun b hb => (heap_setCell_other _ ⟨w.heap.size + 1, 1, none⟩ b _ hb).trans (heap_setCell_other B ⟨w.heap.size + 1, 0, none⟩ b _ hb)
      have hb : Below w.heap.size w ((B.setCell ⟨w.heap.size + 1, 0, none⟩ (.int .i64 (N : Int))).setCell ⟨w.heap.size + 1, 1, none⟩ (.slice (some ⟨gs, 0, none⟩) z z)) := (HI.out.bw.setCell (p := ⟨w.heap.size + 1, 0, none⟩) (by show _ ≤ w.heap.size + 1; omega) _).setCell (p := ⟨w.heap.size + 1, 1, none⟩) (by show _ ≤ w.heap.size + 1; omega) _
      have hown : Own ((B.setCell ⟨w.heap.size + 1, 0, none⟩ (.int .i64 (N : Int))).setCell ⟨w.heap.size + 1, 1, none⟩ (.slice (some ⟨gs, 0, none⟩) z z)) gs z (drF N J (prL N).length) := (HI.out.ow.other ⟨w.heap.size + 1, 0, none⟩ _ (by show gs ≠ w.heap.size + 1; omega)).other ⟨w.heap.size + 1, 1, none⟩ _ (by show gs ≠ w.heap.size + 1; omega)
      have hK2 := (kk w'.heap.size (by omega)).trans HK.out
      generalize (B.setCell ⟨w.heap.size + 1, 0, none⟩ (.int .i64 (N : Int))).setCell ⟨w.heap.size + 1, 1, none⟩ (.slice (some ⟨gs, 0, none⟩) z z) = C at *
      refine ⟨by simp, .inl ⟨_, _, rfl, run_takeDeferred hK2, ?_⟩⟩
      have bP := bput (n := w'.heap.size) C (.deferred none) (l := w'.heap.size) (Nat.le_refl _)
      have hrow2 := (bP.block _ (by omega)).trans hrow
      have hown2 : Own (C.putObj w'.heap.size (.deferred none)) gs z (drF N J (prL N).length) := by
        obtain ⟨cur, q1, q2⟩ := hown
        exact ⟨cur, (bP.block _ h1.2).trans q1, q2⟩
      exact ⟨_, results_cell_row (P := Try.prog) (p := 4) (ty := 24) rfl _ _ (w.heap.size + 1) 24 _ (0, 0) _ rfl hrow2 Try.underlying24 rfl inf24, ⟨gs, rfl, hown2⟩, hb.trans (bP.mono (by omega))⟩
    case stop =>
      rintro B h
      exact h.elim
end Go.Proofs.Ytlmjlffipinjiaa
