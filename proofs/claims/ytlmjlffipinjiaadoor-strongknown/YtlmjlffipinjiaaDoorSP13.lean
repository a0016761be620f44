/- What Triangle tells. -/
import Derived.Test.YtlmjlffipinjiaaDoorSP8
import Derived.Deep.RegionHeld3
import Derived.Deep.QuietTactic
import Derived.Test.YtlmjlffipinjiaaDoorRXQ
import Derived.Maps.AppendAt
/- The walk of Triangle's pairs. -/
/- The walk of drawn. -/
namespace Go.Proofs.YtlmjlffipinjiaaDoor
open Go.RowKit Go.Shelf

attribute [local go_sem] Oper.semAt_some
theorem mk_info : ∃ i, Tryd.prog.info? 3 = some i ∧ i.zero = some (.int .i64 0) ∧ i.size = 1 ∧ i.bytes = 8 := by
  refine ⟨_, rfl, ?_, ?_, ?_⟩ <;> kernel_rfl
theorem mk_row (n : Nat) (hn : n ≤ 999) (w : World) : (Instr.makeSlice 22 (.int .i64 (n : Int)) (.int .i64 (n : Int))).run Tryd.prog w = .ok (.slice (some ⟨w.heap.size, 0, none⟩) n n) (w.alloc (.cells (madeCells #[.int .i64 0] n) 3)) := by
  obtain ⟨i3, hi, hz0, hz1, hz2⟩ := mk_info
  have h := run_make (P := Tryd.prog) w 22 3 i3 (.int .i64 0) Tryd.underlying22 hi hz0 .i64 .i64 n n (by omega) (by omega) (by rw [hz2]; omega) (by omega)
  simpa [hz1, Value.cells] using h
/-- A function that tells of two places whether they are joined. -/
def TelB (gf : Nat) (bd lb : Array Value) (N : Nat) (J : Nat → Nat → Bool) (w : World) : Prop := ∀ (a b : Nat) (W : World), a < b → b < N → Below w.heap.size w W → Calls Tryd.prog gf (bd ++ (#[.int .i64 (a : Int), .int .i64 (b : Int)] ++ lb)) W fun e w' => e = .returned (.bool (J a b)) ∧ Below W.heap.size W w'

structure DrP (w : World) (N : Nat) (fv : Value) (A : World) : Prop where
  bf : Boxed A w.heap.size 52 fv
  br : A.heap[w.heap.size + 1]? = some (.cells #[.int .i64 0, .slice none 0 0] 26 (0, 0))
  bs : Boxed A (w.heap.size + 1 + 1) 3 (.int .i64 (N : Int))
  sz : A.heap.size = w.heap.size + 3
  bw : Below w.heap.size w A
/-- What drawn keeps. -/
structure DrI (w : World) (N : Nat) (fv : Value) (go gs z : Nat) (F : Nat → Int) (A : World) : Prop where
  bf : Boxed A w.heap.size 52 fv
  br : A.heap[w.heap.size + 1]? = some (.cells #[.int .i64 0, .slice none 0 0] 26 (0, 0))
  bs : Boxed A (w.heap.size + 1 + 1) 3 (.int .i64 (N : Int))
  bo : A.heap[go]? = some (.cells #[.int .i64 (N : Int), .slice (some ⟨gs, 0, none⟩) z z] 26 (0, 0))
  ow : Own A gs z F
  l1 : w.heap.size + 3 ≤ go
  l2 : w.heap.size + 3 ≤ gs
  ne : go ≠ gs
  bw : Below w.heap.size w A
section
variable {w A B : World} {N go gs z : Nat} {fv : Value} {F : Nat → Int}
theorem DrI.mv (h : DrI w N fv go gs z F A) {n : Nat} (hb : Below n A B) (h1 : go < n) (h2 : gs < n) : DrI w N fv go gs z F B :=
  have q1 := h.l1
  have q2 := h.l2
  ⟨boxB h.bf hb (by omega), (hb.block _ (by omega)).trans h.br, boxB h.bs hb (by omega), (hb.block _ (by omega)).trans h.bo, (by obtain ⟨cur, k1, k2⟩ := h.ow; exact ⟨cur, (hb.block _ h2).trans k1, k2⟩), h.l1, h.l2, h.ne, h.bw.trans (hb.mono (by omega))⟩
theorem DrI.put (h : DrI w N fv go gs z F A) (j : Nat) (x : Int) : DrI w N fv go gs z (upd F j x) (A.setCell ⟨gs, j, none⟩ (.int .i64 x)) :=
  have q1 := h.l1
  have q2 := h.l2
  have k : ∀ b, b ≠ gs → (A.setCell ⟨gs, j, none⟩ (.int .i64 x)).heap[b]? = A.heap[b]? := fun b hb => heap_setCell_other A ⟨gs, j, none⟩ b _ hb
  ⟨(k _ (by omega)).trans h.bf, (k _ (by omega)).trans h.br, (k _ (by omega)).trans h.bs, (k _ h.ne).trans h.bo, h.ow.set j x, h.l1, h.l2, h.ne, h.bw.setCell (p := ⟨gs, j, none⟩) (by show _ ≤ gs; omega) _⟩
theorem DrI.congr {F' : Nat → Int} (h : DrI w N fv go gs z F A) (e : ∀ j, j < z → F j = F' j) : DrI w N fv go gs z F' A := ⟨h.bf, h.br, h.bs, h.bo, h.ow.congr e, h.l1, h.l2, h.ne, h.bw⟩
end
theorem made_own (w : World) (n : Nat) : Own (w.alloc (.cells (madeCells #[.int .i64 0] n) 3)) w.heap.size n (fun _ => 0) := by
  refine ⟨_, heap_alloc_new w _, fun j hj => ?_⟩
  rw [← Array.getElem?_toList, toList_madeCells_one]
  simp [hj]
theorem DrP.one {w V : World} {N z : Nat} {fv : Value} (h : DrP w N fv V) : DrI w N fv (w.heap.size + 3 + 1) (w.heap.size + 3) z (fun _ => 0) ((V.alloc (.cells (madeCells #[.int .i64 0] z) 3)).alloc (.cells #[.int .i64 (N : Int), .slice (some ⟨w.heap.size + 3, 0, none⟩) z z] 26)).drew := by
  have b : Below V.heap.size V (World.drew _) := Below.drew (Below.next (balloc V (.cells (madeCells #[.int .i64 0] z) 3)) (balloc _ (.cells #[.int .i64 (N : Int), .slice (some ⟨w.heap.size + 3, 0, none⟩) z z] 26)))
  have hs := h.sz
  have o := made_own V z
  have n := heap_alloc_new (V.alloc (.cells (madeCells #[.int .i64 0] z) 3)) (.cells #[.int .i64 (N : Int), .slice (some ⟨w.heap.size + 3, 0, none⟩) z z] 26)
  rw [World.size_alloc, hs] at n
  rw [hs] at o
  exact ⟨boxB h.bf b (by omega), (b.block _ (by omega)).trans h.br, boxB h.bs b (by omega), n, (o.below (balloc _ _)).drew, by omega, by omega, by omega, h.bw.trans (b.mono (by omega))⟩
theorem DrP.two {w V : World} {N z : Nat} {fv : Value} (h : DrP w N fv V) : DrI w N fv (w.heap.size + 3) (w.heap.size + 3 + 1) z (fun _ => 0) ((V.alloc (.cells #[.int .i64 (N : Int), .slice (some ⟨w.heap.size + 3 + 1, 0, none⟩) z z] 26)).alloc (.cells (madeCells #[.int .i64 0] z) 3)).drew := by
  have b : Below V.heap.size V (World.drew _) := Below.drew (Below.next (balloc V (.cells #[.int .i64 (N : Int), .slice (some ⟨w.heap.size + 3 + 1, 0, none⟩) z z] 26)) (balloc _ (.cells (madeCells #[.int .i64 0] z) 3)))
  have hs := h.sz
  have o := made_own (V.alloc (.cells #[.int .i64 (N : Int), .slice (some ⟨w.heap.size + 3 + 1, 0, none⟩) z z] 26)) z
  have n := heap_alloc_new V (.cells #[.int .i64 (N : Int), .slice (some ⟨w.heap.size + 3 + 1, 0, none⟩) z z] 26)
  rw [World.size_alloc, hs] at o
  rw [hs] at n
  exact ⟨boxB h.bf b (by omega), (b.block _ (by omega)).trans h.br, boxB h.bs b (by omega), (Below.heap_alloc _ _ _ (by rw [World.size_alloc]; omega)).trans n, o.drew, by omega, by omega, by omega, h.bw.trans (b.mono (by omega))⟩
set_option maxRecDepth 100000 in
set_option maxHeartbeats 8000000 in
theorem drawn_any (N gf : Nat) (bd lb : Array Value) (J : Nat → Nat → Bool) (w : World) (hN : N ≤ 24) (eg : ∀ args w, (callFunc gf args).run Tryd.prog w = .ok (.enter gf args) w) (hT : TelB gf bd lb N J w) :
    Calls Tryd.prog 19 #[.int .i64 (N : Int), .func (.func gf) bd lb] w fun e w' => (∃ g, e = .returned (.agg #[.int .i64 (N : Int), .slice (some ⟨g, 0, none⟩) (N * N) (N * N)]) ∧ Own w' g (N * N) (drF N J (prL N).length)) ∧ Below w.heap.size w w' := by
  refine (callsIn_wide (n := 9)).1 (callsIn_of_wp_marks Tryd.func19 rfl trivial (wpIn_wide.2 ?_) rfl)
  simp only [Tryd.ntmps19, List.size_toArray, List.length_cons, List.length_nil, Nat.reduceAdd, Nat.reduceSub, Array.replicate_succ, Array.replicate_zero, List.push_toArray, List.append_toArray, List.nil_append, List.cons_append]
  obtain ⟨z, Hz⟩ : ∃ z : Nat, Hid (z = N * N) := ⟨_, rfl⟩
  have hz99 : z ≤ 999 := by rw [Hz.out]; exact Nat.le_trans (Nat.mul_le_mul hN hN) (by decide)
  have hmul : (N : Int) * (N : Int) = (z : Int) := by rw [Hz.out]; simp
  have hmk := mk_row z hz99
  have hwz : IntKind.i64.wrap (z : Int) = (z : Int) := by rw [IntKind.wrap_i64]; omega
  rw [← Hz.out]
  go_wp2
  have S0 : (((((w.alloc (.cells #[.func (.func gf) bd lb] 52)).alloc (.cells #[.int .i64 0, .slice none 0 0] 26)).alloc (.cells #[.int .i64 (N : Int)] 3))).drew).cell? ⟨w.heap.size + 1 + 1, 0, none⟩ = some (.int .i64 (N : Int)) := by
    have h := Boxed.new ((w.alloc (.cells #[.func (.func gf) bd lb] 52)).alloc (.cells #[.int .i64 0, .slice none 0 0] 26)) 3 (.int .i64 (N : Int))
    rw [World.size_alloc, World.size_alloc] at h
    exact h.cell
  have hV : DrP w N (.func (.func gf) bd lb) (((w.alloc (.cells #[.func (.func gf) bd lb] 52)).alloc (.cells #[.int .i64 0, .slice none 0 0] 26)).alloc (.cells #[.int .i64 (N : Int)] 3)) := by
    have al : ∀ (W : World) (o : Obj) (k : Nat) (x : Obj), W.heap[k]? = some x → (W.alloc o).heap[k]? = some x := fun W o k x h => (Below.heap_alloc W o k (Array.getElem?_eq_some_iff.1 h).1).trans h
    have nw : ∀ (W : World) (cs : Array Value) (t : TypeId) (k : Nat), W.heap.size = k → (W.alloc (.cells cs t)).heap[k]? = some (.cells cs t (0, 0)) := fun W cs t k h => by subst h; exact heap_alloc_new W _
    refine ⟨?_, ?_, ?_, by simp, ?_⟩
    · exact al _ _ _ _ (al _ _ _ _ (Boxed.new w 52 _))
    · exact al _ _ _ _ (nw _ _ _ _ (by simp))
    · exact nw _ _ _ _ (by simp)
    · exact ((balloc w _).alloc (by simp) _).alloc (by simp; omega) _
  generalize ((w.alloc (.cells #[.func (.func gf) bd lb] 52)).alloc (.cells #[.int .i64 0, .slice none 0 0] 26)).alloc (.cells #[.int .i64 (N : Int)] 3) = V at *
  have hsV := hV.sz
  have HV : Hid (DrP w N (.func (.func gf) bd lb) V) := hV
  have k0 : V.cell? ⟨w.heap.size + 1 + 1, 0, none⟩ = some (.int .i64 (N : Int)) := S0
  have k1 : ∀ o, (V.alloc o).drew.cell? ⟨w.heap.size + 1 + 1, 0, none⟩ = some (.int .i64 (N : Int)) := fun o => ((balloc V o).cell (p := ⟨w.heap.size + 1 + 1, 0, none⟩) (by show w.heap.size + 1 + 1 < _; omega)).trans k0
  have k2 : ∀ o o', ((V.alloc o).alloc o').drew.cell? ⟨w.heap.size + 1 + 1, 0, none⟩ = some (.int .i64 (N : Int)) := fun o o' => ((Below.next (balloc V o) (balloc _ o')).cell (p := ⟨w.heap.size + 1 + 1, 0, none⟩) (by show w.heap.size + 1 + 1 < _; omega)).trans k0
  clear S0
  refine Code.wp_mono (Q := fun e a' w' => e = .normal ∧ ∃ go gs, a' = { tmps := #[.int .i64 (N : Int), .func (.func gf) bd lb, undef, .pointer (some ⟨w.heap.size, 0, none⟩), .pointer (some ⟨w.heap.size + 1, 0, none⟩), .pointer (some ⟨w.heap.size + 1 + 1, 0, none⟩), .pointer (some ⟨go, 0, none⟩), undef, undef, .int .i64 (N : Int), .int .i64 (N : Int), .int .i64 (N : Int), .int .i64 (N : Int), .int .i64 (z : Int), .slice (some ⟨gs, 0, none⟩) z z, .agg #[.int .i64 (N : Int), .slice (some ⟨gs, 0, none⟩) z z], undef, undef, undef, undef, undef, undef, undef, undef, undef, undef, undef, undef, undef, undef, undef, undef, undef, undef, undef, undef, undef, undef, undef, undef, undef], defers := [] } ∧ DrI w N (.func (.func gf) bd lb) go gs z (fun _ => 0) w') ?rest ?region
  case region =>
    go_region_held3 (fun w' => w'.cell? ⟨w.heap.size + 1 + 1, 0, none⟩ = some (.int .i64 (N : Int))) (first | assumption | exact k1 _ | exact k2 _ _ | go_keep) (fail)
    · exact ⟨rfl, _, _, rfl, HV.out.one⟩
    · exact ⟨rfl, _, _, rfl, HV.out.two⟩
  case rest =>
    clear k0 k1 k2 hV hmk hwz
    rintro e a' w' ⟨rfl, go, gs, rfl, hD⟩
    have HT : Hid (TelB gf bd lb N J w) := hT
    clear hT hsV HV
    have HD : Hid (DrI w N (.func (.func gf) bd lb) go gs z (fun _ => 0) w') := hD
    have hl1 : go < w'.heap.size := (Array.getElem?_eq_some_iff.1 hD.bo).1
    have hl2 : gs < w'.heap.size := hD.ow.lt
    go_wp2
    refine (wpIn_wide (n := 9)).1 (wpIn_pairs (N := N) (gf := 26) rfl (enters_of Tryd.func26 (by kernel_rfl) rfl) rfl (pairs_runs N _ (by omega))
      (fun i B => DrI w N (.func (.func gf) bd lb) go gs z (drF N J i) B) (fun _ => False)
      (fun i A B h hb => h.mv hb hl1 hl2) (fun A B h hb => h) (HD.out.congr fun j _ => (drF_zero N J j).symm)
      ?a1 ?assign ?body ?done ?stop)
    case assign =>
      intro l x W K _ hK
      unfold encP
      gi_wp2
      exact hK
    case body =>
      rintro i x B hx hI hlt2
      obtain ⟨p1, p2⟩ := prL_at' (by omega) hx
      have q1 := hI.bf.cell
      have q2 := hI.bs.cell
      have CJ := HT.out (x / 32) (x % 32) B p1 p2 hI.bw
      obtain ⟨s, Hs⟩ : ∃ s, Hid (J (x / 32) (x % 32) = s) := ⟨_, rfl⟩
      rw [Hs.out] at CJ
      have HI : Hid (DrI w N (.func (.func gf) bd lb) go gs z (drF N J i) B) := hI
      have HX : Hid ((prL N)[i]? = some x) := hx
      have HL2 : Hid (w'.heap.size + 1 < B.heap.size) := hlt2
      have HL1 : Hid (go < w'.heap.size ∧ gs < w'.heap.size) := ⟨hl1, hl2⟩
      obtain ⟨p, hp⟩ : ∃ p, x / 32 = p := ⟨_, rfl⟩
      obtain ⟨q, hq⟩ : ∃ q, x % 32 = q := ⟨_, rfl⟩
      have r1 : ((x : Int) / 32) = (p : Int) := by omega
      have r2 : ((x : Int) % 32) = (q : Int) := by omega
      rw [hp, hq] at CJ
      clear hx hI hlt2
      cases s with
      | false =>
        have HN : Hid (∀ j, drF N J (i + 1) j = drF N J i j) := fun j => drF_skip HX.out Hs.out j
        gi_wp2
        refine ⟨trivial, (callsIn_wide.2 CJ).mono ?_⟩
        rintro e A2 ⟨rfl, hA2⟩
        clear CJ
        gi_wp2
        have h1 := HL1.out
        have h2 := HL2.out
        exact ⟨⟨hA2.block _ (by omega), hA2.block _ (by omega)⟩, (HI.out.mv hA2 (by omega) (by omega)).congr fun j _ => (HN.out j).symm⟩
      | true =>
        have HN : Hid (∀ j, drF N J (i + 1) j = if j = x % 32 * N + x / 32 then 1 else if j = x / 32 * N + x % 32 then 1 else drF N J i j) := fun j => drF_put HX.out Hs.out j
        have z1 := cell_ltG (n := N) (r := x / 32) (c := x % 32) (by omega) p2
        have z2 := cell_ltG (n := N) (r := x % 32) (c := x / 32) p2 (by omega)
        rw [← Hz.out] at z1 z2
        obtain ⟨m1, hm1⟩ : ∃ m, p * N = m := ⟨_, rfl⟩
        obtain ⟨m2, hm2⟩ : ∃ m, q * N = m := ⟨_, rfl⟩
        rw [hp, hq, hm1, hm2] at HN
        rw [hp, hq, hm1] at z1
        rw [hp, hq, hm2] at z2
        rw [hp, hq] at p1
        rw [hq] at p2
        have e1 : (p : Int) * (N : Int) = (m1 : Int) := by rw [← hm1]; simp
        have e2 : (q : Int) * (N : Int) = (m2 : Int) := by rw [← hm2]; simp
        have HW : Hid (∀ (A2 : World), Below B.heap.size B A2 → DrI w N (.func (.func gf) bd lb) go gs z (drF N J i) A2) := fun A2 h => HI.out.mv h (by have := HL1.out; have := HL2.out; omega) (by have := HL1.out; have := HL2.out; omega)
        gi_wp2
        refine ⟨trivial, (callsIn_wide.2 CJ).mono ?_⟩
        rintro e A2 ⟨rfl, hA2⟩
        clear CJ
        have hD2 := HW.out A2 hA2
        have k1 := (row2 hD2.bo).2.1
        have k2 := hD2.bs.cell
        have k3 := hD2.ow.cell (m1 + q) (by omega)
        have k4 := hD2.ow.frozen (m1 + q)
        have hD3 := hD2.put (m1 + q) 1
        have k5 := (row2 hD3.bo).2.1
        have k6 := hD3.bs.cell
        have k7 := hD3.ow.cell (m2 + p) (by omega)
        have k8 := hD3.ow.frozen (m2 + p)
        gi_wp2
        have h1 := HL1.out
        have h2 := HL2.out
        have kk : ∀ b, b ≠ gs → ((A2.setCell ⟨gs, m1 + q, none⟩ (.int .i64 1)).setCell ⟨gs, m2 + p, none⟩ (.int .i64 1)).heap[b]? = A2.heap[b]? := fun b hb => (heap_setCell_other _ ⟨gs, m2 + p, none⟩ b _ hb).trans (heap_setCell_other A2 ⟨gs, m1 + q, none⟩ b _ hb)
        exact ⟨⟨(kk _ (by omega)).trans (hA2.block _ (by omega)), (kk _ (by omega)).trans (hA2.block _ (by omega))⟩, (hD3.put (m2 + p) 1).congr fun j _ => by rw [HN.out j]; rfl⟩
    case done =>
      rintro B hI hK
      have x0 := (row2 hI.bo).1
      have x1 := (row2 hI.bo).2.1
      obtain ⟨y0, y1, y2, y3⟩ := row2 hI.br
      have HI : Hid (DrI w N (.func (.func gf) bd lb) go gs z (drF N J (prL N).length) B) := hI
      have HK : Hid (B.heap[w'.heap.size]? = some (.deferred (some []))) := hK
      have HL1 : Hid (go < w'.heap.size ∧ gs < w'.heap.size) := ⟨hl1, hl2⟩
      clear hI hK
      go_wp2
      have h1 := HL1.out
      have g1 := HI.out.l1
      have g2 := HI.out.l2
      have hrow := put2_row HI.out.br (.int .i64 (N : Int)) (.slice (some ⟨gs, 0, none⟩) z z)
      have kk : ∀ b, b ≠ w.heap.size + 1 → ((B.setCell ⟨w.heap.size + 1, 0, none⟩ (.int .i64 (N : Int))).setCell ⟨w.heap.size + 1, 1, none⟩ (.slice (some ⟨gs, 0, none⟩) z z)).heap[b]? = B.heap[b]? := fun b hb => (heap_setCell_other _ ⟨w.heap.size + 1, 1, none⟩ b _ hb).trans (heap_setCell_other B ⟨w.heap.size + 1, 0, none⟩ b _ hb)
      have hb : Below w.heap.size w ((B.setCell ⟨w.heap.size + 1, 0, none⟩ (.int .i64 (N : Int))).setCell ⟨w.heap.size + 1, 1, none⟩ (.slice (some ⟨gs, 0, none⟩) z z)) := (HI.out.bw.setCell (p := ⟨w.heap.size + 1, 0, none⟩) (by show _ ≤ w.heap.size + 1; omega) _).setCell (p := ⟨w.heap.size + 1, 1, none⟩) (by show _ ≤ w.heap.size + 1; omega) _
      have hown : Own ((B.setCell ⟨w.heap.size + 1, 0, none⟩ (.int .i64 (N : Int))).setCell ⟨w.heap.size + 1, 1, none⟩ (.slice (some ⟨gs, 0, none⟩) z z)) gs z (drF N J (prL N).length) := (HI.out.ow.other ⟨w.heap.size + 1, 0, none⟩ _ (by show gs ≠ w.heap.size + 1; omega)).other ⟨w.heap.size + 1, 1, none⟩ _ (by show gs ≠ w.heap.size + 1; omega)
      have hK2 := (kk w'.heap.size (by omega)).trans HK.out
      generalize (B.setCell ⟨w.heap.size + 1, 0, none⟩ (.int .i64 (N : Int))).setCell ⟨w.heap.size + 1, 1, none⟩ (.slice (some ⟨gs, 0, none⟩) z z) = C at *
      refine ⟨by simp, .inl ⟨_, _, rfl, run_takeDeferred hK2, ?_⟩⟩
      have bP := bput (n := w'.heap.size) C (.deferred none) (l := w'.heap.size) (Nat.le_refl _)
      have hrow2 := (bP.block _ (by omega)).trans hrow
      have hown2 : Own (C.putObj w'.heap.size (.deferred none)) gs z (drF N J (prL N).length) := by
        obtain ⟨cur, q1, q2⟩ := hown
        exact ⟨cur, (bP.block _ h1.2).trans q1, q2⟩
      exact ⟨_, results_cell_row (P := Tryd.prog) (p := 4) (ty := 26) rfl _ _ (w.heap.size + 1) 26 _ (0, 0) _ rfl hrow2 Tryd.underlying26 rfl inf24, ⟨gs, rfl, hown2⟩, hb.trans (bP.mono (by omega))⟩
    case stop =>
      rintro B h
      exact h.elim
end Go.Proofs.YtlmjlffipinjiaaDoor

/- What Other tells. -/
namespace Go.Proofs.YtlmjlffipinjiaaDoor
open Go.RowKit Go.Shelf

theorem ownS_of {w : World} {g n : Nat} {l : List Int} {F : Nat → Int} (hl : l.length = n) (h : Own w g n F) (e : ∀ j, j < n → F j = l.getD j 0) : OwnS w (.slice (some ⟨g, 0, none⟩) n n) l := by
  subst hl
  exact .inr ⟨g, l.length, rfl, h.congr e⟩
theorem rng_get (z : Nat) (f : Nat → Int) {j : Nat} (hj : j < z) : ((List.range z).map f).getD j 0 = f j := by simp [hj]
end Go.Proofs.YtlmjlffipinjiaaDoor

namespace Go.Proofs.YtlmjlffipinjiaaDoor
open Go.RowKit Go.Shelf

attribute [local go_sem] Oper.semAt_some
def shB (x y : Nat) : Bool := x / 32 == y / 32 || x / 32 == y % 32 || x % 32 == y / 32 || x % 32 == y % 32
def shL (n a b : Nat) : Bool := shB ((prL n).getD a 0) ((prL n).getD b 0)
theorem tr_len : ∀ n : Fin 8, tN n.val = (prL n.val).length ∧ (prL n.val).length ≤ 21 := by decide +kernel
theorem tr_sh : ∀ n : Fin 8, ∀ a b : Fin 21, a.val < b.val → b.val < (prL n.val).length → trG n.val a.val b.val = if shL n.val a.val b.val then 1 else 0 := by decide +kernel
/-- Pairs as cells. -/
def vPr (l : List Nat) : List Value := l.flatMap fun x => [.int .i64 ((x / 32 : Nat) : Int), .int .i64 ((x % 32 : Nat) : Int)]
theorem vPr_len (l : List Nat) : (vPr l).length = l.length * 2 := by
  induction l with
  | nil => rfl
  | cons x l ih =>
    have e : vPr (x :: l) = [.int .i64 ((x / 32 : Nat) : Int), .int .i64 ((x % 32 : Nat) : Int)] ++ vPr l := by simp [vPr]
    rw [e, List.length_append, ih, List.length_cons, List.length_cons, List.length_cons, List.length_nil]
    omega
theorem vPr_snoc (l : List Nat) (x : Nat) : vPr (l ++ [x]) = vPr l ++ [.int .i64 ((x / 32 : Nat) : Int), .int .i64 ((x % 32 : Nat) : Int)] := by simp [vPr]
theorem vPr_at : ∀ (l : List Nat) (j : Nat), j < l.length → (vPr l)[j * 2]? = some (.int .i64 ((l.getD j 0 / 32 : Nat) : Int)) ∧ (vPr l)[j * 2 + 1]? = some (.int .i64 ((l.getD j 0 % 32 : Nat) : Int))
  | x :: l, 0, _ => by simp [vPr]
  | x :: l, j + 1, h => by
    have := vPr_at l j (by simpa using h)
    rw [show (j + 1) * 2 = j * 2 + 2 by omega]
    simpa [vPr, List.flatMap_cons] using this
theorem info66 : ∃ i, Tryd.prog.info? 58 = some i ∧ i.zero = some (.agg #[.int .i64 0, .int .i64 0]) ∧ i.size = 2 ∧ i.bytes = 16 := by
  refine ⟨_, rfl, ?_, ?_, ?_⟩ <;> kernel_rfl
/-- The pairs' list as it is read: cells, and its box. -/
def PrW (w : World) (gb : Nat) (l : List Nat) : Prop := ∃ (g cap : Nat), Boxed w gb 56 (.slice (some ⟨g, 0, none⟩) l.length cap) ∧ g < w.heap.size ∧ ∀ j, j < l.length → w.cell? ⟨g, j * 2, none⟩ = some (.int .i64 ((l.getD j 0 / 32 : Nat) : Int)) ∧ w.cell? ⟨g, j * 2 + 1, none⟩ = some (.int .i64 ((l.getD j 0 % 32 : Nat) : Int))
theorem PrW.below {w w' : World} {gb : Nat} {l : List Nat} (h : PrW w gb l) (hb : Below w.heap.size w w') : PrW w' gb l := by
  obtain ⟨g, cap, h1, h2, h3⟩ := h
  exact ⟨g, cap, boxB h1 hb h1.lt, Nat.lt_of_lt_of_le h2 hb.size, fun j hj => ⟨(hb.cell (p := ⟨g, j * 2, none⟩) h2).trans (h3 j hj).1, (hb.cell (p := ⟨g, j * 2 + 1, none⟩) h2).trans (h3 j hj).2⟩⟩

theorem two_al (w : World) (x0 x1 y0 y1 : Value) : ((w.alloc (.cells #[x0, x1] 58)).alloc (.cells #[y0, y1] 58)).drew.cell? ⟨w.heap.size, 0, none⟩ = some x0 ∧ ((w.alloc (.cells #[x0, x1] 58)).alloc (.cells #[y0, y1] 58)).drew.cell? ⟨w.heap.size, 1, none⟩ = some x1 ∧ ((w.alloc (.cells #[x0, x1] 58)).alloc (.cells #[y0, y1] 58)).drew.cell? ⟨w.heap.size + 1, 0, none⟩ = some y0 ∧ ((w.alloc (.cells #[x0, x1] 58)).alloc (.cells #[y0, y1] 58)).drew.cell? ⟨w.heap.size + 1, 1, none⟩ = some y1 ∧ Below w.heap.size w ((w.alloc (.cells #[x0, x1] 58)).alloc (.cells #[y0, y1] 58)).drew := by
  have h1 := row2 ((Below.heap_alloc (w.alloc (.cells #[x0, x1] 58)) (.cells #[y0, y1] 58) w.heap.size (by simp)).trans (heap_alloc_new w (.cells #[x0, x1] 58)))
  have h2 := heap_alloc_new (w.alloc (.cells #[x0, x1] 58)) (.cells #[y0, y1] 58)
  rw [World.size_alloc] at h2
  have h2 := row2 h2
  exact ⟨h1.1, h1.2.1, h2.1, h2.2.1, (Below.next (balloc w _) (balloc _ _)).drew⟩
set_option maxRecDepth 100000 in
set_option maxHeartbeats 8000000 in
theorem tri1_any (l : List Nat) (gb a b : Nat) (w : World) (hP : PrW w gb l) (ha : a < l.length) (hb : b < l.length) (_hl : l.length ≤ 99) :
    Calls Tryd.prog 27 #[.int .i64 (a : Int), .int .i64 (b : Int), .pointer (some ⟨gb, 0, none⟩)] w fun e w' => e = .returned (.bool (shB (l.getD a 0) (l.getD b 0))) ∧ Below w.heap.size w w' := by
  obtain ⟨g, cap, h1, h2, h3⟩ := hP
  have hgb := h1.lt
  have c0 := h1.cell
  obtain ⟨c1, c2⟩ := h3 a ha
  obtain ⟨c3, c4⟩ := h3 b hb
  obtain ⟨p, hp⟩ : ∃ p, l.getD a 0 / 32 = p := ⟨_, rfl⟩
  obtain ⟨q, hq⟩ : ∃ p, l.getD a 0 % 32 = p := ⟨_, rfl⟩
  obtain ⟨r, hr⟩ : ∃ p, l.getD b 0 / 32 = p := ⟨_, rfl⟩
  obtain ⟨s, hs⟩ : ∃ p, l.getD b 0 % 32 = p := ⟨_, rfl⟩
  have HR : Hid (shB (l.getD a 0) (l.getD b 0) = (p == r || p == s || q == r || q == s)) := by
    show shB _ _ = _
    unfold shB
    rw [hp, hq, hr, hs]
  rw [hp] at c1
  rw [hq] at c2
  rw [hr] at c3
  rw [hs] at c4
  rw [HR.out]
  have hA : (a : Int) < l.length := by omega
  have hB : (b : Int) < l.length := by omega
  generalize l.length = n at *
  have k1 : ∀ p x, w.cell? p = some x → w.drew.cell? p = some x := fun _ _ h => h
  have al : ∀ (W : World) (o : Obj) (p : Addr) (x : Value), p.block < W.heap.size → W.cell? p = some x → (W.alloc o).drew.cell? p = some x := fun W o p x hp h => ((balloc W o).cell hp).trans h
  clear h1 h3 hp hq hr hs
  go_enter Tryd.func27, Tryd.ntmps27
  have KK : ∀ W : World, Below w.heap.size w W → (W.cell? ⟨gb, 0, none⟩ = some (.slice (some ⟨g, 0, none⟩) n cap) ∧ W.cell? ⟨g, a * 2, none⟩ = some (.int .i64 (p : Int)) ∧ W.cell? ⟨g, a * 2 + 1, none⟩ = some (.int .i64 (q : Int)) ∧ W.cell? ⟨g, b * 2, none⟩ = some (.int .i64 (r : Int)) ∧ W.cell? ⟨g, b * 2 + 1, none⟩ = some (.int .i64 (s : Int))) := fun W hW =>
    ⟨(hW.cell (p := ⟨gb, 0, none⟩) hgb).trans c0, (hW.cell (p := ⟨g, a * 2, none⟩) h2).trans c1, (hW.cell (p := ⟨g, a * 2 + 1, none⟩) h2).trans c2, (hW.cell (p := ⟨g, b * 2, none⟩) h2).trans c3, (hW.cell (p := ⟨g, b * 2 + 1, none⟩) h2).trans c4⟩
  have S0 := KK w.drew (Below.refl _ w).drew
  go_wp2
  refine Code.wp_mono (Q := fun e a' w' => e = .normal ∧ ∃ (g1 g2 : Nat) (u8 u9 u10 u11 u12 u13 u14 u15 : Value), a' = { tmps := #[.int .i64 (a : Int), .int .i64 (b : Int), .pointer (some ⟨gb, 0, none⟩), undef, undef, .bool false, .pointer (some ⟨g1, 0, none⟩), .pointer (some ⟨g2, 0, none⟩), u8, u9, u10, u11, u12, u13, u14, u15, undef, undef, undef, undef, undef, undef, undef, undef, undef, undef, undef, undef, undef, undef, undef, undef, undef, undef, undef, undef, undef, undef, undef, undef, undef, undef], defers := [] } ∧ w'.cell? ⟨g1, 0, none⟩ = some (.int .i64 (p : Int)) ∧ w'.cell? ⟨g1, 1, none⟩ = some (.int .i64 (q : Int)) ∧ w'.cell? ⟨g2, 0, none⟩ = some (.int .i64 (r : Int)) ∧ w'.cell? ⟨g2, 1, none⟩ = some (.int .i64 (s : Int)) ∧ Below w.heap.size w w') ?rest ?region
  case region =>
    go_region_held3 (fun W => W.cell? ⟨gb, 0, none⟩ = some (.slice (some ⟨g, 0, none⟩) n cap) ∧ W.cell? ⟨g, a * 2, none⟩ = some (.int .i64 (p : Int)) ∧ W.cell? ⟨g, a * 2 + 1, none⟩ = some (.int .i64 (q : Int)) ∧ W.cell? ⟨g, b * 2, none⟩ = some (.int .i64 (r : Int)) ∧ W.cell? ⟨g, b * 2 + 1, none⟩ = some (.int .i64 (s : Int))) (first | assumption | (refine KK _ ?_; repeat (first | exact Below.refl _ _ | refine Below.drew ?_ | refine Below.alloc ?_ (by simp; try omega) _ | refine Below.setCell ?_ (by simp; try omega) _))) (fail)
    · obtain ⟨q0, q1, q2, q3, q4⟩ := two_al w (.int .i64 (p : Int)) (.int .i64 (q : Int)) (.int .i64 (r : Int)) (.int .i64 (s : Int))
      exact ⟨rfl, _, _, _, _, _, _, _, _, _, _, rfl, q0, q1, q2, q3, q4⟩
    · obtain ⟨q0, q1, q2, q3, q4⟩ := two_al w (.int .i64 (r : Int)) (.int .i64 (s : Int)) (.int .i64 (p : Int)) (.int .i64 (q : Int))
      exact ⟨rfl, _, _, _, _, _, _, _, _, _, _, rfl, q2, q3, q0, q1, q4⟩
  case rest =>
    rintro e a' w' ⟨rfl, g1, g2, u8, u9, u10, u11, u12, u13, u14, u15, rfl, d1, d2, d3, d4, hb⟩
    clear KK S0 c0 c1 c2 c3 c4 al k1
    by_cases t1 : p = r
    · have f1 : ((p : Int) == (r : Int)) = true := by simp [t1]
      have HF : Hid ((p == r || p == s || q == r || q == s) = true) := (by simp [t1] : (p == r || p == s || q == r || q == s) = true)
      clear t1
      go_wp2
      go_ret
      exact ⟨by rw [HF.out]; rfl, hb⟩
    · have f1 : ((p : Int) == (r : Int)) = false := by simp; omega
      by_cases t2 : p = s
      · have f2 : ((p : Int) == (s : Int)) = true := by simp [t2]
        have HF : Hid ((p == r || p == s || q == r || q == s) = true) := (by simp [t2] : (p == r || p == s || q == r || q == s) = true)
        clear t1 t2
        go_wp2
        go_ret
        exact ⟨by rw [HF.out]; rfl, hb⟩
      · have f2 : ((p : Int) == (s : Int)) = false := by simp; omega
        by_cases t3 : q = r
        · have f3 : ((q : Int) == (r : Int)) = true := by simp [t3]
          have HF : Hid ((p == r || p == s || q == r || q == s) = true) := (by simp [t3] : (p == r || p == s || q == r || q == s) = true)
          clear t1 t2 t3
          go_wp2
          go_ret
          exact ⟨by rw [HF.out]; rfl, hb⟩
        · have f3 : ((q : Int) == (r : Int)) = false := by simp; omega
          have f4 : ((q : Int) == (s : Int)) = (q == s) := by rw [Bool.eq_iff_iff]; simp; omega
          have HF : Hid ((p == r || p == s || q == r || q == s) = (q == s)) := (by simp [t1, t2, t3] : (p == r || p == s || q == r || q == s) = (q == s))
          clear t1 t2 t3
          go_wp2
          go_ret
          exact ⟨by rw [HF.out, ← f4]; rfl, hb⟩
end Go.Proofs.YtlmjlffipinjiaaDoor

namespace Go.Proofs.YtlmjlffipinjiaaDoor
open Go.RowKit Go.Shelf

attribute [local go_sem] Oper.semAt_some
/-- What Triangle keeps while pairs are gathered. -/
structure TgK (w : World) (l : List Nat) (v : Value) (A : World) : Prop where
  br : A.heap[w.heap.size]? = some (.cells #[.int .i64 0, .slice none 0 0] 26 (0, 0))
  bl : Boxed A (w.heap.size + 1) 56 v
  ow : A.ownsRow (w.heap.size + 4) 58 2 v l.length (vPr l)
  bw : Below w.heap.size w A
theorem TgK.mv {w A B : World} {l : List Nat} {v : Value} (h : TgK w l v A) (hb : Below A.heap.size A B) : TgK w l v B := by
  have h1 := h.bl.lt
  refine ⟨(hb.block _ (by omega)).trans h.br, boxB h.bl hb (by omega), ?_, Below.next h.bw hb⟩
  obtain ⟨h1, h2 | ⟨g, cap, cur, rfl, h3, h4, h5⟩⟩ := h.ow
  · exact ⟨h1, .inl h2⟩
  · exact ⟨h1, .inr ⟨g, cap, cur, rfl, h3, (hb.block g (Array.getElem?_eq_some_iff.1 h4).1).trans h4, h5⟩⟩
theorem TgK.putO {w A : World} {l : List Nat} {v : Value} (h : TgK w l v A) {d : Nat} (hd : w.heap.size + 2 ≤ d) (hd2 : d < w.heap.size + 4) (o : Obj) : TgK w l v (A.putObj d o) := by
  refine ⟨(World.putObj_heap_other (by omega)).trans h.br, (World.putObj_heap_other (by omega)).trans h.bl, ?_, h.bw.trans (bput A o (by omega))⟩
  obtain ⟨h1, h2 | ⟨g, cap, cur, rfl, h3, h4, h5⟩⟩ := h.ow
  · exact ⟨h1, .inl h2⟩
  · exact ⟨h1, .inr ⟨g, cap, cur, rfl, h3, (World.putObj_heap_other (by omega)).trans h4, h5⟩⟩
theorem own_slc {w : World} {base : Nat} {e : TypeId} {size n : Nat} {v : Value} {xs : List Value} (h : w.ownsRow base e size v n xs) : ∃ a c, v = .slice a n c := by
  obtain ⟨h1, ⟨rfl, hn⟩ | ⟨g, cap, cur, rfl, _⟩⟩ := h
  · subst hn; exact ⟨_, _, rfl⟩
  · exact ⟨_, _, rfl⟩
theorem own_ltT {w : World} {base : Nat} {e : TypeId} {size n : Nat} {v : Value} {xs : List Value} (h : w.ownsRow base e size v n xs) (g : Nat) (hg : v.ownBlock = some g) : g < w.heap.size ∧ base ≤ g := by
  obtain ⟨h1, ⟨rfl, hn⟩ | ⟨g', cap, cur, rfl, h3, h4, _⟩⟩ := h
  · cases hg
  · obtain rfl : g' = g := by simpa [Value.ownBlock] using hg
    exact ⟨(Array.getElem?_eq_some_iff.1 h4).1, h3⟩
theorem TgK.prw {w A : World} {l : List Nat} {v : Value} (h : TgK w l v A) (hl : 0 < l.length) : PrW A (w.heap.size + 1) l := by
  obtain ⟨h1, ⟨rfl, hn⟩ | ⟨g, cap, cur, rfl, h3, h4, h5, h6, h7, ht⟩⟩ := h.ow
  · omega
  · refine ⟨g, cap, h.bl, (Array.getElem?_eq_some_iff.1 h4).1, fun j hj => ?_⟩
    obtain ⟨e1, e2⟩ := vPr_at l j hj
    have key : ∀ i, i < l.length * 2 → A.cell? ⟨g, i, none⟩ = (vPr l)[i]? := fun i hi => by
      rw [cell_of_row A g i _ _ _ h4, ← Array.getElem?_toList, ← ht, List.getElem?_take, if_pos hi]
    exact ⟨(key _ (by omega)).trans e1, (key _ (by omega)).trans e2⟩

set_option maxRecDepth 100000 in
set_option maxHeartbeats 16000000 in
theorem tri_main (n : Nat) (w : World) (h2 : 2 ≤ n) (h7 : n ≤ 7) :
    Calls Tryd.prog 8 #[.int .i64 (n : Int)] w fun e w' => (∃ y, e = .returned (.tuple #[.agg #[.int .i64 (tS n), y], .int .i64 (tE n : Int)]) ∧ OwnS w' y (tL n)) ∧ Below w.heap.size w w' := by
  obtain ⟨i66, ti, tz0, tz1, tz2⟩ := info66
  have d1 : decide ((n : Int) < 2) = false := by simp; omega
  have d2 : decide (7 < (n : Int)) = false := by simp; omega
  obtain ⟨hlen, hlen21⟩ := tr_len ⟨n, by omega⟩
  simp only at hlen hlen21
  have hE : tE n = 0 := by unfold tE; rw [if_neg (by omega)]
  have HFIN : Hid (∀ (g : Nat) (w' : World), Own w' g ((prL n).length * (prL n).length) (drF (prL n).length (shL n) (prL (prL n).length).length) → OwnS w' (.slice (some ⟨g, 0, none⟩) ((prL n).length * (prL n).length) ((prL n).length * (prL n).length)) (tL n)) := fun g w' h => by
    have e : tL n = trC n := by unfold tL; rw [if_pos hE, Int.toNat_natCast]
    rw [e]
    refine ownS_of (by simp [trC, hlen]) h fun j hj => ?_
    unfold trC
    rw [hlen, rng_get _ _ hj]
    refine drF_all (f := trG n) (by omega) (fun a b hab hb => tr_sh ⟨n, by omega⟩ ⟨a, by omega⟩ ⟨b, by omega⟩ hab hb) (fun a b ha hb => (tr_gr n (prL n).length).sym a b ha hb) (fun a ha => (tr_gr n (prL n).length).diag a ha) hj
  have HS : Hid (tS n = ((prL n).length : Int)) := by
    show tS n = _
    unfold tS; rw [if_pos hE, Int.toNat_natCast, hlen]
  have hpos : 0 < (prL n).length := by
    have : (prL n)[prC n 0 + 0]? = _ := prL_at (n := n) (a := 0) (i := 0) (by omega) (by omega)
    have := prL_lt this
    omega
  refine (callsIn_wide (n := 9)).1 (callsIn_of_wp_marks Tryd.func8 rfl trivial (wpIn_wide.2 ?_) rfl)
  simp only [Tryd.ntmps8, List.size_toArray, List.length_cons, List.length_nil, Nat.reduceAdd, Nat.reduceSub, Array.replicate_succ, Array.replicate_zero, List.push_toArray, List.append_toArray, List.nil_append, List.cons_append]
  have hS : ((w.alloc (.cells #[.int .i64 0, .slice none 0 0] 26)).alloc (.cells #[.slice none 0 0] 56)).heap.size = w.heap.size + 2 := by simp
  have hK0 : TgK w [] (.slice none 0 0) ((w.alloc (.cells #[.int .i64 0, .slice none 0 0] 26)).alloc (.cells #[.slice none 0 0] 56)) := by
    have h := Boxed.new (w.alloc (.cells #[.int .i64 0, .slice none 0 0] 26)) 56 (.slice none 0 0)
    rw [World.size_alloc] at h
    exact ⟨(Below.heap_alloc _ _ _ (by simp)).trans (heap_alloc_new w _), h, ⟨rfl, .inl ⟨rfl, rfl⟩⟩, Below.next (balloc w _) (balloc _ _)⟩
  have HK0 : Hid (TgK w [] (.slice none 0 0) ((w.alloc (.cells #[.int .i64 0, .slice none 0 0] 26)).alloc (.cells #[.slice none 0 0] 56))) := hK0
  go_wp2
  obtain ⟨V, HV⟩ : ∃ V, Hid (V = (w.alloc (.cells #[.int .i64 0, .slice none 0 0] 26)).alloc (.cells #[.slice none 0 0] 56)) := ⟨_, rfl⟩
  rw [← HV.out] at hS HK0 ⊢
  clear hK0 HV
  have HBX : Hid (w.heap.size + 2 = V.heap.size) := hS.symm
  refine (wpIn_wide (n := 9)).1 (wpIn_pairs2 (N := n) (gf := 26) rfl (enters_of Tryd.func26 (by kernel_rfl) rfl) rfl (pairs_runs n _ (by omega))
    (fun i B => ∃ v, TgK w ((prL n).take i) v B) (fun _ => False)
    (fun i A o ⟨v, h⟩ => ⟨v, h.putO (by omega) (by omega) o⟩) (fun A o h => h) (fun V hb => ⟨_, by rw [List.take_zero]; exact HK0.out.mv hb⟩)
    ?a1 ?assign ?body ?done ?stop)
  case assign =>
    intro l x W K _ hK
    unfold encP
    gi_wp2
    exact hK
  case body =>
    rintro i x B hx ⟨v, hI⟩ hlt2
    obtain ⟨p1, p2⟩ := prL_at' (by omega) hx
    have hi := prL_lt hx
    have htk : (prL n).take (i + 1) = (prL n).take i ++ [x] := by rw [List.take_add_one, hx]; rfl
    have hk : ((prL n).take i).length = i := by rw [List.length_take]; omega
    obtain ⟨va, vc, rfl⟩ := own_slc hI.ow
    rw [hk] at hI
    have q1 := hI.bl.cell
    have HI : Hid (TgK w ((prL n).take i) (.slice va i vc) B) := hI
    obtain ⟨p, hp⟩ : ∃ p, x / 32 = p := ⟨_, rfl⟩
    obtain ⟨q, hq⟩ : ∃ q, x % 32 = q := ⟨_, rfl⟩
    have r1 : ((x : Int) / 32) = (p : Int) := by omega
    have r2 : ((x : Int) % 32) = (q : Int) := by omega
    have hrow := hI.ow
    rw [hk] at hrow
    have HXS : Hid (vPr ((prL n).take (i + 1)) = vPr ((prL n).take i) ++ [.int .i64 (p : Int), .int .i64 (q : Int)]) := by
      show _ = _
      rw [htk, vPr_snoc, hp, hq]
    have HKL : Hid (((prL n).take (i + 1)).length = i + 1) := by
      show _ = _
      rw [List.length_take]; omega
    have b1 := balloc B (.cells #[.int .i64 (p : Int), .int .i64 (q : Int)] 58)
    have hI1 := hI.mv b1
    have hrow1 := hI1.ow
    rw [hk] at hrow1
    have hnew := heap_alloc_new B (.cells #[.int .i64 (p : Int), .int .i64 (q : Int)] 58)
    have HLB : Hid (w.heap.size + 4 ≤ B.heap.size) := (by omega : w.heap.size + 4 ≤ B.heap.size)
    gi_wp2_with (first
      | (refine wpListIn_append_own _ rfl _ _ 56 rfl (w.heap.size + 4) 58 i66 (.agg #[.int .i64 0, .int .i64 0]) 2 16 Tryd.underlying56 ti tz0 tz1 tz2 rfl (by decide) (.slice va i vc) i _ rfl hrow1 ⟨B.heap.size, 0, none⟩ 1 1 [.int .i64 (p : Int), .int .i64 (q : Int)] rfl rfl ?hc ?h1c (by unfold maxLen; omega) (by omega) (by simp; omega) ?hKK))
    case hc =>
      intro j u hj
      rw [Addr.add_mid, cell_of_row _ _ _ _ _ _ hnew]
      match j, hj with
      | 0, hj => simpa using hj
      | 1, hj => simpa using hj
    case h1c =>
      intro u hu
      simp at hu
      rcases hu with rfl | rfl <;> rfl
    case hKK =>
      rintro v' w' hown hgrow _
      have hob : ∀ g, (Value.slice va i vc).ownBlock = some g → w.heap.size + 4 ≤ g := fun g hg => (own_ltT hrow g hg).2
      have hkeep : ∀ b, b < w.heap.size + 4 → w'.heap[b]? = B.heap[b]? := fun b hb => by
        have hl := HLB.out
        refine (hgrow.block b (by simp; omega) (fun e => ?_)).trans (b1.block b (by omega))
        have := hob b e.symm
        omega
      have hbl : Boxed w' (w.heap.size + 1) 56 (.slice va i vc) := (hkeep _ (by omega)).trans HI.out.bl
      have k1 := hbl.cell
      have k2 := hbl.frozen
      have hbW : Below w.heap.size w w' := by
        have h1 := Below.next HI.out.bw b1
        exact h1.grown hgrow h1.size (fun k e => by have := hob k e; omega)
      obtain ⟨na, nc, rfl⟩ := own_slc hown
      have HOW : Hid (w'.ownsRow (w.heap.size + 4) 58 2 (.slice na (i + 1) nc) (i + 1) (vPr ((prL n).take i) ++ [.int .i64 (p : Int), .int .i64 (q : Int)])) := hown
      clear hown hgrow hrow hrow1 hI1 q1 hnew b1
      gi_wp2
      have hne : (Value.slice na (i + 1) nc).ownBlock ≠ some (w.heap.size + 1) := fun e => by have := (own_ltT HOW.out _ e).2; omega
      have ko : ∀ b, b ≠ w.heap.size + 1 → (w'.setCell ⟨w.heap.size + 1, 0, none⟩ (.slice na (i + 1) nc)).heap[b]? = w'.heap[b]? := fun b hb => heap_setCell_other w' ⟨w.heap.size + 1, 0, none⟩ b _ hb
      have hs := HBX.out
      refine ⟨⟨(ko _ (by omega)).trans (hkeep _ (by omega)), (ko _ (by omega)).trans (hkeep _ (by omega))⟩, _, (ko _ (by omega)).trans ((hkeep _ (by omega)).trans HI.out.br), hbl.set _, ?_, hbW.setCell (p := ⟨w.heap.size + 1, 0, none⟩) (by show _ ≤ w.heap.size + 1; omega) _⟩
      rw [HKL.out, HXS.out]
      exact orow_other HOW.out ⟨w.heap.size + 1, 0, none⟩ _ hne
  case done =>
    rintro B ⟨v, hI⟩ hK
    rw [hS] at hK
    rw [List.take_length] at hI
    obtain ⟨va, vc, rfl⟩ := own_slc hI.ow
    have hPW := hI.prw hpos
    have q1 := hI.bl.cell
    obtain ⟨y0, y1, y2, y3⟩ := row2 hI.br
    have hbx := hI.bl.lt
    have CD : Calls Tryd.prog 19 #[.int .i64 ((prL n).length : Int), .func (.func 27) #[] #[.pointer (some ⟨w.heap.size + 1, 0, none⟩)]] B fun e w' => (∃ g, e = .returned (.agg #[.int .i64 ((prL n).length : Int), .slice (some ⟨g, 0, none⟩) ((prL n).length * (prL n).length) ((prL n).length * (prL n).length)]) ∧ Own w' g ((prL n).length * (prL n).length) (drF (prL n).length (shL n) (prL (prL n).length).length)) ∧ Below B.heap.size B w' :=
      drawn_any (prL n).length 27 #[] #[.pointer (some ⟨w.heap.size + 1, 0, none⟩)] (shL n) B (by omega) (enters_of Tryd.func27 (by kernel_rfl) rfl) fun a b W hab hb hB => tri1_any (prL n) _ a b W (hPW.below hB) (by omega) hb (by omega)
    have HI : Hid (TgK w (prL n) (.slice va (prL n).length vc) B) := hI
    have HK : Hid (B.heap[(w.heap.size + 2)]? = some (.deferred (some []))) := hK
    have HP : Hid (0 < (prL n).length) := hpos
    generalize (prL n).length = m at *
    obtain ⟨z, hz⟩ : ∃ z, m * m = z := ⟨_, rfl⟩
    rw [hz] at CD HFIN
    clear hI hK hPW hpos hlen
    go_wp2_with (go_at_call 19; refine CD.mono ?_; rintro e w4 ⟨⟨g, rfl, hg⟩, hb4⟩; clear CD; have hr4 := (hb4.block _ (by omega)).trans HI.out.br; have z0 := (row2 hr4).1; have z1 := (row2 hr4).2.1; have z2 := (row2 hr4).2.2.1; have z3 := (row2 hr4).2.2.2)
    have hrow := put2_row hr4 (.int .i64 (m : Int)) (.slice (some ⟨g, 0, none⟩) z z)
    have hgne := own_ne24 hg hr4
    have hown : Own ((w4.setCell ⟨w.heap.size, 0, none⟩ (.int .i64 (m : Int))).setCell ⟨w.heap.size, 1, none⟩ (.slice (some ⟨g, 0, none⟩) z z)) g z _ := (hg.other ⟨w.heap.size, 0, none⟩ _ hgne).other ⟨w.heap.size, 1, none⟩ _ hgne
    have hbw : Below w.heap.size w ((w4.setCell ⟨w.heap.size, 0, none⟩ (.int .i64 (m : Int))).setCell ⟨w.heap.size, 1, none⟩ (.slice (some ⟨g, 0, none⟩) z z)) := ((Below.next HI.out.bw hb4).setCell (p := ⟨w.heap.size, 0, none⟩) (Nat.le_refl _) _).setCell (p := ⟨w.heap.size, 1, none⟩) (Nat.le_refl _) _
    have hlt : (w.heap.size + 2) < B.heap.size := (Array.getElem?_eq_some_iff.1 HK.out).1
    have hK2 : ((w4.setCell ⟨w.heap.size, 0, none⟩ (.int .i64 (m : Int))).setCell ⟨w.heap.size, 1, none⟩ (.slice (some ⟨g, 0, none⟩) z z)).heap[(w.heap.size + 2)]? = some (.deferred (some [])) := (heap_setCell_other _ ⟨w.heap.size, 1, none⟩ _ _ (by show _ ≠ w.heap.size; omega)).trans ((heap_setCell_other w4 ⟨w.heap.size, 0, none⟩ _ _ (by show _ ≠ w.heap.size; omega)).trans ((hb4.block _ hlt).trans HK.out))
    have hgD : g ≠ (w.heap.size + 2) := by
      rintro rfl
      obtain ⟨cur, e, _⟩ := hown
      rw [hK2] at e
      cases e
    generalize (w4.setCell ⟨w.heap.size, 0, none⟩ (.int .i64 (m : Int))).setCell ⟨w.heap.size, 1, none⟩ (.slice (some ⟨g, 0, none⟩) z z) = C at *
    refine ⟨by simp, .inl ⟨_, _, rfl, run_takeDeferred hK2, ?_⟩⟩
    have bP := bput (n := (w.heap.size + 2)) C (.deferred none) (l := (w.heap.size + 2)) (Nat.le_refl _)
    have hrow2 := (bP.block w.heap.size (by omega)).trans hrow
    have hown2 : Own (C.putObj (w.heap.size + 2) (.deferred none)) g z (drF m (shL n) (prL m).length) := by
      obtain ⟨cur, q1, q2⟩ := hown
      exact ⟨cur, (World.putObj_heap_other hgD).trans q1, q2⟩
    refine ⟨.tuple #[.agg #[.int .i64 (m : Int), .slice (some ⟨g, 0, none⟩) z z], .int .i64 0], ?_, ⟨_, by rw [HS.out, hE]; rfl, HFIN.out g _ hown2⟩, hbw.trans (bP.mono (by omega))⟩
    refine (results_cell_tmp (p := 2) (u := 3) (ty := 26) rfl _ _ _).trans ?_
    show ((asAddr (.pointer (some ⟨w.heap.size, 0, none⟩))).run Tryd.prog _).andThen _ = _
    have h1 : (asAddr (.pointer (some ⟨w.heap.size, 0, none⟩))).run Tryd.prog (C.putObj (w.heap.size + 2) (.deferred none)) = .ok ⟨w.heap.size, 0, none⟩ (C.putObj (w.heap.size + 2) (.deferred none)) := by simp [asAddr]
    rw [h1]
    show ((loadVar 26 ⟨w.heap.size, 0, none⟩).run Tryd.prog _).andThen _ = _
    rw [run_loadVar_row _ w.heap.size 26 26 _ (0, 0) _ hrow2 Tryd.underlying26 rfl inf24]
    rfl
  case stop =>
    rintro B h
    exact h.elim
theorem ftri : FTri := by
  intro n W
  by_cases h : n < 2 ∨ 7 < n
  · have hE : tE n = 1 := by unfold tE; rw [if_pos h]
    have HF : Hid (tS n = 0 ∧ tL n = [] ∧ tE n = 1) := ⟨by unfold tS; rw [hE]; rfl, by unfold tL; rw [hE]; rfl, hE⟩
    have hbox := heap_alloc_new W (.cells #[.int .i64 0, .slice none 0 0] 26)
    obtain ⟨y0, y1, y2, y3⟩ := row2 hbox
    have b0 := balloc W (.cells #[.int .i64 0, .slice none 0 0] 26)
    by_cases h1 : n < 2
    · have d1 : decide (n < 2) = true := decide_eq_true h1
      clear h h1 hE
      go_enter Tryd.func8, Tryd.ntmps8
      go_wp2
      exact post_sq2 2 3 rfl rfl hbox rfl rfl ⟨⟨_, by rw [HF.out.1, HF.out.2.2]; rfl, by rw [HF.out.2.1]; exact OwnS.nil _⟩, b0⟩
    · have d1 : decide (n < 2) = false := decide_eq_false h1
      have d2 : decide (7 < n) = true := decide_eq_true (by omega)
      clear h h1 hE
      go_enter Tryd.func8, Tryd.ntmps8
      go_wp2
      exact post_sq2 2 3 rfl rfl hbox rfl rfl ⟨⟨_, by rw [HF.out.1, HF.out.2.2]; rfl, by rw [HF.out.2.1]; exact OwnS.nil _⟩, b0⟩
  · obtain ⟨m, rfl⟩ : ∃ m : Nat, n = m := ⟨n.toNat, by omega⟩
    exact tri_main m W (by omega) (by omega)
end Go.Proofs.YtlmjlffipinjiaaDoor
