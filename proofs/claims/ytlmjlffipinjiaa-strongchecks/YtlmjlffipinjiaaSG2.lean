/- The walk of the document's NumbersOf. -/
import Derived.Test.YtlmjlffipinjiaaSG1
import Derived.Laws.ResultCell
import Derived.Laws.Rows
namespace Go.Proofs.Ytlmjlffipinjiaa
open Go.RowKit

theorem inf28 : (Try.prog.info? 28).map (·.size) = some 4 := by kernel_rfl
theorem post_st2 {fn : Func} {R : Ending → World → Prop} {a : Act} {w : World} {g : Nat} {x0 x1 x2 x3 z : Value} (slot u : Tmp) (hres : fn.results = #[.cell slot 28, .tmp u]) (hp : a.tmps.getD slot undef = .pointer (some ⟨g, 0, none⟩)) (hr : w.heap[g]? = some (.cells #[x0, x1, x2, x3] 28 (0, 0))) (hu : a.tmps.getD u undef = z) (hd : a.defers = []) (hR : R (.returned (.tuple #[.agg #[x0, x1, x2, x3], z])) w) : bodyPost Try.prog fn R .ret a w := by
  refine bodyPost_ret (v := .tuple #[.agg #[x0, x1, x2, x3], z]) ?_ hd hR
  rw [results_cell_tmp hres, hp, hu]
  have h1 : (asAddr (.pointer (some ⟨g, 0, none⟩))).run Try.prog w = .ok ⟨g, 0, none⟩ w := by simp [asAddr]
  rw [h1]
  show ((loadVar 28 ⟨g, 0, none⟩).run Try.prog w).andThen _ = _
  rw [run_loadVar_row w g 28 28 #[x0, x1, x2, x3] (0, 0) _ hr Try.underlying28 rfl inf28]
  rfl
/-- Four cells stored one after another. -/
def put4 (w : World) (g : Nat) (y0 y1 y2 y3 : Value) : World := (((w.setCell ⟨g, 0, none⟩ y0).setCell ⟨g, 1, none⟩ y1).setCell ⟨g, 2, none⟩ y2).setCell ⟨g, 3, none⟩ y3
theorem put4_row {w : World} {g : Nat} {x0 x1 x2 x3 : Value} {t : TypeId} (h : w.heap[g]? = some (.cells #[x0, x1, x2, x3] t (0, 0))) (y0 y1 y2 y3 : Value) : (put4 w g y0 y1 y2 y3).heap[g]? = some (.cells #[y0, y1, y2, y3] t (0, 0)) := by
  have h1 := heap_setCell_same w g 0 _ _ y0 h
  have h2 := heap_setCell_same _ g 1 _ _ y1 h1
  have h3 := heap_setCell_same _ g 2 _ _ y2 h2
  have h4 := heap_setCell_same _ g 3 _ _ y3 h3
  exact h4
theorem put4_below {w W : World} {B g : Nat} (h : Below B w W) (hg : B ≤ g) (y0 y1 y2 y3 : Value) : Below B w (put4 W g y0 y1 y2 y3) :=
  (((h.setCell (p := ⟨g, 0, none⟩) hg y0).setCell (p := ⟨g, 1, none⟩) hg y1).setCell (p := ⟨g, 2, none⟩) hg y2).setCell (p := ⟨g, 3, none⟩) hg y3
/-- What a row of four lets one do. -/
theorem row4 {w : World} {g : Nat} {x0 x1 x2 x3 : Value} {t : TypeId} (h : w.heap[g]? = some (.cells #[x0, x1, x2, x3] t (0, 0))) : w.cell? ⟨g, 0, none⟩ = some x0 ∧ w.cell? ⟨g, 1, none⟩ = some x1 ∧ w.cell? ⟨g, 2, none⟩ = some x2 ∧ w.cell? ⟨g, 3, none⟩ = some x3 ∧ w.frozen? ⟨g, 0, none⟩ = false ∧ w.frozen? ⟨g, 1, none⟩ = false ∧ w.frozen? ⟨g, 2, none⟩ = false ∧ w.frozen? ⟨g, 3, none⟩ = false := by
  refine ⟨?_, ?_, ?_, ?_, frozen_of_row w g 0 _ _ h, frozen_of_row w g 1 _ _ h, frozen_of_row w g 2 _ _ h, frozen_of_row w g 3 _ _ h⟩ <;> rw [cell_of_row _ _ _ _ _ _ h] <;> rfl
/-- The box of the graph and that of the answer. -/
structure GB (w : World) (n : Nat) (s : Value) (wr : World) : Prop where
  box : wr.heap[w.heap.size]? = some (.cells #[.int .i64 (n : Int), s] 24 (0, 0))
  res : wr.heap[w.heap.size + 1]? = some (.cells #[.int .i64 0, .int .i64 0, .int .i64 0, .int .i64 0] 28 (0, 0))
  bel : Below w.heap.size w wr
theorem GB.next {w wr w1 : World} {n : Nat} {s : Value} (h : GB w n s wr) (b : Below wr.heap.size wr w1) : GB w n s w1 :=
  ⟨(b.block _ (Array.getElem?_eq_some_iff.1 h.box).1).trans h.box, (b.block _ (Array.getElem?_eq_some_iff.1 h.res).1).trans h.res, Below.next h.bel b⟩
theorem GB.quiet {w wr : World} {n : Nat} {s : Value} (h : GB w n s wr) (q : Nat) : GB w n s (wr.drewN q) := ⟨h.box, h.res, bdrewN h.bel q⟩
theorem GB.x0 {w wr : World} {n : Nat} {s : Value} (h : GB w n s wr) : wr.cell? ⟨w.heap.size, 0, none⟩ = some (.int .i64 (n : Int)) := by rw [cell_of_row _ _ _ _ _ _ h.box]; rfl
theorem GB.x1 {w wr : World} {n : Nat} {s : Value} (h : GB w n s wr) : wr.cell? ⟨w.heap.size, 1, none⟩ = some s := by rw [cell_of_row _ _ _ _ _ _ h.box]; rfl
theorem GB.new (w : World) (n : Nat) (s : Value) : GB w n s ((w.alloc (.cells #[.int .i64 (n : Int), s] 24)).alloc (.cells #[.int .i64 0, .int .i64 0, .int .i64 0, .int .i64 0] 28)) :=
  ⟨(Below.heap_alloc _ _ _ (by simp)).trans (heap_alloc_new w _), by have := heap_alloc_new (w.alloc (.cells #[.int .i64 (n : Int), s] 24)) (.cells #[.int .i64 0, .int .i64 0, .int .i64 0, .int .i64 0] 28); simpa using this, Below.next (balloc _ _) (balloc _ _)⟩
set_option maxRecDepth 100000 in
set_option maxHeartbeats 16000000 in
theorem NumbersOf_any (n : Nat) (L : List Int) (G : GoodG n L) (v : Value) (w : World) (hv : Sl w v L) :
    Calls Try.prog 13 #[.agg #[.int .i64 (n : Int), v]] w fun e w' => (∃ (P D N F : Int) (u : Nat), e = .returned (.tuple #[.agg #[.int .i64 P, .int .i64 D, .int .i64 N, .int .i64 F], .int .i64 (u : Int)]) ∧ NmT n (gx n L) P D N F u) ∧ Below w.heap.size w w' := by
  have hpos : 0 < n * n := Nat.mul_pos G.pos G.pos
  have h8 := G.le
  have h1 := G.pos
  have HCM : Hid (∀ a b W, a < n → b < n → Below w.heap.size w W → Calls Try.prog 26 #[.agg #[.int .i64 (n : Int), v], .int .i64 (a : Int), .int .i64 (b : Int)] W fun e w' => e = .returned (.int .i64 (cmG n (gx n L) a b)) ∧ Below W.heap.size W w') := fun a b W ha hb hW => commonTo_any n L G v W (hv.below hW) a b ha hb
  obtain ⟨g, off, cap, rfl, hg, hcell⟩ := hv.form G.len hpos
  have HLT : Hid (∀ r c, r < n → c < n → r * n + c < n * n) := fun r c hr hc => cell_ltG hr hc
  have HMX : Hid (∀ r c, r < n → c < n → w.cell? ⟨g, off + (r * n + c), none⟩ = some (.int .i64 (gx n L r c))) := fun r c hr hc => hcell _ (cell_ltG hr hc)
  have HGR : Hid (Gr n (gx n L)) := G.gr
  obtain ⟨z, hz⟩ : ∃ z, n * n = z := ⟨_, rfl⟩
  have hz99 : z ≤ 999 := by rw [← hz]; exact Nat.le_trans (Nat.mul_le_mul h8 h8) (by decide)
  rw [hz] at HLT HCM
  rw [hz]
  generalize gx n L = t at *
  have HG0 := GB.new w n (.slice (some ⟨g, off, none⟩) z cap)
  clear hcell hv G hpos hz
  go_enter Try.func13, Try.ntmps13
  go_wp2
  go_loopw [5, 6, 7, 8] (fun dv nv fv av wr => ∃ (a : Nat) (D N F : Int), av = .int .i64 (a : Int) ∧ a ≤ n ∧ dv = .int .i64 D ∧ nv = .int .i64 N ∧ fv = .int .i64 F ∧ Hid (∀ b, b < a → dgG n t b = D) ∧ Hid (Kind n t 1 a 0 N) ∧ Hid (Kind n t 0 a 0 F) ∧ GB w n (.slice (some ⟨g, off, none⟩) z cap) wr) (fun _ _ _ av _ => (n - intOf av).toNat)
  case atStart => exact ⟨0, 0, -1, -1, rfl, by omega, rfl, rfl, rfl, (fun b h => by omega : ∀ b, b < 0 → _), Kind.start, Kind.start, HG0⟩
  case round =>
    clear HG0
    obtain ⟨a, D, N, F, rfl, ha, rfl, rfl, rfl, HD, HK1, HK0, HG⟩ := hrel
    have x0 := HG.x0
    have x1 := HG.x1
    by_cases hlt : a < n
    · have hda : decide ((a : Int) < (n : Int)) = true := by simp; omega
      have hda2 : decide (a < n) = true := by simp; omega
      go_wp2
      go_loopw [9, 10] (fun sv bv wr => ∃ (b : Nat) (Y : Int), bv = .int .i64 (b : Int) ∧ b ≤ n ∧ sv = .int .i64 Y ∧ Hid (sR b (t a) = Y) ∧ 0 ≤ Y ∧ Y ≤ b ∧ GB w n (.slice (some ⟨g, off, none⟩) z cap) wr) (fun _ bv _ => (n - intOf bv).toNat)
      case atStart => exact ⟨0, 0, rfl, by omega, rfl, (rfl : sR 0 (t a) = 0), by omega, by omega, HG⟩
      case round =>
        clear HG x0 x1
        obtain ⟨b, Y, rfl, hb, rfl, HY, hY1, hY2, HG⟩ := hrel
        have x0 := HG.x0
        have x1 := HG.x1
        by_cases hlb : b < n
        · have hdb : decide ((b : Int) < (n : Int)) = true := by simp; omega
          have k1 := HLT.out a b hlt hlb
          have c1 := (HG.bel.cell (p := ⟨g, off + (a * n + b), none⟩) hg).trans (HMX.out a b hlt hlb)
          have g1 := HGR.out.at hlt hlb
          have HS2 : Hid (sR (b + 1) (t a) = Y + t a b) := by show _ = _; rw [sR, HY.out]
          generalize t a b = x at c1 g1 HS2
          obtain ⟨g2, g3⟩ := g1
          obtain ⟨m1, Hm1⟩ : ∃ m, Hid (a * n = m) := ⟨_, rfl⟩
          have hm1 : (a : Int) * (n : Int) = (m1 : Int) := by rw [← Hm1.out]; simp
          rw [Hm1.out] at k1 c1
          obtain ⟨p1, Hp1⟩ : ∃ m, Hid (m1 + b = m) := ⟨_, rfl⟩
          have hp1 : (m1 : Int) + (b : Int) = (p1 : Int) := by rw [← Hp1.out]; simp
          rw [Hp1.out] at k1 c1
          have q1 : (p1 : Int) < (z : Int) := by omega
          have hm1' := wrapN9 (q := m1) (by have := Hp1.out; omega)
          have hp1' := wrapN9 (q := p1) (by omega)
          have he2 := wrapZ (z := Y + x) (by omega) (by omega)
          clear HY
          go_wp2
          go_roundw
          case rel => exact ⟨b + 1, Y + x, by go_num, by omega, by go_num, HS2, by omega, by omega, HG⟩
          case measure => simp [intOf]; omega
        · have hdb : decide ((b : Int) < (n : Int)) = false := by simp; omega
          have hdb2 : decide (b < n) = false := by simp; omega
          have HY2 : Hid (dgG n t a = Y) := by show _ = _; rw [← HY.out, show b = n by omega]; rfl
          clear HY
          have HD2 : Hid ((a = 0 ∨ Y = D) → ∀ b, b < a + 1 → dgG n t b = Y) := fun h b hb => by
            by_cases e : b = a
            · subst e; exact HY2.out
            · rcases h with h | h
              · omega
              · rw [h]; exact HD.out b (by omega)
          have HNO : Hid (0 < a → Y ≠ D → NmT n t 0 0 0 0 4) := fun h0 h => .inr ⟨rfl, rfl, rfl, rfl, rfl, fun ⟨k, l, m, S⟩ => h (by rw [← HY2.out, ← HD.out 0 h0]; exact stn_deg S hlt h1)⟩
          obtain ⟨r0, r1, r2, r3, z0, z1, z2, z3⟩ := row4 HG.res
          have hrow := put4_row HG.res (.int .i64 0) (.int .i64 0) (.int .i64 0) (.int .i64 0)
          have hbl := put4_below HG.bel (show w.heap.size ≤ w.heap.size + 1 by omega) (.int .i64 0) (.int .i64 0) (.int .i64 0) (.int .i64 0)
          by_cases ha0 : 0 < a
          · have d0 : decide ((0 : Int) < (a : Int)) = true := by simp; omega
            have d0' : decide (0 < a) = true := by simp; omega
            by_cases hYD : Y = D
            · have dY : (Y != D) = false := by simp [hYD]
              have HD3 : Hid (∀ b, b < a + 1 → dgG n t b = Y) := HD2.out (.inr hYD)
              clear HD HD2 HNO hYD r0 r1 r2 r3 z0 z1 z2 z3 hrow hbl
              go_wp2
              go_loopw [6, 7, 11] (fun nv fv bv wr => ∃ (b : Nat) (N F : Int), bv = .int .i64 (b : Int) ∧ b ≤ a ∧ nv = .int .i64 N ∧ fv = .int .i64 F ∧ Hid (Kind n t 1 a b N) ∧ Hid (Kind n t 0 a b F) ∧ GB w n (.slice (some ⟨g, off, none⟩) z cap) wr) (fun _ _ bv _ => (a - intOf bv).toNat)
              case atStart => exact ⟨0, N, F, rfl, by omega, rfl, rfl, HK1, HK0, HG⟩
              case round =>
                clear HG x0 x1 HK1 HK0
                obtain ⟨b, N, F, rfl, hb, rfl, rfl, HK1, HK0, HG⟩ := hrel
                have x0 := HG.x0
                have x1 := HG.x1
                by_cases hlb : b < a
                · have hdb : decide ((b : Int) < (a : Int)) = true := by simp; omega
                  have hbn : b < n := by omega
                  have k1 := HLT.out a b hlt hbn
                  have C := HCM.out a b wr hlt hbn HG.bel
                  have HCX : Hid (∀ W, Below w.heap.size w W → W.cell? ⟨g, off + (a * n + b), none⟩ = some (.int .i64 (t a b))) := fun W bW => (bW.cell (p := ⟨g, off + (a * n + b), none⟩) hg).trans (HMX.out a b hlt hbn)
                  have hbit := HGR.out.bit a b hlt hbn
                  have hcm := HGR.out.cm_at hlt hbn
                  have hdg := (HGR.out.dg_less hlt).2
                  have HPOS : Hid (∀ a' b', Done a b a' b' → 0 ≤ cmG n t a' b') := fun a' b' d => by
                    obtain ⟨q1, q2, _⟩ := done_lt d hlt
                    exact (HGR.out.cm_at q1 q2).1
                  have HBAD : Hid (∀ x z, (x = 0 ∨ x = 1) → t a b = x → Kind n t x a b z → 0 ≤ z → z ≠ cmG n t a b → NmT n t 0 0 0 0 4) := fun x z h01 hx K hz hne => .inr ⟨rfl, rfl, rfl, rfl, rfl, fun ⟨k, l, m, S⟩ => by
                    obtain ⟨a', b', d, e, h⟩ := K.clash hz hne
                    exact h (stn_clash S h01 hlt hlb hx d e)⟩
                  have HST1 : Hid (t a b = 1 → (N < 0 ∨ N = cmG n t a b) → Kind n t 1 a (b + 1) (cmG n t a b) ∧ Kind n t 0 a (b + 1) F) := fun hx hz => ⟨HK1.out.step hlb hx hz HPOS.out, HK0.out.skip (by omega)⟩
                  have HST0 : Hid (t a b = 0 → (F < 0 ∨ F = cmG n t a b) → Kind n t 1 a (b + 1) N ∧ Kind n t 0 a (b + 1) (cmG n t a b)) := fun hx hz => ⟨HK1.out.skip (by omega), HK0.out.step hlb hx hz HPOS.out⟩
                  have HBD1 : Hid (t a b = 1 → 0 ≤ N → N ≠ cmG n t a b → NmT n t 0 0 0 0 4) := fun hx hz hne => HBAD.out 1 N (.inr rfl) hx HK1.out hz hne
                  have HBD0 : Hid (t a b = 0 → 0 ≤ F → F ≠ cmG n t a b → NmT n t 0 0 0 0 4) := fun hx hz hne => HBAD.out 0 F (.inl rfl) hx HK0.out hz hne
                  clear HPOS HBAD HK1 HK0
                  obtain ⟨x, Hx⟩ : ∃ x, Hid (t a b = x) := ⟨_, rfl⟩
                  obtain ⟨c, Hc⟩ : ∃ c, Hid (cmG n t a b = c) := ⟨_, rfl⟩
                  rw [Hx.out] at HCX hbit HST1 HST0 HBD1 HBD0
                  rw [Hc.out] at C hcm HST1 HST0 HBD1 HBD0
                  obtain ⟨m1, Hm1⟩ : ∃ m, Hid (a * n = m) := ⟨_, rfl⟩
                  have hm1 : (a : Int) * (n : Int) = (m1 : Int) := by rw [← Hm1.out]; simp
                  rw [Hm1.out] at k1 HCX
                  obtain ⟨p1, Hp1⟩ : ∃ m, Hid (m1 + b = m) := ⟨_, rfl⟩
                  have hp1 : (m1 : Int) + (b : Int) = (p1 : Int) := by rw [← Hp1.out]; simp
                  rw [Hp1.out] at k1 HCX
                  have q1 : (p1 : Int) < (z : Int) := by omega
                  have hm1' := wrapN9 (q := m1) (by have := Hp1.out; omega)
                  have hp1' := wrapN9 (q := p1) (by omega)
                  obtain ⟨hc1, hc2⟩ := hcm
                  by_cases hx : x = 1
                  · have dx : (x == 1) = true := by simp [hx]
                    by_cases hz : 0 ≤ N
                    · have dz : decide (0 ≤ N) = true := decide_eq_true hz
                      by_cases he : N = c
                      · have de : (N != c) = false := by simp [he]
                        have HK2 := HST1.out hx (.inr he)
                        have HK3 : Hid (Kind n t 1 a (b + 1) c) := HK2.1
                        have HK4 : Hid (Kind n t 0 a (b + 1) F) := HK2.2
                        clear hx he hz HK2 HST1 HST0 HBD1 HBD0 hbit
                        go_wp2_with (go_at_call 26; refine C.mono ?_; rintro e w1 ⟨rfl, b1⟩; clear C; have HG1 := HG.next b1; have y0 := HG1.x0; have y1 := HG1.x1; have c1 := HCX.out _ HG1.bel; clear x0 x1 HG)
                        go_roundw
                        case rel => exact ⟨b + 1, c, F, by go_num, by omega, rfl, rfl, HK3, HK4, HG1⟩
                        case measure => simp [intOf]; omega
                      · have de : (N != c) = true := by simp [he]
                        have HN := HBD1.out hx hz he
                        have HN2 : Hid (NmT n t 0 0 0 0 4) := HN
                        clear hx he hz HN HST1 HST0 HBD1 HBD0 hbit
                        go_wp2_with (first
                          | (go_at_call 26; refine C.mono ?_; rintro e w1 ⟨rfl, b1⟩; clear C; have HG1 := HG.next b1; have y0 := HG1.x0; have y1 := HG1.x1; have c1 := HCX.out _ HG1.bel; clear x0 x1 HG; obtain ⟨r0, r1, r2, r3, z0, z1, z2, z3⟩ := row4 HG1.res; have hrow := put4_row HG1.res (.int .i64 0) (.int .i64 0) (.int .i64 0) (.int .i64 0); have hbl := put4_below HG1.bel (show w.heap.size ≤ w.heap.size + 1 by omega) (.int .i64 0) (.int .i64 0) (.int .i64 0) (.int .i64 0)))
                        exact post_st2 2 3 Try.results13 rfl hrow rfl rfl ⟨⟨0, 0, 0, 0, 4, rfl, HN2.out⟩, hbl⟩
                    · have dz : decide (0 ≤ N) = false := decide_eq_false hz
                      have HK2 := HST1.out hx (.inl (by omega))
                      have HK3 : Hid (Kind n t 1 a (b + 1) c) := HK2.1
                      have HK4 : Hid (Kind n t 0 a (b + 1) F) := HK2.2
                      clear hx hz HK2 HST1 HST0 HBD1 HBD0 hbit
                      go_wp2_with (go_at_call 26; refine C.mono ?_; rintro e w1 ⟨rfl, b1⟩; clear C; have HG1 := HG.next b1; have y0 := HG1.x0; have y1 := HG1.x1; have c1 := HCX.out _ HG1.bel; clear x0 x1 HG)
                      go_roundw
                      case rel => exact ⟨b + 1, c, F, by go_num, by omega, rfl, rfl, HK3, HK4, HG1⟩
                      case measure => simp [intOf]; omega
                  · have dx : (x == 1) = false := by simp [hx]
                    have hx0 : x = 0 := by rcases hbit with h | h; exact h; exact absurd h hx
                    by_cases hz : 0 ≤ F
                    · have dz : decide (0 ≤ F) = true := decide_eq_true hz
                      by_cases he : F = c
                      · have de : (F != c) = false := by simp [he]
                        have HK2 := HST0.out hx0 (.inr he)
                        have HK3 : Hid (Kind n t 1 a (b + 1) N) := HK2.1
                        have HK4 : Hid (Kind n t 0 a (b + 1) c) := HK2.2
                        clear hx he hz HK2 HST1 HST0 HBD1 HBD0 hx0 hbit
                        go_wp2_with (go_at_call 26; refine C.mono ?_; rintro e w1 ⟨rfl, b1⟩; clear C; have HG1 := HG.next b1; have y0 := HG1.x0; have y1 := HG1.x1; have c1 := HCX.out _ HG1.bel; clear x0 x1 HG)
                        go_roundw
                        case rel => exact ⟨b + 1, N, c, by go_num, by omega, rfl, rfl, HK3, HK4, HG1⟩
                        case measure => simp [intOf]; omega
                      · have de : (F != c) = true := by simp [he]
                        have HN := HBD0.out hx0 hz he
                        have HN2 : Hid (NmT n t 0 0 0 0 4) := HN
                        clear hx he hz HN HST1 HST0 HBD1 HBD0 hx0 hbit
                        go_wp2_with (first
                          | (go_at_call 26; refine C.mono ?_; rintro e w1 ⟨rfl, b1⟩; clear C; have HG1 := HG.next b1; have y0 := HG1.x0; have y1 := HG1.x1; have c1 := HCX.out _ HG1.bel; clear x0 x1 HG; obtain ⟨r0, r1, r2, r3, z0, z1, z2, z3⟩ := row4 HG1.res; have hrow := put4_row HG1.res (.int .i64 0) (.int .i64 0) (.int .i64 0) (.int .i64 0); have hbl := put4_below HG1.bel (show w.heap.size ≤ w.heap.size + 1 by omega) (.int .i64 0) (.int .i64 0) (.int .i64 0) (.int .i64 0)))
                        exact post_st2 2 3 Try.results13 rfl hrow rfl rfl ⟨⟨0, 0, 0, 0, 4, rfl, HN2.out⟩, hbl⟩
                    · have dz : decide (0 ≤ F) = false := decide_eq_false hz
                      have HK2 := HST0.out hx0 (.inl (by omega))
                      have HK3 : Hid (Kind n t 1 a (b + 1) N) := HK2.1
                      have HK4 : Hid (Kind n t 0 a (b + 1) c) := HK2.2
                      clear hx hz HK2 HST1 HST0 HBD1 HBD0 hx0 hbit
                      go_wp2_with (go_at_call 26; refine C.mono ?_; rintro e w1 ⟨rfl, b1⟩; clear C; have HG1 := HG.next b1; have y0 := HG1.x0; have y1 := HG1.x1; have c1 := HCX.out _ HG1.bel; clear x0 x1 HG)
                      go_roundw
                      case rel => exact ⟨b + 1, N, c, by go_num, by omega, rfl, rfl, HK3, HK4, HG1⟩
                      case measure => simp [intOf]; omega
                · have hdb : decide ((b : Int) < (a : Int)) = false := by simp; omega
                  have hdb2 : decide (b < a) = false := by simp; omega
                  have HR1 : Hid (Kind n t 1 (a + 1) 0 N) := by
                    have : b = a := by omega
                    subst this
                    exact HK1.out.row
                  have HR0 : Hid (Kind n t 0 (a + 1) 0 F) := by
                    have : b = a := by omega
                    subst this
                    exact HK0.out.row
                  clear HK1 HK0
                  go_wp2
                  go_roundw
                  case rel => exact ⟨a + 1, Y, N, F, by go_num, by omega, rfl, rfl, rfl, HD3, HR1, HR0, HG⟩
                  case measure => simp [intOf]; omega
            · have dY : (Y != D) = true := by simp [hYD]
              have HN := HNO.out ha0 hYD
              have HB2 : Hid _ := hbl
              clear HD HD2 HNO hYD hbl
              go_wp2
              exact post_st2 2 3 Try.results13 rfl hrow rfl rfl ⟨⟨0, 0, 0, 0, 4, rfl, HN⟩, HB2.out⟩
          · have d0 : decide ((0 : Int) < (a : Int)) = false := by simp; omega
            have d0' : decide (0 < a) = false := by simp; omega
            have HD3 : Hid (∀ b, b < a + 1 → dgG n t b = Y) := HD2.out (.inl (by omega))
            clear HD HD2 HNO r0 r1 r2 r3 z0 z1 z2 z3 hrow hbl
            go_wp2
            go_loopw [6, 7, 11] (fun nv fv bv wr => ∃ (b : Nat) (N F : Int), bv = .int .i64 (b : Int) ∧ b ≤ a ∧ nv = .int .i64 N ∧ fv = .int .i64 F ∧ Hid (Kind n t 1 a b N) ∧ Hid (Kind n t 0 a b F) ∧ GB w n (.slice (some ⟨g, off, none⟩) z cap) wr) (fun _ _ bv _ => (a - intOf bv).toNat)
            case atStart => exact ⟨0, N, F, rfl, by omega, rfl, rfl, HK1, HK0, HG⟩
            case round =>
              clear HG x0 x1 HK1 HK0
              obtain ⟨b, N, F, rfl, hb, rfl, rfl, HK1, HK0, HG⟩ := hrel
              have x0 := HG.x0
              have x1 := HG.x1
              by_cases hlb : b < a
              · exfalso; omega
              · have hdb : decide ((b : Int) < (a : Int)) = false := by simp; omega
                have hdb2 : decide (b < a) = false := by simp; omega
                have HR1 : Hid (Kind n t 1 (a + 1) 0 N) := by
                  have : b = a := by omega
                  subst this
                  exact HK1.out.row
                have HR0 : Hid (Kind n t 0 (a + 1) 0 F) := by
                  have : b = a := by omega
                  subst this
                  exact HK0.out.row
                clear HK1 HK0
                go_wp2
                go_roundw
                case rel => exact ⟨a + 1, Y, N, F, by go_num, by omega, rfl, rfl, rfl, HD3, HR1, HR0, HG⟩
                case measure => simp [intOf]; omega
    · have hda : decide ((a : Int) < (n : Int)) = false := by simp; omega
      have hda2 : decide (a < n) = false := by simp; omega
      have HFIN : Hid (NmT n t n D (up0 N) (up0 F) 0) := by
        have : a = n := by omega
        subst this
        exact .inl ⟨rfl, rfl, kinds_stn HGR.out HD.out HK1.out HK0.out⟩
      obtain ⟨r0, r1, r2, r3, z0, z1, z2, z3⟩ := row4 HG.res
      have HPUT : Hid (∀ N' F' : Int, (put4 wr (w.heap.size + 1) (.int .i64 (n : Int)) (.int .i64 D) (.int .i64 N') (.int .i64 F')).heap[w.heap.size + 1]? = some (.cells #[.int .i64 (n : Int), .int .i64 D, .int .i64 N', .int .i64 F'] 28 (0, 0)) ∧ Below w.heap.size w (put4 wr (w.heap.size + 1) (.int .i64 (n : Int)) (.int .i64 D) (.int .i64 N') (.int .i64 F'))) := fun N' F' => ⟨put4_row HG.res _ _ _ _, put4_below HG.bel (by omega) _ _ _ _⟩
      clear HD HK1 HK0
      by_cases hN : N < 0
      · have dN : decide (N < 0) = true := by simp; omega
        by_cases hF : F < 0
        · have dF : decide (F < 0) = true := by simp; omega
          have HF2 : Hid (NmT n t n D 0 0 0) := by
            have := HFIN.out
            unfold up0 at this
            rw [if_pos hN, if_pos hF] at this
            exact this
          obtain ⟨e1, e2⟩ := HPUT.out 0 0
          clear HFIN HPUT hN hF
          go_wp2
          exact post_st2 2 3 Try.results13 rfl e1 rfl rfl ⟨⟨n, D, 0, 0, 0, rfl, HF2.out⟩, e2⟩
        · have dF : decide (F < 0) = false := by simp; omega
          have HF2 : Hid (NmT n t n D 0 F 0) := by
            have := HFIN.out
            unfold up0 at this
            rw [if_pos hN, if_neg hF] at this
            exact this
          obtain ⟨e1, e2⟩ := HPUT.out 0 F
          clear HFIN HPUT hN hF
          go_wp2
          exact post_st2 2 3 Try.results13 rfl e1 rfl rfl ⟨⟨n, D, 0, F, 0, rfl, HF2.out⟩, e2⟩
      · have dN : decide (N < 0) = false := by simp; omega
        by_cases hF : F < 0
        · have dF : decide (F < 0) = true := by simp; omega
          have HF2 : Hid (NmT n t n D N 0 0) := by
            have := HFIN.out
            unfold up0 at this
            rw [if_neg hN, if_pos hF] at this
            exact this
          obtain ⟨e1, e2⟩ := HPUT.out N 0
          clear HFIN HPUT hN hF
          go_wp2
          exact post_st2 2 3 Try.results13 rfl e1 rfl rfl ⟨⟨n, D, N, 0, 0, rfl, HF2.out⟩, e2⟩
        · have dF : decide (F < 0) = false := by simp; omega
          have HF2 : Hid (NmT n t n D N F 0) := by
            have := HFIN.out
            unfold up0 at this
            rw [if_neg hN, if_neg hF] at this
            exact this
          obtain ⟨e1, e2⟩ := HPUT.out N F
          clear HFIN HPUT hN hF
          go_wp2
          exact post_st2 2 3 Try.results13 rfl e1 rfl rfl ⟨⟨n, D, N, F, 0, rfl, HF2.out⟩, e2⟩
end Go.Proofs.Ytlmjlffipinjiaa
