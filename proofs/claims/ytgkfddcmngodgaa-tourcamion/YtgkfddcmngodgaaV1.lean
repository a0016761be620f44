/- The document's walked, walked. -/
import Derived.Test.YtgkfddcmngodgaaRSr
import Derived.Test.YtgkfddcmngodgaaTrX
import Derived.Test.YtgkfddcmngodgaaU6
namespace Go.Proofs.Ytgkfddcmngodgaa
open Go.RowKit Go.Maps

theorem nat_atT (s : List Nat) (a : Nat) : (s.map Int.ofNat).getD a 0 = ((s.getD a 0 : Nat) : Int) := by
  rw [List.getD_eq_getElem?_getD, List.getD_eq_getElem?_getD, List.getElem?_map]
  cases s[a]? <;> rfl
/-- A list's cells, where it has any. -/
theorem li_cells {w : World} {v : Value} {L : List Nat} (h : Sl w v (L.map Int.ofNat)) (h0 : 0 < L.length) : ∃ b o c, v = .slice (some ⟨b, o, none⟩) L.length c ∧ ∀ W, Below w.heap.size w W → ∀ j, j < L.length → W.cell? ⟨b, o + j, none⟩ = some (.int .i64 ((L.getD j 0 : Nat) : Int)) := by
  obtain ⟨b, o, c, e, _, hk⟩ := h.form (n := L.length) (by rw [List.length_map]) h0
  exact ⟨b, o, c, e, fun W bW j hj => by
    have hc := hk j hj
    rw [nat_atT] at hc
    exact (bW.cell (World.block_lt_of_cell? _ _ hc)).trans hc⟩
set_option maxRecDepth 100000 in
set_option maxHeartbeats 16000000 in
theorem walked_end {n : Nat} {l : List Int} (hg : GoodT n l) (rg : Bool) (L : List Nat) (tv v : Value) (w : World) (ht : Sl w tv l) (hv : Sl w v (L.map Int.ofNat)) (hl : L.length = n) (hb : ∀ x ∈ L, x < n) :
    Calls Try.prog 37 #[.agg #[.int .i64 (n : Int), tv], v, .bool rg] w fun e w' => (∃ y, e = .returned (.tuple #[.int .i64 ((wk n (tB n l) rg 0 L).1 : Int), y]) ∧ Sl w' y ((wk n (tB n l) rg 0 L).2.map Int.ofNat)) ∧ Below w.heap.size w w' := by
  have hn1 := hg.one
  have hn9 := hg.le
  obtain ⟨b, o, c, rfl, hC⟩ := li_cells hv (by omega)
  have HSV : Hid (∀ W, Below w.heap.size w W → Sl W (.slice (some ⟨b, o, none⟩) L.length c) (L.map Int.ofNat)) := fun W bW => hv.below bW
  have b1 := balloc w (.cells #[.int .i64 (n : Int), tv] 24)
  have HX := sq_cells (n : Int) tv w
  obtain ⟨x0, x1⟩ := HX _ (Below.refl _ _)
  have HZ : Hid (wk n (tB n l) rg 0 L = if rg && decide (1 < n) && !(tB n l) (L.getD (n - 1) 0) (L.getD 0 0) then (0, []) else (1, L)) := rfl
  rw [hl] at HSV hC ⊢
  have heq : ((n : Int) == (n : Int)) = true := by simp
  by_cases hrg : rg = true ∧ 1 < n
  · obtain ⟨rfl, h1⟩ := hrg
    have hd1 : decide ((1 : Int) < (n : Int)) = true := by simp; omega
    have hd1n : decide (1 < n) = true := by simp; omega
    obtain ⟨m, Hm⟩ : ∃ m, Hid (n - 1 = m) := ⟨_, rfl⟩
    have hmi : (n : Int) - 1 = (m : Int) := by rw [← Hm.out]; omega
    have hmn : m < n := by rw [← Hm.out]; omega
    have hmni : (m : Int) < (n : Int) := by omega
    obtain ⟨p, Hp⟩ : ∃ p, Hid (L.getD m 0 = p) := ⟨_, rfl⟩
    obtain ⟨q, Hq⟩ : ∃ q, Hid (L.getD 0 0 = q) := ⟨_, rfl⟩
    have hp : p < n := by rw [← Hp.out, List.getD_eq_getElem?_getD, List.getElem?_eq_getElem (by omega)]; exact hb _ (List.getElem_mem _)
    have hq : q < n := by rw [← Hq.out, List.getD_eq_getElem?_getD, List.getElem?_eq_getElem (by omega)]; exact hb _ (List.getElem_mem _)
    have y0 := hC _ b1 m hmn
    have y1 := hC _ b1 0 (by omega)
    rw [Hp.out] at y0
    rw [Hq.out, Nat.add_zero] at y1
    obtain ⟨g, Hgt⟩ : ∃ g, Hid (tB n l p q = g) := ⟨_, rfl⟩
    have C := Beats_any hg tv (w.alloc (.cells #[.int .i64 (n : Int), tv] 24)).drew ((ht.below b1).below (Below.refl _ _).drew) hp hq
    rw [Hgt.out] at C
    obtain ⟨w0, Hw0⟩ : ∃ w0, Hid (w.alloc (.cells #[.int .i64 (n : Int), tv] 24) = w0) := ⟨_, rfl⟩
    have hsz0 := b1.size
    have HB1 : Hid (Below w.heap.size w w0) := by rw [← Hw0.out]; exact b1
    have HZ2 : Hid (wk n (tB n l) true 0 L = if g then (1, L) else (0, [])) := by
      show _ = _
      rw [HZ.out, Hm.out, Hp.out, Hq.out, Hgt.out, hd1n]
      cases g <;> rfl
    clear HZ HX hv hC ht
    go_enter Try.func37, Try.ntmps37
    go_wp2_with fail
    rw [Hw0.out] at x0 x1 y0 y1 C hsz0 ⊢
    have hSA : w0.drew.cell? ⟨w.heap.size, 0, none⟩ = some (.int .i64 (n : Int)) ∧ w0.drew.cell? ⟨w.heap.size, 1, none⟩ = some tv ∧ w0.drew.cell? ⟨b, o + m, none⟩ = some (.int .i64 (p : Int)) ∧ w0.drew.cell? ⟨b, o, none⟩ = some (.int .i64 (q : Int)) := ⟨x0, x1, y0, y1⟩
    have HK5 : Hid (∀ w5, Below w0.drew.heap.size w0.drew w5 → w5.cell? ⟨w.heap.size, 0, none⟩ = some (.int .i64 (n : Int)) ∧ w5.cell? ⟨w.heap.size, 1, none⟩ = some tv ∧ w5.cell? ⟨b, o + m, none⟩ = some (.int .i64 (p : Int)) ∧ w5.cell? ⟨b, o, none⟩ = some (.int .i64 (q : Int))) := fun w5 b5 => ⟨(b5.cell (World.block_lt_of_cell? _ _ hSA.1)).trans hSA.1, (b5.cell (World.block_lt_of_cell? _ _ hSA.2.1)).trans hSA.2.1, (b5.cell (World.block_lt_of_cell? _ _ hSA.2.2.1)).trans hSA.2.2.1, (b5.cell (World.block_lt_of_cell? _ _ hSA.2.2.2)).trans hSA.2.2.2⟩
    have HBW : Hid (Below w.heap.size w w0.drew) := HB1.out.drew
    have hwm : IntKind.i64.wrap (m : Int) = (m : Int) := by rw [IntKind.wrap_i64]; omega
    have hn0 : (0 : Int) < (n : Int) := by omega
    have hn00 : 0 < n := by omega
    clear x0 x1 y0 y1 b1 HB1
    go_region_held3 (fun W : World => W.cell? ⟨w.heap.size, 0, none⟩ = some (.int .i64 (n : Int)) ∧ W.cell? ⟨w.heap.size, 1, none⟩ = some tv ∧ W.cell? ⟨b, o + m, none⟩ = some (.int .i64 (p : Int)) ∧ W.cell? ⟨b, o, none⟩ = some (.int .i64 (q : Int))) (first | assumption) (first | (go_at_call 29; refine C.mono ?_; rintro e w5 ⟨rfl, b5⟩; have hS5 := HK5.out w5 b5; have hB5 := HBW.out.trans (b5.mono HBW.out.size); clear C))
    cases g with
    | true =>
      go_wp2
      go_ret2
      exact ⟨⟨_, by rw [HZ2.out]; rfl, by rw [HZ2.out]; exact HSV.out _ hB5⟩, hB5⟩
    | false =>
      go_wp2
      go_ret2
      exact ⟨⟨_, by rw [HZ2.out]; rfl, by rw [HZ2.out]; exact Sl.nil _⟩, hB5⟩
  · have HZ2 : Hid (wk n (tB n l) rg 0 L = (1, L)) := by
      show _ = _
      rw [HZ.out]
      cases rg with
      | false => rfl
      | true =>
        have : ¬ 1 < n := fun h => hrg ⟨rfl, h⟩
        rw [decide_eq_false this]
        rfl
    clear HZ HX hC ht
    cases rg with
    | false =>
      clear hrg
      go_enter Try.func37, Try.ntmps37
      go_wp2
      go_ret2
      exact ⟨⟨_, by rw [HZ2.out]; rfl, by rw [HZ2.out]; exact HSV.out _ b1⟩, b1⟩
    | true =>
      have h1 : ¬ 1 < n := fun h => hrg ⟨rfl, h⟩
      have hd1 : decide ((1 : Int) < (n : Int)) = false := by simp; omega
      have hd1n : decide (1 < n) = false := by simp; omega
      clear hrg h1
      go_enter Try.func37, Try.ntmps37
      go_wp2
      go_ret2
      exact ⟨⟨_, by rw [HZ2.out]; rfl, by rw [HZ2.out]; exact HSV.out _ b1⟩, b1⟩
end Go.Proofs.Ytgkfddcmngodgaa
