/- The walk of fills. -/
import Derived.Test.YtmaplmgecohjbaaCCon
import Derived.Test.YtmaplmgecohjbaaG66
import Derived.Test.YtmaplmgecohjbaaP25
import Derived.Deep.QuietTactic
import Derived.BigQuiet
import Derived.OrdersHeld
namespace Go.Proofs.Ytmaplmgecohjbaa
open Go.RowKit

/-- A slice of lengths that lies in another block than g. -/
def LenIs (w : World) (g : Nat) (v : Value) (ls : List Nat) : Prop :=
  ∃ (a : Option Addr) (lc : Nat), v = .slice a ls.length lc ∧ ls.length ≤ lc ∧ ∀ j, j < ls.length → ∃ lb lo, a = some ⟨lb, lo, none⟩ ∧ lb ≠ g ∧ w.cell? ⟨lb, lo + j, none⟩ = some (.int .i64 (ls.getD j 0 : Int))
theorem LenIs.only {w w' : World} {g : Nat} {v : Value} {ls : List Nat} (h : LenIs w g v ls) (k : Only g w w') : LenIs w' g v ls := by
  obtain ⟨a, lc, e, hl, h⟩ := h
  refine ⟨a, lc, e, hl, fun j hj => ?_⟩
  obtain ⟨lb, lo, e1, e2, e3⟩ := h j hj
  exact ⟨lb, lo, e1, e2, (World.cell?_of_block (w := w) (a := ⟨lb, lo + j, none⟩) (k.2.2 lb e2)).trans e3⟩
theorem Own.drewN' {w : World} {g n : Nat} {f : Nat → Int} (h : Own w g n f) (q : Nat) : Own (w.drewN q) g n f := h
/-- What the first look reads. -/
def SF (lb lo g c l r : Nat) (w : World) : Prop := w.cell? ⟨lb, lo, none⟩ = some (.int .i64 (l : Int)) ∧ w.cell? ⟨g, c, none⟩ = some (.int .i64 (r : Int))
theorem Only.trans {g : Nat} {a b c : World} (h : Only g a b) (k : Only g b c) : Only g a c := ⟨h.1.trans k.1, k.2.1.trans h.2.1, fun x hx => (k.2.2 x hx).trans (h.2.2 x hx)⟩

/-- So much is counted of the first c colours. -/
def partF (k l : Nat) (ls : List Nat) (room : Nat → Nat) (c : Nat) : Nat := sR (fun x => if l ≤ room x then fillsN k ls (tk room x l) else 0) c
theorem partF_le (k l : Nat) (ls : List Nat) (room : Nat → Nat) : ∀ c, partF k l ls room c ≤ c * k ^ ls.length
  | 0 => by simp [partF, sR]
  | c + 1 => by
    have ih := partF_le k l ls room c
    unfold partF at ih ⊢
    rw [sR, Nat.add_mul, Nat.one_mul]
    have h := fills_le k ls (tk room c l)
    split <;> omega
theorem pow8 {k m : Nat} (hk : k ≤ 8) (hm : m ≤ 7) : k ^ m ≤ 2097152 := by
  by_cases h0 : k = 0
  · subst h0
    cases m with
    | zero => decide
    | succ m => rw [Nat.zero_pow (by omega)]; omega
  · exact Nat.le_trans (Nat.pow_le_pow_left hk m) (Nat.le_trans (Nat.pow_le_pow_right (by omega) hm) (by decide))

set_option maxHeartbeats 1000000 in
theorem fills_nil (a : Option Addr) (lc : Nat) (rv : Value) (w : World) : Calls Try.prog 68 #[.slice a 0 lc, rv] w fun e w' => e = .returned (.int .i64 1) ∧ w' = w := by
  go_enter Try.func68, Try.ntmps68
  go_wp2
  go_ret
  exact ⟨rfl, rfl⟩

theorem cut40a (lb lo m lc : Nat) (h8 : m ≤ 7) (h1 : ¬ lc = 1) (W : World) : (Instr.sliceAt 40 (.slice (some ⟨lb, lo, none⟩) (m + 1) lc) (some (.int .i64 1)) none none).run Try.prog W = .ok (.slice (some ⟨lb, lo + 1, none⟩) m (lc - 1)) W := by
  go_simp
  intro q; omega
theorem cut40b (lb lo : Nat) (W : World) : (Instr.sliceAt 40 (.slice (some ⟨lb, lo, none⟩) (0 + 1) 1) (some (.int .i64 1)) none none).run Try.prog W = .ok (.slice (some ⟨lb, lo, none⟩) 0 0) W := by
  go_simp
theorem cut40 (lb lo m lc : Nat) (h : m + 1 ≤ lc) (h8 : m ≤ 7) : ∃ v1, (∀ W, (Instr.sliceAt 40 (.slice (some ⟨lb, lo, none⟩) (m + 1) lc) (some (.int .i64 1)) none none).run Try.prog W = .ok v1 W) ∧ (v1 = .slice (some ⟨lb, lo + 1, none⟩) m (lc - 1) ∨ (lc = 1 ∧ v1 = .slice (some ⟨lb, lo, none⟩) m 0)) := by
  by_cases h1 : lc = 1
  · obtain rfl : m = 0 := by omega
    subst h1
    exact ⟨_, cut40b lb lo, .inr ⟨rfl, rfl⟩⟩
  · exact ⟨_, cut40a lb lo m lc h8 h1, .inl rfl⟩
/-- What fills answers, whatever the room is. -/
def FillsP (k : Nat) (ls : List Nat) : Prop := ∀ (room : Nat → Nat) (g rc : Nat) (lv : Value) (w : World), ls.length ≤ 7 → (∀ x ∈ ls, x ≤ 7) → (∀ c, room c ≤ 7) → LenIs w g lv ls → Own w g k (fun c => (room c : Int)) →
    Calls Try.prog 68 #[lv, .slice (some ⟨g, 0, none⟩) k rc] w fun e w' => e = .returned (.int .i64 (fillsN k ls room : Int)) ∧ Own w' g k (fun c => (room c : Int)) ∧ Only g w w'
set_option maxRecDepth 100000 in
set_option maxHeartbeats 8000000 in
theorem fills_any (k : Nat) (hk : k ≤ 8) : ∀ (ls : List Nat), FillsP k ls := by
  intro ls
  induction ls with
  | nil =>
    intro room g rc lv w _ _ _ hL hO
    obtain ⟨a, lc, rfl, _⟩ := hL
    exact (fills_nil a lc _ w).mono fun e w' ⟨e1, e2⟩ => ⟨by rw [e1]; rfl, by rw [e2]; exact hO, by rw [e2]; exact Only.refl _ _⟩
  | cons l ls ih =>
    intro room g rc lv w hlen hl7 hroom hL hO
    obtain ⟨m, Hm⟩ : ∃ m, Hid (ls.length = m) := ⟨_, rfl⟩
    have HL : Hid (LenIs w g lv (l :: ls)) := hL
    obtain ⟨a, lc, rfl, hlc, hcells⟩ := hL
    rw [List.length_cons] at hlc hlen HL hcells ⊢
    rw [Hm.out] at hlc hlen HL hcells ⊢
    obtain ⟨lb, lo, rfl, hlbg, hc0⟩ := hcells 0 (by omega)
    have HC : Hid (∀ j, j < m + 1 → w.cell? ⟨lb, lo + j, none⟩ = some (.int .i64 ((l :: ls).getD j 0 : Int))) := fun j hj => by
      obtain ⟨lb', lo', e1, _, e3⟩ := hcells j hj
      simp only [Option.some.injEq, Addr.mk.injEq, and_true] at e1
      obtain ⟨rfl, rfl⟩ := e1
      exact e3
    have hl := hl7 l (by simp)
    have HR : Hid (∀ c, room c ≤ 7) := hroom
    have HH : Hid (∀ x ∈ ls, x ≤ 7) := fun x hx => hl7 x (by simp [hx])
    have HIH : Hid (FillsP k ls) := ih
    have hpw := pow8 (m := m) hk (by omega)
    have HPF : Hid (∀ c, partF k l ls room c ≤ c * k ^ ls.length) := partF_le k l ls room
    have HPS : Hid (∀ c, partF k l ls room (c + 1) = partF k l ls room c + if l ≤ room c then fillsN k ls (tk room c l) else 0) := fun c => rfl
    have HFL : Hid (∀ r, fillsN k ls r ≤ k ^ ls.length) := fills_le k ls
    rw [Hm.out] at HPF HFL
    obtain ⟨z, Hz⟩ : ∃ z, Hid (fillsN k (l :: ls) room = z) := ⟨_, rfl⟩
    rw [Hz.out]
    have hbl : lb < w.heap.size := by simpa using block_lt_of_cell hc0
    obtain ⟨v1, hcut0, hv1⟩ := cut40 lb lo m lc hlc (by omega)
    have HCUT : Hid (∀ W, (Instr.sliceAt 40 (.slice (some ⟨lb, lo, none⟩) (m + 1) lc) (some (.int .i64 1)) none none).run Try.prog W = .ok v1 W) := hcut0
    clear hcut0
    have hm0 : (((m : Int) + 1) == 0) = false := by simp; omega
    clear ih hl7 hroom hcells hc0
    go_enter Try.func68, Try.ntmps68
    go_wp2
    go_loopw [5, 12] (fun o i wr => ∃ c p : Nat, i = .int .i64 (c : Int) ∧ c ≤ k ∧ o = .int .i64 (p : Int) ∧ Hid (partF k l ls room c = p) ∧ Own wr g k (fun c => (room c : Int)) ∧ Only g w wr) (fun _ i _ => (k - intOf i).toNat)
    case atStart => exact ⟨0, 0, rfl, by omega, rfl, (rfl : partF k l ls room 0 = 0), hO, Only.refl _ _⟩
    case round =>
      clear hO
      obtain ⟨c, p, rfl, hck, rfl, HP, hO, hOn⟩ := hrel
      have hpb := HPF.out c
      rw [HP.out] at hpb
      have hpb2 : p ≤ 8 * 2097152 := Nat.le_trans hpb (Nat.mul_le_mul (by omega) hpw)
      by_cases hlt : c < k
      · have hci : (c : Int) < k := by omega
        have hc0 : (0 : Int) ≤ (c : Int) := by omega
        have hdec : decide ((c : Int) < k) = true := by simp; omega
        have hcr := hO.cell c hlt
        have hfr := hO.frozen c
        have hrb := HR.out c
        have hps := HPS.out c
        have hcl : wr.cell? ⟨lb, lo, none⟩ = some (.int .i64 (l : Int)) := (World.cell?_of_block (w := w) (a := ⟨lb, lo, none⟩) (hOn.2.2 lb hlbg)).trans (by have := HC.out 0 (by omega); simpa using this)
        obtain ⟨rc0, Hrc⟩ : ∃ rc0, Hid (room c = rc0) := ⟨_, rfl⟩
        rw [Hrc.out] at hcr hrb hps
        have hSF : SF lb lo g c l rc0 wr := ⟨hcl, hcr⟩
        by_cases hle : l ≤ rc0
        · have hlei : (l : Int) ≤ (rc0 : Int) := by omega
          have hdl : decide ((l : Int) ≤ (rc0 : Int)) = true := by simp; omega
          rw [if_pos hle] at hps
          go_wp2_with fail
          refine wp_region_noPanic ?_
          refine wp_region_held_drew (S := SF lb lo g c l rc0) (by kernel_rfl) (hSF) (fun hSx => ?_)
          refine wpAnyH_take (i := 0) (v := .slice (some ⟨g, 0, none⟩) k rc) rfl (by kernel_rfl) (by kernel_rfl) (by kernel_rfl) (fun _ _ _ h => h) (Or.inl ⟨by rfl, fun w_ hSw => by clear hSw; go_simp⟩) hSx ?_
          try simp only [Act.put, List.setIfInBounds_toArray]
          refine wpAnyH_take (i := 1) (v := .int .i64 (c : Int)) rfl (by kernel_rfl) (by kernel_rfl) (by kernel_rfl) (fun _ _ _ h => h) (Or.inl ⟨by rfl, fun w_ hSw => by clear hSw; go_simp⟩) hSx ?_
          try simp only [Act.put]
          refine wpAnyH_take (i := 2) (v := .pointer (some ⟨g, c, none⟩)) rfl (by kernel_rfl) (by kernel_rfl) (by kernel_rfl) (fun _ _ _ h => h) (Or.inl ⟨by rfl, fun w_ hSw => by clear hSw; go_simp⟩) hSx ?_
          try simp only [Act.put]
          refine wpAnyH_take (i := 3) (v := .int .i64 (rc0 : Int)) rfl (by kernel_rfl) (by kernel_rfl) (by kernel_rfl) (fun _ _ _ h => h) (Or.inl ⟨by rfl, fun w_ hSw => by obtain ⟨hSw1, hSw2⟩ := hSw; go_simp⟩) hSx ?_
          try simp only [Act.put]
          refine wpAnyH_take (i := 4) (v := .slice (some ⟨lb, lo, none⟩) (m + 1) lc) rfl (by kernel_rfl) (by kernel_rfl) (by kernel_rfl) (fun _ _ _ h => h) (Or.inl ⟨by rfl, fun w_ hSw => by clear hSw; go_simp⟩) hSx ?_
          try simp only [Act.put]
          refine wpAnyH_take (i := 5) (v := .pointer (some ⟨lb, lo, none⟩)) rfl (by kernel_rfl) (by kernel_rfl) (by kernel_rfl) (fun _ _ _ h => h) (Or.inl ⟨by rfl, fun w_ hSw => by clear hSw; go_simp⟩) hSx ?_
          try simp only [Act.put]
          refine wpAnyH_take (i := 6) (v := .int .i64 (l : Int)) rfl (by kernel_rfl) (by kernel_rfl) (by kernel_rfl) (fun _ _ _ h => h) (Or.inl ⟨by rfl, fun w_ hSw => by obtain ⟨hSw1, hSw2⟩ := hSw; go_simp⟩) hSx ?_
          try simp only [Act.put]
          refine wpAnyH_take (i := 7) (v := .bool true) rfl (by kernel_rfl) (by kernel_rfl) (by kernel_rfl) (fun _ _ _ h => h) (Or.inl ⟨by rfl, fun w_ hSw => by clear hSw; go_simp⟩) hSx ?_
          try simp only [Act.put]
          refine wpAnyH_done (by kernel_rfl) ?_ _
          refine NoPanic.normal ?_
          go_simp
          -- the room with l less
          have hO1 : Own (wr.setCell ⟨g, c, none⟩ (.int .i64 ((rc0 - l : Nat) : Int))).drew.drew g k (fun x => (tk room c l x : Int)) := (hO.set c ((rc0 - l : Nat) : Int)).congr fun x _ => by
            unfold upd tk
            by_cases e : x = c
            · rw [if_pos e, if_pos e, e, Hrc.out]
            · rw [if_neg e, if_neg e]
          have hOn1 : Only g w (wr.setCell ⟨g, c, none⟩ (.int .i64 ((rc0 - l : Nat) : Int))).drew.drew := (hOn.set c _).drew.drew
          have hsub : ((rc0 : Int) - (l : Int)) = ((rc0 - l : Nat) : Int) := by omega
          have hSF2 : (wr.setCell ⟨g, c, none⟩ (.int .i64 ((rc0 - l : Nat) : Int))).drew.drew.cell? ⟨lb, lo, none⟩ = some (.int .i64 (l : Int)) := (World.cell?_of_block (w := wr) (heap_setCell_other wr _ _ _ hlbg)).trans hcl
          have hrt : ∀ x, tk room c l x ≤ 7 := fun x => by have := HR.out x; unfold tk; split <;> omega
          go_wp2_with fail
          refine wp_region_noPanic ?_
          refine wp_region_held_drew (S := fun w_ => w_.cell? ⟨lb, lo, none⟩ = some (.int .i64 (l : Int))) (by kernel_rfl) (hcl) (fun hSx => ?_)
          refine wpAnyH_take (i := 0) (v := .slice (some ⟨g, 0, none⟩) k rc) rfl (by kernel_rfl) (by kernel_rfl) (by kernel_rfl) (fun _ _ _ h => h) (Or.inl ⟨by rfl, fun w_ hSw => by clear hSw; go_simp⟩) hSx ?_
          try simp only [Act.put, List.setIfInBounds_toArray]
          refine wpAnyH_take (i := 1) (v := .int .i64 (c : Int)) rfl (by kernel_rfl) (by kernel_rfl) (by kernel_rfl) (fun _ _ _ h => h) (Or.inl ⟨by rfl, fun w_ hSw => by clear hSw; go_simp⟩) hSx ?_
          try simp only [Act.put]
          refine wpAnyH_take (i := 2) (v := .pointer (some ⟨g, c, none⟩)) rfl (by kernel_rfl) (by kernel_rfl) (by kernel_rfl) (fun _ _ _ h => h) (Or.inl ⟨by rfl, fun w_ hSw => by clear hSw; go_simp⟩) hSx ?_
          try simp only [Act.put]
          refine wpAnyH_take (i := 4) (v := .slice (some ⟨lb, lo, none⟩) (m + 1) lc) rfl (by kernel_rfl) (by kernel_rfl) (by kernel_rfl) (fun _ _ _ h => h) (Or.inl ⟨by rfl, fun w_ hSw => by clear hSw; go_simp⟩) hSx ?_
          try simp only [Act.put]
          refine wpAnyH_take (i := 5) (v := .pointer (some ⟨lb, lo, none⟩)) rfl (by kernel_rfl) (by kernel_rfl) (by kernel_rfl) (fun _ _ _ h => h) (Or.inl ⟨by rfl, fun w_ hSw => by clear hSw; go_simp⟩) hSx ?_
          try simp only [Act.put]
          refine wpAnyH_take (i := 6) (v := .int .i64 (l : Int)) rfl (by kernel_rfl) (by kernel_rfl) (by kernel_rfl) (fun _ _ _ h => h) (Or.inl ⟨by rfl, fun w_ hSw => by (try dsimp only at hSw); go_simp⟩) hSx ?_
          try simp only [Act.put]
          refine wpAnyH_ready (rs := [3]) (by kernel_rfl) (by simp) ?_
          refine AllReadyH.cons rfl (fun J hJ => ?_) AllReadyH.nil
          go_simp
          refine hJ.out _ _ hSx (fun hSy => ?_)
          clear hJ J
          try simp only [Act.put, List.setIfInBounds_toArray, List.set_cons_zero, List.set_cons_succ]
          refine wpAnyH_take (i := 7) (v := .int .i64 ((rc0 - l : Nat) : Int)) rfl (by kernel_rfl) (by kernel_rfl) (by kernel_rfl) (fun _ _ _ h => h) (Or.inl ⟨by rfl, fun w_ hSw => by clear hSw; go_simp; rw [IntKind.wrap_i64]; omega⟩) hSy ?_
          try simp only [Act.put, List.setIfInBounds_toArray]
          refine wpAnyH_take (i := 8) (v := .pointer (some ⟨g, c, none⟩)) rfl (by kernel_rfl) (by kernel_rfl) (by kernel_rfl) (fun _ _ _ h => h) (Or.inl ⟨by rfl, fun w_ hSw => by clear hSw; go_simp⟩) hSy ?_
          try simp only [Act.put]
          refine wpAnyH_ready (rs := [9]) (by kernel_rfl) (by simp) ?_
          refine AllReadyH.cons rfl (fun J hJ => ?_) AllReadyH.nil
          go_simp
          refine hJ.out _ _ hSF2 (fun _ => ?_)
          clear hJ J
          refine wpAnyH_done (by kernel_rfl) ?_ _
          refine NoPanic.normal ?_
          have hcut := HCUT.out
          -- the call of itself
          have hL1 : ∀ W, Only g w W → LenIs W g v1 ls := fun W hW => by
            rcases hv1 with rfl | ⟨h1, rfl⟩
            · refine ⟨_, lc - 1, by rw [Hm.out], by rw [Hm.out]; omega, fun q hq => ⟨lb, lo + 1, rfl, hlbg, ?_⟩⟩
              rw [Hm.out] at hq
              have h := (World.cell?_of_block (w := w) (a := ⟨lb, lo + (q + 1), none⟩) (hW.2.2 lb hlbg)).trans (HC.out (q + 1) (by omega))
              rw [show lo + 1 + q = lo + (q + 1) by omega]
              simpa using h
            · exact ⟨_, 0, by rw [Hm.out], by rw [Hm.out]; omega, fun q hq => absurd hq (by rw [Hm.out]; omega)⟩
          have C := HIH.out (tk room c l) g rc _ _ (by rw [Hm.out]; omega) HH.out hrt (hL1 _ hOn1) hO1
          have hf := HFL.out (tk room c l)
          rw [HP.out] at hps
          obtain ⟨f, Hf⟩ : ∃ f, Hid (fillsN k ls (tk room c l) = f) := ⟨_, rfl⟩
          rw [Hf.out] at C hf hps
          have hfb : f ≤ 2097152 := Nat.le_trans hf hpw
          have HPN : Hid (partF k l ls room (c + 1) = p + f) := hps
          have hadd : (((rc0 - l : Nat) : Int) + (l : Int)) = (rc0 : Int) := by omega
          clear hv1 hps hL1 hO1 hSF2 hSx hSF hcl hcr hfr hO hf
          go_wp2_with (go_at_call 68; refine C.mono ?_; rintro e w2 ⟨rfl, hO2, hOn2⟩)
          have hOn3 := hOn1.trans hOn2
          have hcl3 : w2.cell? ⟨lb, lo, none⟩ = some (.int .i64 (l : Int)) := (World.cell?_of_block (w := w) (a := ⟨lb, lo, none⟩) (hOn3.2.2 lb hlbg)).trans (by have := HC.out 0 (by omega); simpa using this)
          have hcr := hO2.cell c hlt
          have hfr := hO2.frozen c
          have htc : tk room c l c = rc0 - l := by unfold tk; rw [if_pos rfl, Hrc.out]
          rw [htc] at hcr
          have hSF3 : (w2.setCell ⟨g, c, none⟩ (.int .i64 (rc0 : Int))).drew.cell? ⟨lb, lo, none⟩ = some (.int .i64 (l : Int)) := (World.cell?_of_block (w := w2) (heap_setCell_other w2 _ _ _ hlbg)).trans hcl3
          have hO4 : Own (w2.setCell ⟨g, c, none⟩ (.int .i64 (rc0 : Int))).drew g k (fun c => (room c : Int)) := (hO2.set c (rc0 : Int)).congr fun x _ => by
            unfold upd tk
            by_cases e : x = c
            · rw [if_pos e, e, Hrc.out]
            · rw [if_neg e]; show ((if x = c then room x - l else room x : Nat) : Int) = _; rw [if_neg e]
          have hOn4 : Only g w (w2.setCell ⟨g, c, none⟩ (.int .i64 (rc0 : Int))).drew := (hOn3.set c _).drew
          clear hO2 hOn2 hOn1 C hOn htc
          go_wp2_with fail
          refine wp_region_noPanic ?_
          refine wp_region_held_drew (S := fun w_ => w_.cell? ⟨lb, lo, none⟩ = some (.int .i64 (l : Int))) (by kernel_rfl) (hcl3) (fun hSx => ?_)
          refine wpAnyH_take (i := 0) (v := .slice (some ⟨g, 0, none⟩) k rc) rfl (by kernel_rfl) (by kernel_rfl) (by kernel_rfl) (fun _ _ _ h => h) (Or.inl ⟨by rfl, fun w_ hSw => by clear hSw; go_simp⟩) hSx ?_
          try simp only [Act.put, List.setIfInBounds_toArray]
          refine wpAnyH_take (i := 1) (v := .int .i64 (c : Int)) rfl (by kernel_rfl) (by kernel_rfl) (by kernel_rfl) (fun _ _ _ h => h) (Or.inl ⟨by rfl, fun w_ hSw => by clear hSw; go_simp⟩) hSx ?_
          try simp only [Act.put]
          refine wpAnyH_take (i := 2) (v := .pointer (some ⟨g, c, none⟩)) rfl (by kernel_rfl) (by kernel_rfl) (by kernel_rfl) (fun _ _ _ h => h) (Or.inl ⟨by rfl, fun w_ hSw => by clear hSw; go_simp⟩) hSx ?_
          try simp only [Act.put]
          refine wpAnyH_take (i := 4) (v := .slice (some ⟨lb, lo, none⟩) (m + 1) lc) rfl (by kernel_rfl) (by kernel_rfl) (by kernel_rfl) (fun _ _ _ h => h) (Or.inl ⟨by rfl, fun w_ hSw => by clear hSw; go_simp⟩) hSx ?_
          try simp only [Act.put]
          refine wpAnyH_take (i := 5) (v := .pointer (some ⟨lb, lo, none⟩)) rfl (by kernel_rfl) (by kernel_rfl) (by kernel_rfl) (fun _ _ _ h => h) (Or.inl ⟨by rfl, fun w_ hSw => by clear hSw; go_simp⟩) hSx ?_
          try simp only [Act.put]
          refine wpAnyH_take (i := 6) (v := .int .i64 (l : Int)) rfl (by kernel_rfl) (by kernel_rfl) (by kernel_rfl) (fun _ _ _ h => h) (Or.inl ⟨by rfl, fun w_ hSw => by (try dsimp only at hSw); go_simp⟩) hSx ?_
          try simp only [Act.put]
          refine wpAnyH_ready (rs := [3]) (by kernel_rfl) (by simp) ?_
          refine AllReadyH.cons rfl (fun J hJ => ?_) AllReadyH.nil
          go_simp
          refine hJ.out _ _ hSx (fun hSy => ?_)
          clear hJ J
          try simp only [Act.put, List.setIfInBounds_toArray, List.set_cons_zero, List.set_cons_succ]
          refine wpAnyH_take (i := 7) (v := .int .i64 (rc0 : Int)) rfl (by kernel_rfl) (by kernel_rfl) (by kernel_rfl) (fun _ _ _ h => h) (Or.inl ⟨by rfl, fun w_ hSw => by clear hSw; go_simp; rw [IntKind.wrap_i64]; omega⟩) hSy ?_
          try simp only [Act.put, List.setIfInBounds_toArray]
          refine wpAnyH_take (i := 8) (v := .pointer (some ⟨g, c, none⟩)) rfl (by kernel_rfl) (by kernel_rfl) (by kernel_rfl) (fun _ _ _ h => h) (Or.inl ⟨by rfl, fun w_ hSw => by clear hSw; go_simp⟩) hSy ?_
          try simp only [Act.put]
          refine wpAnyH_ready (rs := [9]) (by kernel_rfl) (by simp) ?_
          refine AllReadyH.cons rfl (fun J hJ => ?_) AllReadyH.nil
          go_simp
          refine hJ.out _ _ hSF3 (fun _ => ?_)
          clear hJ J
          refine wpAnyH_done (by kernel_rfl) ?_ _
          refine NoPanic.normal ?_
          go_wp2
          go_roundw
          case rel => exact ⟨c + 1, p + f, by go_num, by omega, by go_num, HPN, hO4, hOn4⟩
          case measure => simp [intOf]; omega
        · have hlei : ¬ (l : Int) ≤ (rc0 : Int) := by omega
          have hdl : decide ((l : Int) ≤ (rc0 : Int)) = false := by simp; omega
          rw [if_neg hle, Nat.add_zero, HP.out] at hps
          have HPN : Hid (partF k l ls room (c + 1) = p) := hps
          clear hps
          go_wp2_with fail
          refine wp_region_noPanic ?_
          refine wp_region_held_drew (S := SF lb lo g c l rc0) (by kernel_rfl) (hSF) (fun hSx => ?_)
          refine wpAnyH_take (i := 0) (v := .slice (some ⟨g, 0, none⟩) k rc) rfl (by kernel_rfl) (by kernel_rfl) (by kernel_rfl) (fun _ _ _ h => h) (Or.inl ⟨by rfl, fun w_ hSw => by clear hSw; go_simp⟩) hSx ?_
          try simp only [Act.put, List.setIfInBounds_toArray]
          refine wpAnyH_take (i := 1) (v := .int .i64 (c : Int)) rfl (by kernel_rfl) (by kernel_rfl) (by kernel_rfl) (fun _ _ _ h => h) (Or.inl ⟨by rfl, fun w_ hSw => by clear hSw; go_simp⟩) hSx ?_
          try simp only [Act.put]
          refine wpAnyH_take (i := 2) (v := .pointer (some ⟨g, c, none⟩)) rfl (by kernel_rfl) (by kernel_rfl) (by kernel_rfl) (fun _ _ _ h => h) (Or.inl ⟨by rfl, fun w_ hSw => by clear hSw; go_simp⟩) hSx ?_
          try simp only [Act.put]
          refine wpAnyH_take (i := 3) (v := .int .i64 (rc0 : Int)) rfl (by kernel_rfl) (by kernel_rfl) (by kernel_rfl) (fun _ _ _ h => h) (Or.inl ⟨by rfl, fun w_ hSw => by obtain ⟨hSw1, hSw2⟩ := hSw; go_simp⟩) hSx ?_
          try simp only [Act.put]
          refine wpAnyH_take (i := 4) (v := .slice (some ⟨lb, lo, none⟩) (m + 1) lc) rfl (by kernel_rfl) (by kernel_rfl) (by kernel_rfl) (fun _ _ _ h => h) (Or.inl ⟨by rfl, fun w_ hSw => by clear hSw; go_simp⟩) hSx ?_
          try simp only [Act.put]
          refine wpAnyH_take (i := 5) (v := .pointer (some ⟨lb, lo, none⟩)) rfl (by kernel_rfl) (by kernel_rfl) (by kernel_rfl) (fun _ _ _ h => h) (Or.inl ⟨by rfl, fun w_ hSw => by clear hSw; go_simp⟩) hSx ?_
          try simp only [Act.put]
          refine wpAnyH_take (i := 6) (v := .int .i64 (l : Int)) rfl (by kernel_rfl) (by kernel_rfl) (by kernel_rfl) (fun _ _ _ h => h) (Or.inl ⟨by rfl, fun w_ hSw => by obtain ⟨hSw1, hSw2⟩ := hSw; go_simp⟩) hSx ?_
          try simp only [Act.put]
          refine wpAnyH_take (i := 7) (v := .bool false) rfl (by kernel_rfl) (by kernel_rfl) (by kernel_rfl) (fun _ _ _ h => h) (Or.inl ⟨by rfl, fun w_ hSw => by clear hSw; go_simp⟩) hSx ?_
          try simp only [Act.put]
          refine wpAnyH_done (by kernel_rfl) ?_ _
          refine NoPanic.normal ?_
          go_simp
          go_wp2
          go_roundw
          case rel => exact ⟨c + 1, p, by go_num, by omega, rfl, HPN, hO, hOn.drew⟩
          case measure => simp [intOf]; omega
      · have hdec : decide ((c : Int) < k) = false := by simp; omega
        obtain rfl : c = k := by omega
        obtain rfl : p = z := by rw [← HP.out, ← Hz.out]; rfl
        go_wp2
        go_ret
        exact ⟨rfl, hO, hOn⟩

end Go.Proofs.Ytmaplmgecohjbaa
