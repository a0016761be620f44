/- Maps as they read: pairs of numbers, and numbers, as keys. -/
import Derived.Test.YtpeplnojmogkfaaLA
import Derived.Maps.RangeWalk
import Derived.Maps.OwnSet
import Derived.Maps.OwnOps
import Derived.DeepKeys4
import Derived.WideKeyEntry
namespace Go.Proofs.Ytpeplnojmogkfaa
open Go.RowKit Go.Maps Go.ChangeMaps Go.WideElems Go.MapKept

theorem undMP : Try.prog.underlying 40 = some (.map 50 3) := by kernel_rfl
theorem undMC : Try.prog.underlying 53 = some (.map 55 3) := by kernel_rfl
theorem undMI : Try.prog.underlying 57 = some (.map 3 3) := by kernel_rfl
theorem zero3' (u : World) : (zeroValue 3).run Try.prog u = .ok (.int .i64 0) u := by kernel_rfl
theorem laidOutG : laidOutB Try.prog = true := by kernel_rfl
theorem keyLawP : Go.WideMaps.KeyLaw Try.prog 50 := deep_law_laid laidOutG (m := 2) (by omega) (of_decide_eq_true (by kernel_rfl)) (by kernel_rfl) (by rw [Try.underlying50])
theorem keyedP : Keyed Try.prog 50 := Keyed.of_law keyLawP
theorem cellsP : Try.prog.cellsOf 50 = 2 := by kernel_rfl
theorem keyTypeP : Try.prog.keyType 50 = true := by kernel_rfl
theorem keyLawC : Go.WideMaps.KeyLaw Try.prog 55 := deep_law_laid laidOutG (m := 2) (by omega) (of_decide_eq_true (by kernel_rfl)) (by kernel_rfl) (by rw [Try.underlying55])
theorem keyedC : Keyed Try.prog 55 := Keyed.of_law keyLawC
theorem cellsC : Try.prog.cellsOf 55 = 2 := by kernel_rfl
theorem keyTypeC : Try.prog.keyType 55 = true := by kernel_rfl
theorem keyedI : Keyed Try.prog 3 := int_keyed und3
theorem cells3' : Try.prog.cellsOf 3 = 1 := by kernel_rfl
theorem types_pos : ∃ m, Try.prog.types.size = m + 1 := by
  have h : decide (0 < Try.prog.types.size) = true := by kernel_rfl
  have := of_decide_eq_true h
  exact ⟨Try.prog.types.size - 1, by omega⟩
/-- Two numbers as a value. -/
def pV (c : Nat × Nat) : Value := .agg #[.int .i64 (c.1 : Int), .int .i64 (c.2 : Int)]
/-- Numbers that are small. -/
def POk (c : Nat × Nat) : Prop := c.1 ≤ 99 ∧ c.2 ≤ 99
theorem pV_inj {c d : Nat × Nat} (h : pV c = pV d) : c = d := by
  unfold pV at h
  simp only [Value.agg.injEq, Array.mk.injEq, List.cons.injEq, Value.int.injEq, true_and, and_true] at h
  exact Prod.ext (by omega) (by omega)
theorem key_p (c : Nat × Nat) (hc : POk c) : ∃ kl, keyOf Try.prog 50 (pV c) = some kl := by
  unfold keyOf
  rw [Try.underlying50]
  have hfm : (pV c).formed Try.prog 50 = true := by simp [pV, Value.formed, cellsP]
  simp only [keyTypeP, hfm, Bool.and_self, if_true]
  have h3 : ∀ (d : Nat) (n : Int), (Lit.int .i64 n).wf = true → Try.prog.keyLits (d + 1) 3 [.int .i64 n] = some [.int .i64 n] := by
    intro d n hn
    unfold Program.keyLits
    rw [und3]
    simp [hn]
  have hl : (pV c).cells.toList = [.int .i64 (c.1 : Int), .int .i64 (c.2 : Int)] := by simp [Value.cells, pV]
  rw [hl]
  have w1 : (Lit.int .i64 (c.1 : Int)).wf = true := WalkArith.wf_i64 (by have := hc.1; omega)
  have w2 : (Lit.int .i64 (c.2 : Int)).wf = true := WalkArith.wf_i64 (by have := hc.2; omega)
  have hmain : ∀ m, Try.prog.keyLits (m + 1 + 1) 50 [.int .i64 (c.1 : Int), .int .i64 (c.2 : Int)] = some [.int .i64 (c.1 : Int), .int .i64 (c.2 : Int)] := by
    intro m
    unfold Program.keyLits
    rw [Try.underlying50]
    simp [cellsP, cells3', h3 _ _ w1, h3 _ _ w2]
  obtain ⟨m, hm⟩ := types_pos
  rw [hm, hmain m]
  exact ⟨_, rfl⟩
theorem key_c (c : Nat × Nat) (hc : POk c) : ∃ kl, keyOf Try.prog 55 (pV c) = some kl := by
  unfold keyOf
  rw [Try.underlying55]
  have hfm : (pV c).formed Try.prog 55 = true := by simp [pV, Value.formed, cellsC]
  simp only [keyTypeC, hfm, Bool.and_self, if_true]
  have h3 : ∀ (d : Nat) (n : Int), (Lit.int .i64 n).wf = true → Try.prog.keyLits (d + 1) 3 [.int .i64 n] = some [.int .i64 n] := by
    intro d n hn
    unfold Program.keyLits
    rw [und3]
    simp [hn]
  have hl : (pV c).cells.toList = [.int .i64 (c.1 : Int), .int .i64 (c.2 : Int)] := by simp [Value.cells, pV]
  rw [hl]
  have w1 : (Lit.int .i64 (c.1 : Int)).wf = true := WalkArith.wf_i64 (by have := hc.1; omega)
  have w2 : (Lit.int .i64 (c.2 : Int)).wf = true := WalkArith.wf_i64 (by have := hc.2; omega)
  have hmain : ∀ m, Try.prog.keyLits (m + 1 + 1) 55 [.int .i64 (c.1 : Int), .int .i64 (c.2 : Int)] = some [.int .i64 (c.1 : Int), .int .i64 (c.2 : Int)] := by
    intro m
    unfold Program.keyLits
    rw [Try.underlying55]
    simp [cellsC, cells3', h3 _ _ w1, h3 _ _ w2]
  obtain ⟨m, hm⟩ := types_pos
  rw [hm, hmain m]
  exact ⟨_, rfl⟩
noncomputable def kP (c : Nat × Nat) : Lit := @Classical.epsilon Lit ⟨.bool false⟩ fun kl => keyOf Try.prog 50 (pV c) = some kl
theorem kP_of {c : Nat × Nat} (h : POk c) : keyOf Try.prog 50 (pV c) = some (kP c) :=
  @Classical.epsilon_spec_aux Lit ⟨.bool false⟩ (fun kl => keyOf Try.prog 50 (pV c) = some kl) (key_p c h)
noncomputable def kC (c : Nat × Nat) : Lit := @Classical.epsilon Lit ⟨.bool false⟩ fun kl => keyOf Try.prog 55 (pV c) = some kl
theorem kC_of {c : Nat × Nat} (h : POk c) : keyOf Try.prog 55 (pV c) = some (kC c) :=
  @Classical.epsilon_spec_aux Lit ⟨.bool false⟩ (fun kl => keyOf Try.prog 55 (pV c) = some kl) (key_c c h)
def kI (x : Nat) : Lit := .int .i64 (x : Int)
def IOk (x : Nat) : Prop := x ≤ 999
theorem kI_of {x : Nat} (h : IOk x) : keyOf Try.prog 3 (.int .i64 (x : Int)) = some (kI x) := keyOf_int_mk und3 (WalkArith.wf_i64 (by unfold IOk at h; omega))
/-- Keys of a kind. -/
structure KeyF {α : Type} (K : α → Lit) (ok : α → Prop) : Prop where
  lit : ∀ x, ok x → WideAt.IsKeyLit (K x)
  inj : ∀ x y, ok x → ok y → K x = K y → x = y
theorem keyFP : KeyF kP POk := ⟨fun _ h => keyedP.key (kP_of h), fun x y hx hy e => pV_inj (keyedP.inj (kP_of hx) (by rw [e]; exact kP_of hy))⟩
theorem keyFC : KeyF kC POk := ⟨fun _ h => keyedC.key (kC_of h), fun x y hx hy e => pV_inj (keyedC.inj (kC_of hx) (by rw [e]; exact kC_of hy))⟩
theorem keyFI : KeyF kI IOk := ⟨fun _ h => keyedI.key (kI_of h), fun x y _ _ e => by unfold kI at e; simp only [Lit.int.injEq, true_and] at e; omega⟩
section
variable {α : Type} {K : α → Lit} {ok : α → Prop}
/-- A map that reads as a list of what stands at each key. -/
structure MpIs (K : α → Lit) (ok : α → Prop) (D : DataW Unit) (L : List (α × Int)) : Prop where
  has : ∀ kl, Maps.has D kl = true → ∃ e ∈ L, kl = K e.1
  at_ : ∀ e ∈ L, Maps.has D (K e.1) = true ∧ ∀ z, D.atKey (K e.1) z = .lit (.int .i64 e.2)
  ok_ : ∀ e ∈ L, ok e.1
  nod : (L.map Prod.fst).Nodup
  sz : Maps.size D = L.length
theorem MpIs.empty (K : α → Lit) (ok : α → Prop) : MpIs K ok (.map []) [] := ⟨fun kl h => by simp [Maps.has] at h, fun x h => absurd h (by simp), fun x h => absurd h (by simp), List.nodup_nil, rfl⟩
theorem MpIs.has_iff (F : KeyF K ok) {D : DataW Unit} {L : List (α × Int)} (h : MpIs K ok D L) {x : α} (hx : ok x) : Maps.has D (K x) = true ↔ x ∈ L.map Prod.fst := by
  constructor
  · intro hh
    obtain ⟨e, he, ek⟩ := h.has _ hh
    rw [F.inj x e.1 hx (h.ok_ e he) ek]
    exact List.mem_map.2 ⟨e, he, rfl⟩
  · intro hm
    obtain ⟨e, he, rfl⟩ := List.mem_map.1 hm
    exact (h.at_ e he).1
theorem MpIs.put (F : KeyF K ok) {D : DataW Unit} {L : List (α × Int)} (h : MpIs K ok D L) (hD : Tidy D) {x : α} (hx : ok x) (hn : x ∉ L.map Prod.fst) (v : Int) : MpIs K ok (D.put (K x) (.lit (.int .i64 v))) (L ++ [(x, v)]) := by
  have ne : ∀ e ∈ L, K e.1 ≠ K x := fun e he ek => hn (by rw [← F.inj e.1 x (h.ok_ e he) hx ek]; exact List.mem_map.2 ⟨e, he, rfl⟩)
  refine ⟨fun kl hk => ?_, fun e he => ?_, fun e he => ?_, ?_, ?_⟩
  · by_cases e : kl = K x
    · exact ⟨(x, v), by simp, e⟩
    · rw [has_put_other e] at hk
      obtain ⟨y, hy, e1⟩ := h.has _ hk
      exact ⟨y, by simp [hy], e1⟩
  · rcases List.mem_append.1 he with he | he
    · rw [has_put_other (ne e he)]
      exact ⟨(h.at_ e he).1, fun z => by rw [atKey_put_other (ne e he)]; exact (h.at_ e he).2 z⟩
    · rw [List.mem_singleton] at he
      subst he
      exact ⟨has_put_same hD.isMap (F.lit x hx) _, fun z => atKey_put_same hD.isMap (F.lit x hx) _ z⟩
  · rcases List.mem_append.1 he with he | he
    · exact h.ok_ e he
    · rw [List.mem_singleton] at he
      subst he
      exact hx
  · rw [List.map_append]
    refine List.nodup_append.2 ⟨h.nod, by simp, fun a ha b hb e => ?_⟩
    rw [List.map_cons, List.map_nil, List.mem_singleton] at hb
    subst hb
    exact hn (by rw [← e]; exact ha)
  · rw [size_put hD, if_neg (fun hh => hn ((h.has_iff F hx).1 hh)), h.sz]
    simp
/-- A map that counts what stands in a list. -/
structure CtIs [DecidableEq α] (K : α → Lit) (ok : α → Prop) (D : DataW Unit) (L : List α) : Prop where
  has : ∀ kl, Maps.has D kl = true → ∃ x ∈ L, kl = K x
  at_ : ∀ x ∈ L, Maps.has D (K x) = true ∧ ∀ z, D.atKey (K x) z = .lit (.int .i64 (L.count x : Int))
  ok_ : ∀ x ∈ L, ok x
  sz : ∃ M : List α, M.Nodup ∧ (∀ x, x ∈ M ↔ x ∈ L) ∧ Maps.size D = M.length
variable [DecidableEq α]
theorem CtIs.empty (K : α → Lit) (ok : α → Prop) : CtIs K ok (.map []) [] := ⟨fun kl h => by simp [Maps.has] at h, fun x h => absurd h (by simp), fun x h => absurd h (by simp), [], List.nodup_nil, by simp, rfl⟩
theorem CtIs.has_iff (F : KeyF K ok) {D : DataW Unit} {L : List α} (h : CtIs K ok D L) {x : α} (hx : ok x) : Maps.has D (K x) = true ↔ x ∈ L := by
  constructor
  · intro hh
    obtain ⟨e, he, ek⟩ := h.has _ hh
    rw [F.inj x e hx (h.ok_ e he) ek]
    exact he
  · exact fun hm => (h.at_ x hm).1
theorem CtIs.look (F : KeyF K ok) {D : DataW Unit} {L : List α} (h : CtIs K ok D L) {x : α} (hx : ok x) {c : Int} (hat : D.atKey (K x) (.lit (.int .i64 0)) = .lit (.int .i64 c)) : c = (L.count x : Int) := by
  by_cases e : x ∈ L
  · rw [(h.at_ x e).2] at hat
    simp only [DataW.lit.injEq, Lit.int.injEq, true_and] at hat
    exact hat.symm
  · have hn : Maps.has D (K x) = false := by
      cases hh : Maps.has D (K x) with
      | false => rfl
      | true => exact absurd ((h.has_iff F hx).1 hh) e
    rw [atKey_of_not_has hn] at hat
    simp only [DataW.lit.injEq, Lit.int.injEq, true_and] at hat
    rw [List.count_eq_zero.2 e]; omega
theorem CtIs.look_bd (F : KeyF K ok) {D : DataW Unit} {L : List α} (h : CtIs K ok D L) {x : α} (hx : ok x) {c : Int} (hat : D.atKey (K x) (.lit (.int .i64 0)) = .lit (.int .i64 c)) : 0 ≤ c ∧ c ≤ L.length := by
  rw [h.look F hx hat]
  have := List.count_le_length (a := x) (l := L)
  omega
theorem CtIs.put (F : KeyF K ok) {D : DataW Unit} {L : List α} (h : CtIs K ok D L) (hD : Tidy D) {x : α} (hx : ok x) : CtIs K ok (D.put (K x) (.lit (.int .i64 ((L.count x : Int) + 1)))) (L ++ [x]) := by
  refine ⟨fun kl hk => ?_, fun y hy => ?_, fun y hy => ?_, ?_⟩
  · by_cases e : kl = K x
    · exact ⟨x, by simp, e⟩
    · rw [has_put_other e] at hk
      obtain ⟨y, hy, e1⟩ := h.has _ hk
      exact ⟨y, by simp [hy], e1⟩
  · by_cases e : y = x
    · subst e
      refine ⟨has_put_same hD.isMap (F.lit y hx) _, fun z => ?_⟩
      rw [atKey_put_same hD.isMap (F.lit y hx)]
      simp [List.count_append]
    · have hy' : y ∈ L := by simpa [e] using hy
      have ne : K y ≠ K x := fun e1 => e (F.inj y x (h.ok_ y hy') hx e1)
      rw [has_put_other ne]
      refine ⟨(h.at_ y hy').1, fun z => ?_⟩
      rw [atKey_put_other ne, (h.at_ y hy').2]
      have : List.count y [x] = 0 := List.count_eq_zero.2 (by simpa using e)
      rw [List.count_append, this, Nat.add_zero]
  · rcases List.mem_append.1 hy with hy | hy
    · exact h.ok_ y hy
    · rw [List.mem_singleton] at hy
      subst hy
      exact hx
  · obtain ⟨M, hM, hm, hs⟩ := h.sz
    by_cases e : x ∈ L
    · refine ⟨M, hM, fun y => ?_, ?_⟩
      · rw [hm, List.mem_append, List.mem_singleton]
        constructor
        · exact .inl
        · rintro (h | rfl)
          · exact h
          · exact e
      · rw [size_put hD, if_pos ((h.has_iff F hx).2 e), hs]
    · refine ⟨M ++ [x], List.nodup_append.2 ⟨hM, by simp, fun a ha b hb ab => ?_⟩, fun y => ?_, ?_⟩
      · rw [List.mem_singleton] at hb
        exact e ((hm x).1 (by rw [← hb, ← ab]; exact ha))
      · rw [List.mem_append, List.mem_append, hm]
      · rw [size_put hD, if_neg (fun hh => e ((h.has_iff F hx).1 hh)), hs]
        simp
theorem CtIs.put2 (F : KeyF K ok) {D : DataW Unit} {L : List α} (h : CtIs K ok D L) (hD : Tidy D) {x : α} (hx : ok x) {c : Int} (hat : D.atKey (K x) (.lit (.int .i64 0)) = .lit (.int .i64 c)) : CtIs K ok (D.put (K x) (.lit (.int .i64 (c + 1)))) (L ++ [x]) := by
  rw [h.look F hx hat]
  exact h.put F hD hx
end
theorem map_below {k : TypeId} {w w' : World} {B n : Nat} {D : DataW Unit} (h : w.ownsMap Try.prog k (plainElem Try.prog 3) B n D) (hb : Below w.heap.size w w') : w'.ownsMap Try.prog k (plainElem Try.prog 3) B n D := h.kept (row := none) ⟨hb.os, hb.tape, hb.output, hb.size, fun k hk _ => hb.block k hk⟩ (by simp)
/-- Cells are kept where a map turns. -/
theorem cell_grown {k : TypeId} {w w' : World} {B n : Nat} {D : DataW Unit} {g o : Nat} {v : Value} (h : w.ownsMap Try.prog k (plainElem Try.prog 3) B n D) (hg : w.grownBy w' (some B)) (hc : w.cell? ⟨g, o, none⟩ = some v) : w'.cell? ⟨g, o, none⟩ = some v := by
  have hlt := World.block_lt_of_cell? _ _ hc
  obtain ⟨es, clock, hb, _⟩ := h
  have hne : some g ≠ some B := fun e => by
    have e : g = B := by simpa using e
    subst e
    simp [World.cell?, hb] at hc
  have := hg.block g hlt hne
  exact (World.cell?_of_block (w := w) (a := ⟨g, o, none⟩) this).trans hc
end Go.Proofs.Ytpeplnojmogkfaa
