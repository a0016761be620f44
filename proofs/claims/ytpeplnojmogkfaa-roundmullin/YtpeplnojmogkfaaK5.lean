/- fill, walked. -/
import Derived.Test.YtpeplnojmogkfaaK3
import Derived.Test.YtpeplnojmogkfaaME
namespace Go.Proofs.Ytpeplnojmogkfaa
open Go.RowKit Go.Maps Go.ChangeMaps

theorem GoodR.noTw {n : Nat} {L : List (List Nat)} (h : GoodR n L) : NoTw L n L.length := fun x y a hx hy ha => h.rds.once x y hy hx a ha
theorem meetings_ok (n : Nat) (L : List (List Nat)) (v : Value) (w : World) (hv : Rw w v (toZ L)) (hL : GoodR n L) (hl : L.length = n - 1) :
    Calls Try.prog 27 #[v] w fun e w' => ∃ (B m : Nat) (D : DataW Unit), e = .returned (.tuple #[.map (some B), .bool true]) ∧ w.heap.size ≤ B ∧ m ≤ 999 ∧ w'.ownsMap Try.prog 50 (plainElem Try.prog 3) B m D ∧ MpIs kP POk D (mtA L n (n - 1)) ∧ Below w.heap.size w w' := by
  refine (meetings_any n L v w hv hL.lkd).mono ?_
  rintro e w' (⟨B, m, D, h1, h2, h3, h4, h5, _, h7⟩ | ⟨_, h, _⟩)
  · exact ⟨B, m, D, h1, h2, h3, h4, by rw [← hl]; exact h5, h7⟩
  · exact absurd hL.noTw h
/-- What has come of the cells. -/
structure CeI (n : Nat) (A B : List (List Nat)) (left : Lit → Bool) (D : DataW Unit) (Lc : List (Nat × Nat)) (k : Nat) : Prop where
  ct : CtIs kC POk D Lc
  few : Lc.length ≤ k
  mem : ∀ c, c ∈ Lc ↔ ∃ e ∈ mtA A n (n - 1), left (kP e.1) = false ∧ ceE B e = c
theorem mtA_ok {n : Nat} {A : List (List Nat)} (hA : GoodR n A) {i : Nat} (hi : i ≤ A.length) {e : (Nat × Nat) × Int} (he : e ∈ mtA A n i) : POk e.1 := by
  obtain ⟨j, a, hj, ha, _, rfl⟩ := mem_mtA.1 he
  have := hA.le
  have : (A.getD j []).getD a 0 < n := (hA.rds.rnd _ (getD_mem (show j < A.length by omega)) a ha).1
  exact ⟨show a ≤ 99 by omega, show (A.getD j []).getD a 0 ≤ 99 by omega⟩
theorem CeI.step {n : Nat} {A B : List (List Nat)} (hA : GoodR n A) (la : A.length = n - 1) {left : Lit → Bool} {D : DataW Unit} {Lc : List (Nat × Nat)} {k : Nat} (h : CeI n A B left D Lc k) (hD : Tidy D) {e : (Nat × Nat) × Int} (he : e ∈ mtA A n (n - 1)) (nod : ((mtA A n (n - 1)).map Prod.fst).Nodup) {c : Nat × Nat} (hc : ceE B e = c) (hok : POk c) {t : Int} (ht : D.atKey (kC c) (.lit (.int .i64 0)) = .lit (.int .i64 t)) :
    CeI n A B (fun z => left z && !z.sameKey (kP e.1)) (D.put (kC c) (.lit (.int .i64 (t + 1)))) (Lc ++ [c]) (k + 1) := by
  refine ⟨h.ct.put2 keyFC hD hok ht, by rw [List.length_append]; have := h.few; simp; omega, fun d => ?_⟩
  have hoke := mtA_ok hA (by omega) he
  have hself := WideAt.sameKey_self (keyFP.lit _ hoke)
  rw [List.mem_append, List.mem_singleton, h.mem]
  constructor
  · rintro (⟨f, hf, hlf, hcf⟩ | rfl)
    · exact ⟨f, hf, by rw [hlf]; rfl, hcf⟩
    · exact ⟨e, he, by rw [hself]; simp, hc⟩
  · rintro ⟨f, hf, hlf, hcf⟩
    by_cases hfe : f = e
    · subst hfe
      exact .inr (by rw [← hcf, hc])
    · refine .inl ⟨f, hf, ?_, hcf⟩
      have hne : kP f.1 ≠ kP e.1 := fun ek => hfe (map_inj_nod nod f hf e he (keyFP.inj _ _ (mtA_ok hA (by omega) hf) hoke ek))
      rw [sameKey_ne hne] at hlf
      simpa using hlf
theorem CeI.mono {n : Nat} {A B : List (List Nat)} {left : Lit → Bool} {D : DataW Unit} {Lc : List (Nat × Nat)} {k k' : Nat} (h : CeI n A B left D Lc k) (hk : k ≤ k') : CeI n A B left D Lc k' := ⟨h.ct, Nat.le_trans h.few hk, h.mem⟩
theorem CeI.done {n : Nat} {A B : List (List Nat)} (hA : GoodR n A) (hB : GoodR n B) (la : A.length = n - 1) (lb : B.length = n - 1) {left : Lit → Bool} {D D1 : DataW Unit} {Lc : List (Nat × Nat)} {k : Nat} (h : CeI n A B left D Lc k) (h1 : MpIs kP POk D1 (mtA A n (n - 1))) (hl : ∀ kl, left kl = false) : Maps.size D = Maps.size D1 ↔ Rms n A B := by
  obtain ⟨M, hM, hm, hs⟩ := h.ct.sz
  rw [hs, h1.sz, rms_cells hA.rds hB.rds la lb, ← img_len (mtA_nod hA.rds (show n - 1 ≤ A.length by omega)) hM]
  intro c
  rw [hm, h.mem]
  constructor
  · rintro ⟨e, he, _, hc⟩
    exact ⟨e, he, hc⟩
  · rintro ⟨e, he, hc⟩
    exact ⟨e, he, hl _, hc⟩
/-- An entry of the rows, and its column. -/
theorem ent_of {n : Nat} {A B : List (List Nat)} (hA : GoodR n A) (hB : GoodR n B) (la : A.length = n - 1) (lb : B.length = n - 1) {D2 : DataW Unit} (h2 : MpIs kP POk D2 (mtA B n (n - 1))) {e : (Nat × Nat) × Int} (he : e ∈ mtA A n (n - 1)) : ∃ x y i j : Nat, e = ((x, y), (i : Int)) ∧ x ≤ 99 ∧ y ≤ 99 ∧ i ≤ 99 ∧ j ≤ 99 ∧ ceE B e = (i, j) ∧ ∀ z, D2.atKey (kP (x, y)) z = .lit (.int .i64 (j : Int)) := by
  have h16 := hA.le
  have hok := mtA_ok hA (by omega) he
  obtain ⟨i, x, hi, hx, hle, rfl⟩ := mem_mtA.1 he
  have r := hA.rds.rnd _ (getD_mem (show i < A.length by omega)) x hx
  have r1 : (A.getD i []).getD x 0 < n := r.1
  have r2 : (A.getD i []).getD x 0 ≠ x := r.2.1
  obtain ⟨j, hj, hjy⟩ := all_meet hB.rds lb hx r1 (fun e => r2 e.symm)
  refine ⟨x, (A.getD i []).getD x 0, i, j, rfl, hok.1, hok.2, by omega, by omega, ?_, fun z => ?_⟩
  · unfold ceE
    rw [clB_is hB.rds (p := (x, (A.getD i []).getD x 0)) (by omega : j < B.length) hx hjy, Int.toNat_natCast]
  · have := (h2.at_ ((x, (A.getD i []).getD x 0), (j : Int)) (mem_mtA.2 ⟨j, x, hj, hx, by rw [hjy]; exact hle, by rw [hjy]⟩)).2 z
    exact this
/-- A row of two, and a look-up. -/
def Sx (g : Nat) (B2 : Nat) (x y j : Nat) (W : World) : Prop := W.cell? ⟨g, 0, none⟩ = some (.int .i64 (x : Int)) ∧ W.cell? ⟨g, 1, none⟩ = some (.int .i64 (y : Int)) ∧ (Instr.lookup 40 (.map (some B2)) (.agg #[.int .i64 (x : Int), .int .i64 (y : Int)]) false).run Try.prog W = .ok (.int .i64 (j : Int)) W
theorem Sx.grown {w w' : World} {g B2 x y j : Nat} (h : Sx g B2 x y j w) (hb : w'.heap[g]? = w.heap[g]?) (hl : (Instr.lookup 40 (.map (some B2)) (.agg #[.int .i64 (x : Int), .int .i64 (y : Int)]) false).run Try.prog w' = .ok (.int .i64 (j : Int)) w') : Sx g B2 x y j w' :=
  ⟨(World.cell?_of_block (w := w) (a := ⟨g, 0, none⟩) hb).trans h.1, (World.cell?_of_block (w := w) (a := ⟨g, 1, none⟩) hb).trans h.2.1, hl⟩
end Go.Proofs.Ytpeplnojmogkfaa
