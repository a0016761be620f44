/- Kinds as keys; the walk of kind's cycles. -/
import Derived.Test.YtmaplmgecohjbaaC4
import Derived.Test.YtmaplmgecohjbaaGK
import Derived.Test.YtmaplmgecohjbaaCKind
import Derived.WideKeyEntry
namespace Go.Proofs.Ytmaplmgecohjbaa
open Go.RowKit Go.Maps

theorem und75 : Try.prog.underlying 75 = some (.array 7 3) := by kernel_rfl
theorem inf75 (f : Nat → Int) : (Try.prog.info? 75).map (·.size) = some (mrow f).size := by rw [mrow_size]; kernel_rfl
theorem inf75L (x : List Nat) : (Try.prog.info? 75).map (·.size) = some (mvL x).length := by rw [mvL_len]; kernel_rfl
theorem und52k : Try.prog.underlying 52 = some (.map 75 3) := by kernel_rfl
theorem idx75 (f : Nat → Int) (k : Nat) (h : k < 7) (w : World) : (Instr.index 75 (.agg (mrow f)) (.int .i64 (k : Int))).run Try.prog w = .ok (.int .i64 (f k)) w := by
  have : k = 0 ∨ k = 1 ∨ k = 2 ∨ k = 3 ∨ k = 4 ∨ k = 5 ∨ k = 6 := by omega
  rcases this with rfl | rfl | rfl | rfl | rfl | rfl | rfl <;> (change _ = _; kernel_rfl)
theorem keyLaw75 : Go.WideMaps.KeyLaw Try.prog 75 := deep_law_laid laidOutG (m := 2) (by omega) (of_decide_eq_true (by kernel_rfl)) (by kernel_rfl) (by rw [und75])
theorem keyed75 : Keyed Try.prog 75 := Keyed.of_law keyLaw75
theorem cells75 : Try.prog.cellsOf 75 = 7 := by kernel_rfl
theorem keyType75 : Try.prog.keyType 75 = true := by kernel_rfl
theorem key_krow (f : Nat → Int) (hf : ∀ j, j < 7 → (Lit.int .i64 (f j)).wf = true) : ∃ kl, keyOf Try.prog 75 (.agg (mrow f)) = some kl := by
  unfold keyOf
  rw [und75]
  have hfm : (Value.agg (mrow f)).formed Try.prog 75 = true := by simp [Value.formed, cells75]
  simp only [keyType75, hfm, Bool.and_self, if_true]
  have h3 : ∀ (d : Nat) (n : Int), (Lit.int .i64 n).wf = true → Try.prog.keyLits (d + 1) 3 [.int .i64 n] = some [.int .i64 n] := by
    intro d n hn
    unfold Program.keyLits
    rw [und3]
    simp [hn]
  have hl : (Value.agg (mrow f)).cells.toList = (List.range 7).map fun j => Value.int .i64 (f j) := by simp [Value.cells, mrow]
  rw [hl]
  have hmain : ∀ m, Try.prog.keyLits (m + 1 + 1) 75 ((List.range 7).map fun j => Value.int .i64 (f j)) = some ((List.range 7).map fun j => Lit.int .i64 (f j)) := by
    intro m
    unfold Program.keyLits
    rw [und75]
    simp only [cells75, cells3', List.length_map, List.length_range, if_true]
    simp [List.range_succ, h3 _ _ (hf 0 (by omega)), h3 _ _ (hf 1 (by omega)), h3 _ _ (hf 2 (by omega)), h3 _ _ (hf 3 (by omega)), h3 _ _ (hf 4 (by omega)), h3 _ _ (hf 5 (by omega)), h3 _ _ (hf 6 (by omega))]
  obtain ⟨m, hm⟩ := types_pos
  rw [hm, hmain m]
  exact ⟨_, rfl⟩
/-- Seven numbers, none above 7. -/
def SmK (x : List Nat) : Prop := x.length = 7 ∧ ∀ i, i < 7 → x.getD i 0 ≤ 7
noncomputable def keyK (x : List Nat) : Lit := @Classical.epsilon Lit ⟨.bool false⟩ fun kl => keyOf Try.prog 75 (mv x) = some kl
theorem keyK_of {x : List Nat} (h : SmK x) : keyOf Try.prog 75 (mv x) = some (keyK x) := by
  obtain ⟨kl, e⟩ := key_krow (fun j => (x.getD j 0 : Int)) (fun j hj => by
    have := h.2 j hj
    exact WalkArith.wf_i64 (by omega))
  exact @Classical.epsilon_spec_aux Lit ⟨.bool false⟩ (fun kl => keyOf Try.prog 75 (mv x) = some kl) ⟨kl, e⟩
theorem keyK_lit {x : List Nat} (h : SmK x) : WideAt.IsKeyLit (keyK x) := keyed75.key (keyK_of h)
theorem keyK_inj {x y : List Nat} (hx : SmK x) (hy : SmK y) (e : keyK x = keyK y) : x = y :=
  mv_inj hx.1 hy.1 (keyed75.inj (keyK_of hx) (by rw [e]; exact keyK_of hy))

/-- What a map of kinds reads as: a list of kinds, each with how often it stands there. -/
structure KindsIs (D : DataW Unit) (L : List (List Nat)) : Prop where
  has : ∀ kl, Maps.has D kl = true → ∃ x ∈ L, kl = keyK x
  mem : ∀ x ∈ L, Maps.has D (keyK x) = true
  at_ : ∀ x ∈ L, ∀ z, D.atKey (keyK x) z = .lit (.int .i64 (L.count x : Int))
theorem KindsIs.empty : KindsIs (.map []) [] := ⟨fun kl h => by simp [Maps.has] at h, fun x h => absurd h (by simp), fun x h => absurd h (by simp)⟩
theorem KindsIs.look {D : DataW Unit} {L : List (List Nat)} (h : KindsIs D L) (hL : ∀ y ∈ L, SmK y) {x : List Nat} (hx : SmK x) {c : Int} (hat : D.atKey (keyK x) (.lit (.int .i64 0)) = .lit (.int .i64 c)) : c = (L.count x : Int) := by
  by_cases e : x ∈ L
  · rw [h.at_ x e] at hat
    simp only [DataW.lit.injEq, Lit.int.injEq, true_and] at hat
    exact hat.symm
  · have hn : Maps.has D (keyK x) = false := by
      cases hh : Maps.has D (keyK x) with
      | false => rfl
      | true =>
        obtain ⟨y, hy, e1⟩ := h.has _ hh
        rw [keyK_inj hx (hL y hy) e1] at e
        exact absurd hy e
    rw [atKey_of_not_has hn] at hat
    simp only [DataW.lit.injEq, Lit.int.injEq, true_and] at hat
    rw [List.count_eq_zero.2 e]; omega
theorem KindsIs.put {D : DataW Unit} {L : List (List Nat)} (h : KindsIs D L) (hD : IsMap D) (hL : ∀ y ∈ L, SmK y) {x : List Nat} (hx : SmK x) : KindsIs (D.put (keyK x) (.lit (.int .i64 ((L.count x : Int) + 1)))) (L ++ [x]) := by
  refine ⟨fun kl hk => ?_, fun y hy => ?_, fun y hy z => ?_⟩
  · by_cases e : kl = keyK x
    · exact ⟨x, by simp, e⟩
    · rw [has_put_other e] at hk
      obtain ⟨y, hy, e1⟩ := h.has _ hk
      exact ⟨y, by simp [hy], e1⟩
  · by_cases e : y = x
    · subst e; exact has_put_same hD (keyK_lit hx) _
    · have hy' : y ∈ L := by simpa [e] using hy
      rw [has_put_other (fun e1 => e (keyK_inj (hL y hy') hx e1))]
      exact h.mem y hy'
  · by_cases e : y = x
    · subst e
      rw [atKey_put_same hD (keyK_lit hx)]
      simp [List.count_append]
    · have hy' : y ∈ L := by simpa [e] using hy
      rw [atKey_put_other (fun e1 => e (keyK_inj (hL y hy') hx e1)), h.at_ y hy']
      have : List.count y [x] = 0 := List.count_eq_zero.2 (by simpa using e)
      rw [List.count_append, this, Nat.add_zero]

/-- The sum over what has come. -/
noncomputable def sumK (L : List (List Nat)) (left : Lit → Bool) (F : List Nat → Int) : Int := (L.map fun y => if left (keyK y) then 0 else F y).sum
theorem sumK_all {L : List (List Nat)} {left : Lit → Bool} {F : List Nat → Int} (h : ∀ kl, left kl = false) : sumK L left F = (L.map F).sum := by
  unfold sumK; congr 1; exact List.map_congr_left fun y _ => by simp [h]
theorem sumK_start {D : DataW Unit} {L : List (List Nat)} (h : KindsIs D L) (F : List Nat → Int) : sumK L (Maps.has D) F = 0 := by
  unfold sumK
  rw [List.map_congr_left (g := fun _ => (0 : Int)) fun y hy => by simp [h.mem y hy]]
  clear h
  induction L with
  | nil => rfl
  | cons a l ih => rw [List.map_cons, List.sum_cons, ih]; rfl
theorem sumK_strike {left : Lit → Bool} {x : List Nat} (hx : SmK x) (hl : left (keyK x) = true) (F : List Nat → Int) : ∀ {L : List (List Nat)}, (∀ y ∈ L, SmK y) → sumK L (fun z => left z && !z.sameKey (keyK x)) F = sumK L left F + (L.count x : Int) * F x
  | [], _ => by simp [sumK]
  | y :: L, h => by
    have ih := sumK_strike hx hl F (L := L) fun z hz => h z (by simp [hz])
    have hs : (keyK x).sameKey (keyK x) = true := WideAt.sameKey_self (keyK_lit hx)
    unfold sumK at ih ⊢
    rw [List.map_cons, List.sum_cons, ih, List.map_cons, List.sum_cons]
    by_cases e : y = x
    · subst e
      rw [List.count_cons_self]
      simp only [hl, hs, Bool.not_true, Bool.and_false, Bool.false_eq_true, if_false, if_true]
      rw [Int.natCast_succ, Int.add_mul, Int.one_mul]; omega
    · have hne : (keyK y).sameKey (keyK x) = false := sameKey_ne fun e1 => e (keyK_inj (h y (by simp)) hx e1)
      rw [List.count_cons_of_ne e]
      simp only [hne, Bool.not_false, Bool.and_true]
      omega
theorem sumK_bd {L : List (List Nat)} {left : Lit → Bool} {F : List Nat → Int} (h : ∀ y, 0 ≤ F y) : 0 ≤ sumK L left F ∧ sumK L left F ≤ (L.map F).sum := by
  unfold sumK
  induction L with
  | nil => simp
  | cons a l ih =>
    rw [List.map_cons, List.sum_cons, List.map_cons, List.sum_cons]
    have := h a
    split <;> omega

/-- All seven numbers together. -/
def all7 (x : List Nat) (k : Nat) : Nat := ((List.range k).map fun j => x.getD j 0).sum
theorem all7_succ (x : List Nat) (k : Nat) : all7 x (k + 1) = all7 x k + x.getD k 0 := by simp [all7, List.range_succ]
theorem all7_sum {x : List Nat} (h : x.length = 7) : all7 x 7 = x.sum := by
  match x, h with
  | [a, b, c, d, e, f, g], _ => simp [all7, List.range_succ]
theorem all7_le {x : List Nat} (h : SmK x) : ∀ k, k ≤ 7 → all7 x k ≤ 7 * k
  | 0, _ => by simp [all7]
  | k + 1, hk => by rw [all7_succ]; have := all7_le h k (by omega); have := h.2 k (by omega); omega

set_option maxRecDepth 100000 in
set_option maxHeartbeats 1000000 in
theorem kindCycles_any (x : List Nat) (w : World) (hx : SmK x) :
    Calls Try.prog 65 #[mv x] w fun e w' => e = .returned (.int .i64 (x.sum : Int)) ∧ Below w.heap.size w w' := by
  rw [← all7_sum hx.1]
  obtain ⟨z, Hz⟩ : ∃ z, Hid (all7 x 7 = z) := ⟨_, rfl⟩
  rw [Hz.out]
  unfold mv
  obtain ⟨F, HF⟩ : ∃ F : Nat → Int, Hid ((fun j => (x.getD j 0 : Int)) = F) := ⟨_, rfl⟩
  rw [HF.out]
  have hFx : ∀ j, F j = (x.getD j 0 : Int) := fun j => by rw [← HF.out]
  have hk0 := MRow.made 75 w F
  have hB0 := balloc w (.cells (mrow F) 75)
  go_enter Try.func65, Try.ntmps65
  go_wp2_with (refine wpList_load_row rfl 75 _ rfl w.heap.size rfl 75 _ (0, 0) _ hk0 und75 rfl (inf75 _) ?_)
  go_loop [3, 7] (fun s i => ∃ k : Nat, i = .int .i64 (k : Int) ∧ k ≤ 7 ∧ s = .int .i64 (all7 x k : Int)) (fun _ i => (7 - intOf i).toNat)
  case atStart => exact ⟨0, rfl, by omega, rfl⟩
  case round =>
    obtain ⟨k, rfl, hk, rfl⟩ := hrel
    by_cases hlt : k < 7
    · have hki : (k : Int) < 7 := by omega
      have hdec : decide ((k : Int) < 7) = true := by simp; omega
      have hix := idx75 F k hlt
      obtain ⟨s, Hs⟩ : ∃ s, Hid (all7 x k = s) := ⟨_, rfl⟩
      have hsb := all7_le hx k (by omega)
      obtain ⟨y, Hy⟩ : ∃ y, Hid (x.getD k 0 = y) := ⟨_, rfl⟩
      have hyb := hx.2 k hlt
      have hFk := hFx k
      have hst := all7_succ x k
      rw [Hs.out] at hsb hst ⊢
      rw [Hy.out] at hyb hFk hst
      rw [hFk] at hix
      clear hFk
      go_wp2
      go_round
      case rel => exact ⟨k + 1, by go_num, by omega, by rw [hst]; go_num⟩
      case measure => simp [intOf]; omega
    · obtain rfl : k = 7 := by omega
      rw [Hz.out]
      go_wp2
      go_ret
      exact ⟨rfl, hB0⟩

end Go.Proofs.Ytmaplmgecohjbaa
