/- Which lines and planes the pairs of rows make, and how many they are; nothing of the program. -/
import Derived.Test.YtgdkfbgehbdkjabDoorSpN
import Derived.Test.YtgdkfbgehbdkjabDoorSpG
/- Each space of rows has a basis; nothing of the program. -/
namespace Go.Proofs.YtgdkfbgehbdkjabDoor
variable {q n : Nat} {ad mu : Nat → Nat → Nat} {ng : Nat → Nat}
theorem gz_ex (h : FqR q ad mu ng) {S : List (List Nat)} {R : Nat} {A : Nat → Nat → Nat} (hA : ∀ i j, i < R → j < n → A i j < q) (hS : rwF R n A = S) : ∀ c, c ≤ n → ∃ M t ld, Gz q n ad mu R S M c t ld
  | 0, _ => ⟨A, 0, _, by rw [← hS]; exact Gz.start n ad mu hA⟩
  | c + 1, hc => by
    obtain ⟨M, t, ld, G⟩ := gz_ex h hA hS c (by omega)
    by_cases e : ∀ r, t ≤ r → r < R → M r c = 0
    · exact ⟨M, t, ld, G.skip e⟩
    · have : ∃ k, t ≤ k ∧ k < R ∧ M k c ≠ 0 := Classical.byContradiction fun k => e fun r h1 h2 => Classical.byContradiction fun h3 => k ⟨r, h1, h2, h3⟩
      obtain ⟨k, h1, h2, h3⟩ := this
      have G2 := G.swap h1 h2
      have hm : swpF M t k t c ≠ 0 := by unfold swpF; rw [if_pos rfl]; exact h3
      have hl := G2.lt t c (by omega) (by omega)
      obtain ⟨u, hu, e⟩ := h.inv _ (by omega) hl
      exact ⟨_, _, _, G2.clear h (by omega) (by omega) hu (by rw [h.mu_comm _ _ hu hl]; exact e)⟩
theorem basis_ex (h : FqR q ad mu ng) {S : List (List Nat)} (hS : Rws q n S) : ∃ X, BasIs q ad mu n (Spn q ad mu n S) X := by
  have key : rwF S.length n (fun i j => (S.getD i []).getD j 0) = S := by
    refine List.ext_getElem (by simp [rwF]) fun i h1 h2 => ?_
    have : (rwF S.length n (fun i j => (S.getD i []).getD j 0))[i] = ofF n (fun j => (S.getD i []).getD j 0) := by simp [rwF]
    rw [this]
    have e : S.getD i [] = S[i] := by simp [List.getD_eq_getElem?_getD, h2]
    rw [e]
    exact ofF_getD _ (hS _ (List.getElem_mem h2)).len
  obtain ⟨M, t, ld, G⟩ := gz_ex h (S := S) (R := S.length) (A := fun i j => (S.getD i []).getD j 0) (fun i j hi _ => by
    have e : S.getD i [] = S[i] := by simp [List.getD_eq_getElem?_getD, hi]
    show (S.getD i []).getD j 0 < q
    rw [e]
    exact (hS _ (List.getElem_mem hi)).at h.pos j) key n (Nat.le_refl _)
  exact ⟨_, G.done h⟩
/-- What the program's Meet makes. -/
theorem meet_made (h : FqR q ad mu ng) {A B U V M : List (List Nat)} (hA : Rws q n A) (hB : Rws q n B) (hU : BasIs q ad mu n (Nrm q ad mu n A) U) (hV : BasIs q ad mu n (Nrm q ad mu n B) V) (hM : BasIs q ad mu n (Nrm q ad mu n (U ++ V)) M) :
    BasIs q ad mu n (fun v => Spn q ad mu n A v ∧ Spn q ad mu n B v) M := by
  obtain ⟨X, hX⟩ := basis_ex h hA
  obtain ⟨Y, hY⟩ := basis_ex h hB
  exact hM.congr fun v => meet_isS h hA hB hX hY hU hV v
end Go.Proofs.YtgdkfbgehbdkjabDoor

namespace Go.Proofs.YtgdkfbgehbdkjabDoor
variable {q n : Nat} {ad mu : Nat → Nat → Nat} {ng : Nat → Nat}

/-- A basis into a list, once. -/
def putL (L : List (List (List Nat))) (b : List (List Nat)) : List (List (List Nat)) := if L.contains b = true then L else L ++ [b]
theorem putL_mem (L : List (List (List Nat))) (b x : List (List Nat)) : x ∈ putL L b ↔ x ∈ L ∨ x = b := by
  unfold putL
  by_cases h : L.contains b = true
  · rw [if_pos h]
    refine ⟨.inl, fun k => ?_⟩
    rcases k with k | rfl
    · exact k
    · exact List.contains_iff_mem.1 h
  · rw [if_neg h]; simp
theorem putL_nodup {L : List (List (List Nat))} (b : List (List Nat)) (h : L.Nodup) : (putL L b).Nodup := by
  unfold putL
  by_cases k : L.contains b = true
  · rw [if_pos k]; exact h
  · rw [if_neg k, List.nodup_append]
    refine ⟨h, by simp, fun a ha c hc => ?_⟩
    rw [List.mem_singleton] at hc
    subst hc
    exact fun e => k (List.contains_iff_mem.2 (e ▸ ha))
theorem putL_len (L : List (List (List Nat))) (b : List (List Nat)) : (putL L b).length ≤ L.length + 1 := by
  unfold putL
  split
  · omega
  · simp
/-- The pairs that are looked at ahead of (c, d). -/
def Seen (c d c' d' : Nat) : Prop := 1 ≤ c' ∧ d' ≤ c' ∧ (c' < c ∨ (c' = c ∧ d' < d))
def Mde (q : Nat) (ad mu : Nat → Nat → Nat) (n c d k : Nat) (b : List (List Nat)) : Prop := b.length = k ∧ ∃ c' d', Seen c d c' d' ∧ BasIs q ad mu n (Spn q ad mu n [opn q n c', opn q n d']) b
structure Inv (q : Nat) (ad mu : Nat → Nat → Nat) (n c d : Nat) (L M : List (List (List Nat))) : Prop where
  nl : L.Nodup
  np : M.Nodup
  ml : ∀ b, b ∈ L ↔ Mde q ad mu n c d 1 b
  mp : ∀ b, b ∈ M ↔ Mde q ad mu n c d 2 b
theorem Inv.start : Inv q ad mu n 1 0 [] [] := by
  have key : ∀ k b, ¬ Mde q ad mu n 1 0 k b := fun k b ⟨_, c', d', ⟨h1, h2, h3⟩, _⟩ => by omega
  exact ⟨List.nodup_nil, List.nodup_nil, fun b => ⟨fun h => by simp at h, fun h => absurd h (key _ _)⟩, fun b => ⟨fun h => by simp at h, fun h => absurd h (key _ _)⟩⟩
theorem mde_step (h : FqR q ad mu ng) {c d k : Nat} (hc : 1 ≤ c) (hd : d ≤ c) {b : List (List Nat)} (hb : BasIs q ad mu n (Spn q ad mu n [opn q n c, opn q n d]) b) (x : List (List Nat)) : Mde q ad mu n c (d + 1) k x ↔ Mde q ad mu n c d k x ∨ (x = b ∧ b.length = k) := by
  constructor
  · rintro ⟨hk, c', d', ⟨h1, h2, h3⟩, hx⟩
    by_cases e : c' = c ∧ d' = d
    · obtain ⟨rfl, rfl⟩ := e
      have : x = b := hx.one h hb
      subst this
      exact .inr ⟨rfl, hk⟩
    · exact .inl ⟨hk, c', d', ⟨h1, h2, by omega⟩, hx⟩
  · rintro (⟨hk, c', d', ⟨h1, h2, h3⟩, hx⟩ | ⟨rfl, hk⟩)
    · exact ⟨hk, c', d', ⟨h1, h2, by omega⟩, hx⟩
    · exact ⟨hk, c, d, ⟨hc, hd, by omega⟩, hb⟩
theorem Inv.line (h : FqR q ad mu ng) {c d : Nat} {L M : List (List (List Nat))} (hI : Inv q ad mu n c d L M) (hc : 1 ≤ c) (hd : d ≤ c) {b : List (List Nat)} (hb : BasIs q ad mu n (Spn q ad mu n [opn q n c, opn q n d]) b) (h1 : b.length = 1) : Inv q ad mu n c (d + 1) (putL L b) M :=
  ⟨putL_nodup b hI.nl, hI.np, fun x => by rw [putL_mem, mde_step h hc hd hb, hI.ml]; simp [h1], fun x => by rw [mde_step h hc hd hb, hI.mp]; simp [h1]⟩
theorem Inv.plane (h : FqR q ad mu ng) {c d : Nat} {L M : List (List (List Nat))} (hI : Inv q ad mu n c d L M) (hc : 1 ≤ c) (hd : d ≤ c) {b : List (List Nat)} (hb : BasIs q ad mu n (Spn q ad mu n [opn q n c, opn q n d]) b) (h1 : b.length = 2) : Inv q ad mu n c (d + 1) L (putL M b) :=
  ⟨hI.nl, putL_nodup b hI.np, fun x => by rw [mde_step h hc hd hb, hI.ml]; simp [h1], fun x => by rw [putL_mem, mde_step h hc hd hb, hI.mp]; simp [h1]⟩
theorem Inv.next {c : Nat} {L M : List (List (List Nat))} (hI : Inv q ad mu n c (c + 1) L M) : Inv q ad mu n (c + 1) 0 L M := by
  have key : ∀ k b, Mde q ad mu n c (c + 1) k b ↔ Mde q ad mu n (c + 1) 0 k b := fun k b => by
    constructor
    · rintro ⟨hk, c', d', ⟨h1, h2, h3⟩, hx⟩; exact ⟨hk, c', d', ⟨h1, h2, by omega⟩, hx⟩
    · rintro ⟨hk, c', d', ⟨h1, h2, h3⟩, hx⟩; exact ⟨hk, c', d', ⟨h1, h2, by omega⟩, hx⟩
  exact ⟨hI.nl, hI.np, fun b => by rw [hI.ml, key], fun b => by rw [hI.mp, key]⟩
theorem opn_zero (q : Nat) : ∀ n, opn q n 0 = zV n
  | 0 => rfl
  | n + 1 => by
    rw [opn, Nat.zero_div, Nat.zero_mod, opn_zero q n]
    unfold zV ofF
    rw [List.range_succ, List.map_append]
    rfl
def r1B (n : Nat) (v : List Nat) : Bool := decide (ldV v < n) && v.getD (ldV v) 0 == 1
def r2B (n : Nat) (r s : List Nat) : Bool := r1B n r && (r1B n s && (decide (ldV r < ldV s) && (s.getD (ldV r) 0 == 0 && r.getD (ldV s) 0 == 0)))
theorem rref_1 {r : List Nat} (hr : Vc q n r) : Rref q n [r] ↔ r1B n r = true := by
  unfold r1B
  rw [Bool.and_eq_true, decide_eq_true_eq, beq_iff_eq]
  constructor
  · intro h; exact h.one r (by simp)
  · intro h
    refine ⟨fun x hx => ?_, fun x hx => ?_, by simp, fun x hx y hy hn => ?_⟩
    · rw [List.mem_singleton] at hx; subst hx; exact hr
    · rw [List.mem_singleton] at hx; subst hx; exact h
    · rw [List.mem_singleton] at hx hy; exact absurd (hx.trans hy.symm) hn
theorem rref_2 {r s : List Nat} (hr : Vc q n r) (hs : Vc q n s) : Rref q n [r, s] ↔ r2B n r s = true := by
  unfold r2B
  rw [Bool.and_eq_true, Bool.and_eq_true, Bool.and_eq_true, Bool.and_eq_true, decide_eq_true_eq, beq_iff_eq, beq_iff_eq, ← rref_1 hr, ← rref_1 hs]
  constructor
  · intro h
    have h1 : ldV r < ldV s := by simpa using h.inc
    have hn : r ≠ s := fun e => by subst e; omega
    exact ⟨⟨fun x hx => h.rws x (by simp at hx; simp [hx]), fun x hx => h.one x (by simp at hx; simp [hx]), by simp, fun x hx y hy k => by simp at hx hy; exact absurd (hx.trans hy.symm) k⟩,
      ⟨fun x hx => h.rws x (by simp at hx; simp [hx]), fun x hx => h.one x (by simp at hx; simp [hx]), by simp, fun x hx y hy k => by simp at hx hy; exact absurd (hx.trans hy.symm) k⟩, h1, h.col r (by simp) s (by simp) hn, h.col s (by simp) r (by simp) (Ne.symm hn)⟩
  · rintro ⟨a, b, c, d, e⟩
    refine ⟨fun x hx => ?_, fun x hx => ?_, by simpa using c, fun x hx y hy k => ?_⟩
    · simp at hx
      rcases hx with rfl | rfl
      · exact hr
      · exact hs
    · simp at hx
      rcases hx with rfl | rfl
      · exact a.one _ (by simp)
      · exact b.one _ (by simp)
    · simp at hx hy
      rcases hx with rfl | rfl <;> rcases hy with rfl | rfl
      · exact absurd rfl k
      · exact d
      · exact e
      · exact absurd rfl k
theorem nodup_mapS {α β : Type} {f : α → β} : ∀ {l : List α}, l.Nodup → (∀ a ∈ l, ∀ b ∈ l, f a = f b → a = b) → (l.map f).Nodup
  | [], _, _ => by simp
  | x :: l, h, k => by
    rw [List.nodup_cons] at h
    rw [List.map_cons, List.nodup_cons]
    refine ⟨fun hm => ?_, nodup_mapS h.2 fun a ha b hb => k a (by simp [ha]) b (by simp [hb])⟩
    obtain ⟨y, hy, e⟩ := List.mem_map.1 hm
    have := k y (by simp [hy]) x (by simp) e
    subst this
    exact h.1 hy
theorem opn_inj {c d : Nat} (hc : c < q ^ n) (hd : d < q ^ n) (e : opn q n c = opn q n d) : c = d := by
  rw [← shu_opn n c hc, ← shu_opn n d hd, e]
def lnE (q n : Nat) : List Nat := (List.range (q ^ n)).filter fun c => r1B n (opn q n c)
def plE (q n : Nat) : List Nat := (List.range (q ^ n * q ^ n)).filter fun x => r2B n (opn q n (x / q ^ n)) (opn q n (x % q ^ n))
/-- Where the lead is further behind the number is less. -/
def ordB (q n : Nat) : Bool := (List.range (q ^ n)).all fun c => (List.range (q ^ n)).all fun d => !(decide (ldV (opn q n c) < ldV (opn q n d))) || decide (d < c)
theorem Inv.lines (h : FqR q ad mu ng) {L M : List (List (List Nat))} (hI : Inv q ad mu n (q ^ n) 0 L M) : L.length = (lnE q n).length := by
  have hn : ((lnE q n).map fun c => [opn q n c]).Nodup := nodup_mapS (List.nodup_range.filter _) fun a ha b hb e => by
    have ha' := List.mem_range.1 (List.mem_filter.1 ha).1
    have hb' := List.mem_range.1 (List.mem_filter.1 hb).1
    exact opn_inj ha' hb' (by simpa using e)
  have := ((List.perm_ext_iff_of_nodup hI.nl hn).2 fun b => ?_).length_eq
  · rw [this, List.length_map]
  · rw [hI.ml]
    constructor
    · rintro ⟨hk, c', d', _, hx⟩
      match b, hk with
      | [r], _ =>
        have hr : Vc q n r := hx.rref.rws r (by simp)
        refine List.mem_map.2 ⟨shu q r, List.mem_filter.2 ⟨List.mem_range.2 (shu_lt h.pos n r hr), ?_⟩, by rw [opn_shu h.pos n r hr]⟩
        rw [opn_shu h.pos n r hr]
        exact (rref_1 hr).1 hx.rref
    · intro hb
      obtain ⟨c, hc, rfl⟩ := List.mem_map.1 hb
      obtain ⟨hc1, hc2⟩ := List.mem_filter.1 hc
      have hc1 := List.mem_range.1 hc1
      have hv := opn_vc (q := q) h.pos n c
      have hR := (rref_1 hv).2 hc2
      have c0 : 1 ≤ c := by
        refine Nat.succ_le_of_lt (Nat.pos_of_ne_zero fun e => ?_)
        subst e
        have := (hR.one _ (List.mem_singleton.2 rfl)).2
        rw [opn_zero, zV_at] at this
        omega
      refine ⟨rfl, c, 0, ⟨c0, Nat.zero_le _, .inl hc1⟩, hR, fun v => ?_⟩
      have hz : Vc q n (opn q n 0) := opn_vc h.pos n 0
      have w1 : Rws q n [opn q n c] := hR.rws
      have w2 : Rws q n [opn q n c, opn q n 0] := fun x hx => by
        simp only [List.mem_cons, List.not_mem_nil, or_false] at hx
        rcases hx with rfl | rfl
        · exact hv
        · exact hz
      refine spn_same h w1 w2 (fun r hr => Spn.row h w2 (by simp at hr; simp [hr])) (fun s hs => ?_) v
      simp only [List.mem_cons, List.not_mem_nil, or_false] at hs
      rcases hs with rfl | rfl
      · exact Spn.row h w1 (by simp)
      · rw [opn_zero]; exact Spn.zero
theorem Inv.planes (h : FqR q ad mu ng) {L M : List (List (List Nat))} (hI : Inv q ad mu n (q ^ n) 0 L M) (ho : ordB q n = true) : M.length = (plE q n).length := by
  have hp : 0 < q ^ n := Nat.pow_pos h.pos
  have hord : ∀ c d, c < q ^ n → d < q ^ n → ldV (opn q n c) < ldV (opn q n d) → d < c := fun c d hc hd hl => by
    have := List.all_eq_true.1 (List.all_eq_true.1 ho c (List.mem_range.2 hc)) d (List.mem_range.2 hd)
    simpa [hl] using this
  have hn : ((plE q n).map fun x => [opn q n (x / q ^ n), opn q n (x % q ^ n)]).Nodup := nodup_mapS (List.nodup_range.filter _) fun a ha b hb e => by
    have ha' := List.mem_range.1 (List.mem_filter.1 ha).1
    have hb' := List.mem_range.1 (List.mem_filter.1 hb).1
    simp only [List.cons.injEq, and_true] at e
    have e1 := opn_inj (Nat.div_lt_of_lt_mul ha') (Nat.div_lt_of_lt_mul hb') e.1
    have e2 := opn_inj (Nat.mod_lt _ hp) (Nat.mod_lt _ hp) e.2
    rw [← Nat.div_add_mod a (q ^ n), ← Nat.div_add_mod b (q ^ n), e1, e2]
  have := ((List.perm_ext_iff_of_nodup hI.np hn).2 fun b => ?_).length_eq
  · rw [this, List.length_map]
  · rw [hI.mp]
    constructor
    · rintro ⟨hk, c', d', _, hx⟩
      match b, hk with
      | [r, s], _ =>
        have hr : Vc q n r := hx.rref.rws r (by simp)
        have hs : Vc q n s := hx.rref.rws s (by simp)
        have lr := shu_lt h.pos n r hr
        have ls := shu_lt h.pos n s hs
        have e1 : (q ^ n * shu q r + shu q s) / q ^ n = shu q r := by rw [Nat.mul_add_div hp, Nat.div_eq_of_lt ls, Nat.add_zero]
        have e2 : (q ^ n * shu q r + shu q s) % q ^ n = shu q s := by rw [Nat.mul_add_mod, Nat.mod_eq_of_lt ls]
        refine List.mem_map.2 ⟨q ^ n * shu q r + shu q s, List.mem_filter.2 ⟨List.mem_range.2 ?_, ?_⟩, by rw [e1, e2, opn_shu h.pos n r hr, opn_shu h.pos n s hs]⟩
        · have := Nat.mul_le_mul_left (q ^ n) (show shu q r + 1 ≤ q ^ n from lr)
          rw [Nat.mul_add, Nat.mul_one] at this
          omega
        · rw [e1, e2, opn_shu h.pos n r hr, opn_shu h.pos n s hs]
          exact (rref_2 hr hs).1 hx.rref
    · intro hb
      obtain ⟨x, hx, rfl⟩ := List.mem_map.1 hb
      obtain ⟨hx1, hx2⟩ := List.mem_filter.1 hx
      have hx1 := List.mem_range.1 hx1
      have lc : x / q ^ n < q ^ n := Nat.div_lt_of_lt_mul hx1
      have ld : x % q ^ n < q ^ n := Nat.mod_lt _ hp
      have hR := (rref_2 (opn_vc h.pos n _) (opn_vc h.pos n _)).2 hx2
      have hl : ldV (opn q n (x / q ^ n)) < ldV (opn q n (x % q ^ n)) := by simpa using hR.inc
      have hlt := hord _ _ lc ld hl
      have h0 : 1 ≤ x / q ^ n := Nat.succ_le_of_lt (Nat.lt_of_le_of_lt (Nat.zero_le _) hlt)
      exact ⟨rfl, x / q ^ n, x % q ^ n, ⟨h0, Nat.le_of_lt hlt, .inl lc⟩, hR, fun v => Iff.rfl⟩
def l8 : List (Nat × Nat) := [(2, 1), (2, 2), (2, 3), (3, 1), (3, 2), (3, 3), (4, 1), (4, 2)]
theorem all_8 : (l8.all fun x => ordB x.1 x.2 && ((lnE x.1 x.2).length == gs x.1 x.2 1 && (plE x.1 x.2).length == gs x.1 x.2 2)) = true := by decide +kernel
theorem Inv.count (h : FqR q ad mu ng) {L M : List (List (List Nat))} (hI : Inv q ad mu n (q ^ n) 0 L M) (h8 : (q, n) ∈ l8) : L.length = gs q n 1 ∧ M.length = gs q n 2 := by
  have k := List.all_eq_true.1 all_8 _ h8
  rw [Bool.and_eq_true, Bool.and_eq_true, beq_iff_eq, beq_iff_eq] at k
  exact ⟨(hI.lines h).trans k.2.1, (hI.planes h k.1).trans k.2.2⟩
theorem bas_pos (h : FqR q ad mu ng) {c : Nat} (h1 : 1 ≤ c) (hc : c < q ^ n) (d : Nat) {b : List (List Nat)} (hb : BasIs q ad mu n (Spn q ad mu n [opn q n c, opn q n d]) b) : b ≠ [] := fun e => by
  subst e
  have w2 : Rws q n [opn q n c, opn q n d] := fun x hx => by
    simp only [List.mem_cons, List.not_mem_nil, or_false] at hx
    rcases hx with rfl | rfl
    · exact opn_vc h.pos n _
    · exact opn_vc h.pos n _
  have k := (hb.same _).2 (Spn.row h w2 (r := opn q n c) (by simp))
  have key : ∀ v, Spn q ad mu n [] v → v = zV n := fun v k => by
    induction k with
    | zero => rfl
    | step _ hr _ => simp at hr
  have e : opn q n c = zV n := key _ k
  rw [← opn_zero q n] at e
  have := opn_inj hc (Nat.pow_pos h.pos) e
  omega

end Go.Proofs.YtgdkfbgehbdkjabDoor
