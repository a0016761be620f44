/- One part just where all come to all. Nothing of the program. -/
import Derived.Test.YtgkfddcmngodgaaTrV
namespace Go.Proofs.Ytgkfddcmngodgaa

section
variable {n : Nat} {t : Nat → Nat → Bool}
/-- Steps within the players. -/
theorem re_strg (hS : Strg n t) {a b : Nat} (ha : a < n) (hb : b < n) : reB n t a b = true :=
  hS (fun x => reB n t a x = true) ⟨a, ha, reB_refl a⟩ (fun _ _ hx _ h1 h2 => reB_trans hx h1 (reB_step h2)) b hb
theorem clo_in : ∀ k a b, k ≤ n → a < n → b < n → clo t k a b = true → ∀ Z : Nat → Prop, (∀ x y, x < n → y < n → Z x → t x y = true → Z y) → Z a → Z b
  | 0, a, b, _, ha, hb, h, Z, hZ, hZa => by
    have h : (t a b || a == b) = true := h
    rw [Bool.or_eq_true, beq_iff_eq] at h
    rcases h with h | rfl
    · exact hZ a b ha hb hZa h
    · exact hZa
  | k + 1, a, b, hk, ha, hb, h, Z, hZ, hZa => by
    have h : (clo t k a b || (clo t k a k && clo t k k b)) = true := h
    rw [Bool.or_eq_true, Bool.and_eq_true] at h
    rcases h with h | ⟨h1, h2⟩
    · exact clo_in k a b (by omega) ha hb h Z hZ hZa
    · exact clo_in k k b (by omega) (by omega) hb h2 Z hZ (clo_in k a k (by omega) ha (by omega) h1 Z hZ hZa)
theorem strg_of (h : ∀ a b, a < n → b < n → reB n t a b = true) : Strg n t := fun Z ⟨a, ha, hZa⟩ hZ b hb =>
  clo_in n a b (Nat.le_refl _) ha hb (h a b ha hb) Z hZ hZa
theorem filt_head : ∀ {l : List Nat} {p : Nat → Bool}, l.filter p ≠ [] → p ((l.filter p).getD 0 0) = true ∧ (l.filter p).getD 0 0 ∈ l
  | l, p, h => by
    cases e : l.filter p with
    | nil => exact absurd e h
    | cons a A =>
      have : a ∈ l.filter p := by rw [e]; simp
      obtain ⟨h1, h2⟩ := List.mem_filter.1 this
      exact ⟨h2, h1⟩
/-- Each one's part is told. -/
theorem part_of {a : Nat} (ha : a < n) : ∃ P ∈ ptL n (reB n t), a ∈ P ∧ ∀ x ∈ P, reB n t a x = true := by
  have hne : ptF n (reB n t) a n ≠ [] := List.ne_nil_of_length_pos (ptF_pos (reB_refl a) ha)
  obtain ⟨hp, hm⟩ := filt_head (l := List.range n) (p := fun y => reB n t a y && reB n t y a) hne
  obtain ⟨h, Hh⟩ : ∃ h, (ptF n (reB n t) a n).getD 0 0 = h := ⟨_, rfl⟩
  have Hh' : ((List.range n).filter fun y => reB n t a y && reB n t y a).getD 0 0 = h := Hh
  rw [Hh'] at hp hm
  rw [Bool.and_eq_true] at hp
  have hn := List.mem_range.1 hm
  have hsame : ptF n (reB n t) h n = ptF n (reB n t) a n := by
    unfold ptF
    refine List.filter_congr fun y hy => ?_
    have hyn := List.mem_range.1 hy
    rw [Bool.eq_iff_iff, Bool.and_eq_true, Bool.and_eq_true]
    exact ⟨fun ⟨h1, h2⟩ => ⟨reB_trans hn hp.1 h1, reB_trans hn h2 hp.2⟩, fun ⟨h1, h2⟩ => ⟨reB_trans ha hp.2 h1, reB_trans ha h2 hp.1⟩⟩
  have hr1 : 0 < rcN (reB n t) h n := by
    unfold rcN
    exact List.countP_pos_iff.2 ⟨h, List.mem_range.2 hn, reB_refl h⟩
  have hr2 := rcN_le (reB n t) h n
  refine ⟨ptF n (reB n t) a n, ?_, List.mem_filter.2 ⟨List.mem_range.2 ha, by rw [reB_refl]; rfl⟩, fun x hx => ?_⟩
  · unfold ptL psF
    refine List.mem_flatMap.2 ⟨n - rcN (reB n t) h n, List.mem_range.2 (by omega), ?_⟩
    unfold ptA
    refine List.mem_flatMap.2 ⟨h, List.mem_range.2 hn, ?_⟩
    rw [if_pos ⟨by omega, by rw [hsame]; exact Hh⟩, hsame]
    simp
  · have := (List.mem_filter.1 hx).2
    rw [Bool.and_eq_true] at this
    exact this.1
theorem two_mem {α : Type} {L : List α} {a b : α} (ha : a ∈ L) (hb : b ∈ L) (h : a ≠ b) : 1 < L.length := by
  match L, ha, hb with
  | [x], ha, hb =>
    rw [List.mem_singleton] at ha hb
    exact absurd (ha.trans hb.symm) h
  | _ :: _ :: _, _, _ => simp
theorem parts_two (hS : ¬ Strg n t) : 1 < (ptL n (reB n t)).length := by
  have : ∃ a b, a < n ∧ b < n ∧ reB n t a b = false := by
    refine Classical.byContradiction fun h => hS (strg_of fun a b ha hb => ?_)
    cases e : reB n t a b with
    | true => rfl
    | false => exact absurd ⟨a, b, ha, hb, e⟩ h
  obtain ⟨a, b, ha, hb, hab⟩ := this
  obtain ⟨P, hP, haP, hPa⟩ := part_of (t := t) ha
  obtain ⟨Q, hQ, hbQ, _⟩ := part_of (t := t) hb
  refine two_mem hP hQ fun e => ?_
  rw [← e] at hbQ
  rw [hPa b hbQ] at hab
  cases hab
theorem parts_one (hn : 1 ≤ n) (hS : Strg n t) : (ptL n (reB n t)).length = 1 := by
  have hall : ∀ a b, a < n → b < n → reB n t a b = true := fun a b ha hb => re_strg hS ha hb
  have hr : ∀ a, a < n → rcN (reB n t) a n = n := fun a ha => by
    unfold rcN
    rw [List.countP_eq_length.2 fun x hx => hall a x ha (List.mem_range.1 hx), List.length_range]
  have hp : ∀ a, a < n → ptF n (reB n t) a n = List.range n := fun a ha => by
    unfold ptF
    exact List.filter_eq_self.2 fun x hx => by rw [hall a x ha (List.mem_range.1 hx), hall x a (List.mem_range.1 hx) ha]; rfl
  have h0 : (List.range n).getD 0 0 = 0 := by
    rw [List.getD_eq_getElem?_getD, List.getElem?_range (by omega)]; rfl
  have hA : ∀ r k, k ≤ n → ptA n (reB n t) r k = if r = n ∧ 0 < k then [List.range n] else [] := by
    intro r k
    induction k with
    | zero => intro _; rw [if_neg (by omega)]; rfl
    | succ k ih =>
      intro hk
      rw [ptA_more, ih (by omega), hr k (by omega), hp k (by omega), h0]
      by_cases hrn : r = n
      · by_cases hk0 : k = 0
        · subst hk0
          rw [if_neg (by omega), if_pos ⟨hrn.symm, rfl⟩, if_pos ⟨hrn, by omega⟩]
          rfl
        · rw [if_pos ⟨hrn, by omega⟩, if_neg (by omega), if_pos ⟨hrn, by omega⟩, List.append_nil]
      · rw [if_neg (by omega), if_neg (by omega), if_neg (by omega)]
        rfl
  have hF : ∀ m, m ≤ n → psF n (reB n t) m = if 0 < m then [List.range n] else [] := by
    intro m
    induction m with
    | zero => intro _; rfl
    | succ m ih =>
      intro hm
      rw [psF_more, ih (by omega), hA (n - m) n (Nat.le_refl _)]
      by_cases hm0 : m = 0
      · subst hm0
        rw [if_neg (by omega), if_pos ⟨by omega, by omega⟩, if_pos (by omega)]
        rfl
      · rw [if_pos (by omega), if_neg (by omega), if_pos (by omega)]
        rfl
  unfold ptL
  rw [hF n (Nat.le_refl _), if_pos (by omega)]
  rfl
end
end Go.Proofs.Ytgkfddcmngodgaa
