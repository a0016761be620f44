/- Camion's theorem whole; kings. Nothing of the program. -/
import Derived.Test.YtgkfddcmngodgabTrC
namespace Go.Proofs.Ytgkfddcmngodgab

theorem nodT_len : ∀ {l m : List Nat}, l.Nodup → (∀ x ∈ l, x ∈ m) → l.length ≤ m.length
  | [], _, _, _ => by simp
  | a :: l, m, hd, hs => by
    have h1 := List.nodup_cons.1 hd
    have ha := hs a (by simp)
    have h2 : l.length ≤ (m.erase a).length := nodT_len h1.2 fun x hx => (List.mem_erase_of_ne (fun e : x = a => h1.1 (by rw [← e]; exact hx))).2 (hs x (by simp [hx]))
    rw [List.length_erase_of_mem ha] at h2
    have : 0 < m.length := List.length_pos_of_mem ha
    simp only [List.length_cons]
    omega
section
variable {n : Nat} {t : Nat → Nat → Bool}
theorem Trn.tr (hT : Trn (List.range n) t) {p q : Nat} (hp : p < n) (hq : q < n) (hne : p ≠ q) : t p q = !t q p := hT _ _ (List.mem_range.2 hp) (List.mem_range.2 hq) hne
theorem cyc_start (hT : Trn (List.range n) t) (hS : Strg n t) (h2 : 2 ≤ n) : ∃ l, Cyc t 0 l ∧ l ≠ [] ∧ ∀ x ∈ 0 :: l, x < n := by
  obtain ⟨a, b, ha, hb, e, hne, hab⟩ := strg_edge hS (fun x => x = 0) ⟨0, by omega, rfl⟩ ⟨1, by omega, by omega⟩
  subst e
  obtain ⟨p, q, hp, hq, hZp, hZq, hpq⟩ := strg_edge hS (fun x => x ≠ 0 ∧ t 0 x = true) ⟨b, hb, hne, hab⟩ ⟨0, by omega, fun k => k.1 rfl⟩
  have hq0 : q ≠ 0 := fun e => by
    rw [e, hT.tr hp (by omega) hZp.1, hZp.2] at hpq
    cases hpq
  have h0q : t 0 q = false := by
    cases h : t 0 q with
    | false => rfl
    | true => exact absurd ⟨hq0, h⟩ hZq
  have hq1 : t q 0 = true := by rw [hT.tr hq (by omega) hq0, h0q]; rfl
  refine ⟨[p, q], ⟨?_, ⟨hZp.2, hpq, trivial⟩, fun x A hx _ => ?_⟩, by simp, fun x hx => ?_⟩
  · have hpq' : p ≠ q := fun e => hZq (by rw [← e]; exact hZp)
    simp only [List.nodup_cons, List.mem_cons, List.not_mem_nil, or_false, not_or, List.nodup_nil, and_true, not_false_eq_true]
    exact ⟨⟨fun e => hZp.1 e.symm, fun e => hq0 e.symm⟩, hpq'⟩
  · have := snoc_inj (A := [0, p]) (x := q) (B := A) (y := x) (by simpa using hx)
    rw [← this.2]
    exact hq1
  · simp only [List.mem_cons, List.not_mem_nil, or_false] at hx
    omega
/-- Camion: all come to all, so there is a cycle of all. -/
theorem camion (hT : Trn (List.range n) t) (hS : Strg n t) (h1 : 1 ≤ n) : ∃ l, Cyc t 0 l ∧ l.length + 1 = n ∧ ∀ x ∈ 0 :: l, x < n := by
  by_cases h2 : 2 ≤ n
  · have grow : ∀ (m : Nat) (l : List Nat), n - l.length = m → Cyc t 0 l → l ≠ [] → (∀ x ∈ 0 :: l, x < n) → ∃ l', Cyc t 0 l' ∧ l'.length + 1 = n ∧ ∀ x ∈ 0 :: l', x < n := by
      intro m
      induction m using Nat.strongRecOn with
      | _ m ih =>
        intro l hm hc hl hx
        have hle : (0 :: l).length ≤ n := by
          have := nodT_len hc.nd (m := List.range n) fun x h => List.mem_range.2 (hx x h)
          rwa [List.length_range] at this
        simp only [List.length_cons] at hle
        by_cases he : l.length + 1 = n
        · exact ⟨l, hc, he, hx⟩
        · have hv : ∃ v, v < n ∧ v ∉ 0 :: l := by
            refine Classical.byContradiction fun hno => ?_
            have := nodT_len (l := List.range n) (m := 0 :: l) List.nodup_range fun v hv => Classical.byContradiction fun h => hno ⟨v, List.mem_range.1 hv, h⟩
            rw [List.length_range] at this
            simp only [List.length_cons] at this
            omega
          obtain ⟨l', hc', hlt, hx'⟩ := cyc_grow hT hS hl hc hx hv
          have hl' : l' ≠ [] := fun e => by rw [e] at hlt; simp at hlt
          exact ih (n - l'.length) (by omega) l' rfl hc' hl' hx'
    obtain ⟨l, hc, hl, hx⟩ := cyc_start hT hS h2
    exact grow _ l rfl hc hl hx
  · refine ⟨[], ⟨by simp, trivial, fun x A _ h => absurd rfl h⟩, by simp; omega, fun x hx => by simp at hx; omega⟩
theorem chn_on {Z : Nat → Prop} (hcl : ∀ x y, Z x → t x y = true → Z y) : ∀ {x : Nat} {B : List Nat}, chn t (x :: B) → Z x → ∀ y ∈ B, Z y
  | _, [], _, _, y, h => by simp at h
  | x, z :: B, hc, hx, y, hy => by
    have hz := hcl x z hx hc.1
    rcases List.mem_cons.1 hy with rfl | hy
    · exact hz
    · exact chn_on hcl hc.2 hz y hy
/-- A cycle of all: all come to all. -/
theorem cyc_strg {l : List Nat} (hc : Cyc t 0 l) (hall : ∀ x, x < n → x ∈ 0 :: l) (hlt : ∀ x ∈ 0 :: l, x < n) : Strg n t := by
  intro Z ⟨x, hx, hZx⟩ hcl y hy
  have key : ∀ x ∈ 0 :: l, Z x → ∀ B, (∃ A, 0 :: l = A ++ x :: B) → ∀ y ∈ B, Z y := fun x hx hZ B ⟨A, e⟩ => by
    have hch : chn t (x :: B) := chn_right (A := A) (by rw [← e]; exact hc.ch)
    have hm : ∀ y ∈ x :: B, y < n := fun y hy => hlt y (by rw [e]; exact List.mem_append_right _ hy)
    have := chn_on (Z := fun z => z < n → Z z) (t := fun p q => t p q && decide (p < n)) (fun p q hp hpq hq => by
      simp only [Bool.and_eq_true, decide_eq_true_eq] at hpq
      exact hcl p q hpq.2 hq (hp hpq.2) hpq.1) (x := x) (B := B) (by
        have : ∀ (l : List Nat), (∀ y ∈ l, y < n) → chn t l → chn (fun p q => t p q && decide (p < n)) l := by
          intro l
          induction l with
          | nil => intro _ _; trivial
          | cons a l ih =>
            intro hm hc
            cases l with
            | nil => trivial
            | cons b l => exact ⟨(show (t a b && decide (a < n)) = true by rw [hc.1]; simpa using hm a (by simp)), ih (fun y hy => hm y (by simp [hy])) hc.2⟩
        exact this _ hm hch) (fun _ => hZ)
    exact fun y hy => this y hy (hm y (by simp [hy]))
  have h0 : Z 0 := by
    by_cases hl : l = []
    · have := hall x hx
      rw [hl] at this
      simp at this
      rw [← this]
      exact hZx
    · obtain ⟨A, z, e⟩ := last_of (l := 0 :: l) (by simp)
      have hz : Z z := by
        obtain ⟨C, D, eCD⟩ := List.append_of_mem (hall x hx)
        by_cases hD : D = []
        · rw [hD] at eCD
          have := snoc_inj (eCD.symm.trans e)
          rw [← this.2]
          exact hZx
        · obtain ⟨D', z', ez⟩ := last_of hD
          have k : 0 :: l = (C ++ x :: D') ++ [z'] := by rw [eCD, ez]; simp
          have := snoc_inj (k.symm.trans e)
          rw [← this.2]
          exact key x (hall x hx) hZx D ⟨C, eCD⟩ z' (by rw [ez]; simp)
      have hzm : z ∈ 0 :: l := by rw [e]; simp
      exact hcl z 0 (hlt z hzm) (hlt 0 (by simp)) hz (hc.back z A e hl)
  have := hall y hy
  rcases List.mem_cons.1 this with rfl | hyl
  · exact h0
  · exact key 0 (by simp) h0 l ⟨[], rfl⟩ y hyl
/-- How many of some one beats. -/
def scP (t : Nat → Nat → Bool) (n : Nat) (P : Nat → Bool) (a : Nat) : Nat := (List.range n).countP fun x => P x && t a x
theorem countP_lt' {p q : Nat → Bool} : ∀ {l : List Nat}, (∀ z ∈ l, p z = true → q z = true) → (∃ z ∈ l, p z = false ∧ q z = true) → l.countP p < l.countP q
  | [], _, ⟨_, h, _⟩ => by simp at h
  | x :: l, h, ⟨z, hz, h1, h2⟩ => by
    rw [List.countP_cons, List.countP_cons]
    have hx := h x (by simp)
    have hle : l.countP p ≤ l.countP q := List.countP_mono_left fun y hy => h y (by simp [hy])
    rcases List.mem_cons.1 hz with rfl | hz
    · rw [h1, h2]
      simp
      omega
    · have := countP_lt' (l := l) (fun y hy => h y (by simp [hy])) ⟨z, hz, h1, h2⟩
      cases hp : p x with
      | true => rw [hx hp]; simp; omega
      | false => cases q x <;> simp <;> omega
theorem argmax (f : Nat → Nat) : ∀ {l : List Nat}, l ≠ [] → ∃ a ∈ l, ∀ b ∈ l, f b ≤ f a
  | [], h => absurd rfl h
  | [x], _ => ⟨x, by simp, fun b hb => by rw [List.mem_singleton.1 hb]; exact Nat.le_refl _⟩
  | x :: y :: l, _ => by
    obtain ⟨a, ha, hb⟩ := argmax f (l := y :: l) (by simp)
    by_cases h : f x ≤ f a
    · refine ⟨a, by simp [ha], fun b hb' => ?_⟩
      rcases List.mem_cons.1 hb' with rfl | hb'
      · exact h
      · exact hb b hb'
    · refine ⟨x, by simp, fun b hb' => ?_⟩
      rcases List.mem_cons.1 hb' with rfl | hb'
      · exact Nat.le_refl _
      · have := hb b hb'
        omega
/-- Who of some beats the most of them comes to each of them by two steps. -/
theorem most_king (hT : Trn (List.range n) t) (hI : ∀ a, a < n → t a a = false) {P : Nat → Bool} {a : Nat} (ha : a < n) (hPa : P a = true) (hm : ∀ b, b < n → P b = true → scP t n P b ≤ scP t n P a) {x : Nat} (hx : x < n) (hPx : P x = true) : x = a ∨ t a x = true ∨ ∃ b, b < n ∧ P b = true ∧ t a b = true ∧ t b x = true := by
  refine Classical.byContradiction fun hno => ?_
  have h1 : x ≠ a := fun e => hno (.inl e)
  have h2 : t a x = false := by
    cases h : t a x with
    | false => rfl
    | true => exact absurd (.inr (.inl h)) hno
  have h3 : t x a = true := by rw [hT.tr hx ha h1, h2]; rfl
  have h4 : ∀ b, b < n → P b = true → t a b = true → t x b = true := fun b hb hPb hab => by
    have hbx : b ≠ x := fun e => by rw [e, h2] at hab; cases hab
    rw [hT.tr hx hb (Ne.symm hbx)]
    cases h : t b x with
    | false => rfl
    | true => exact absurd (.inr (.inr ⟨b, hb, hPb, hab, h⟩)) hno
  have hlt : scP t n P a < scP t n P x := by
    unfold scP
    refine countP_lt' (fun z hz hz2 => ?_) ⟨a, List.mem_range.2 ha, by rw [hI a ha]; simp, by rw [hPa, h3]; rfl⟩
    simp only [Bool.and_eq_true] at hz2 ⊢
    exact ⟨hz2.1, h4 z (List.mem_range.1 hz) hz2.1 hz2.2⟩
  have := hm x hx hPx
  omega
/-- Who beats all, himself or through another one. -/
def Kng (n : Nat) (t : Nat → Nat → Bool) (a : Nat) : Prop := ∀ x, x < n → x = a ∨ t a x = true ∨ ∃ b, b < n ∧ t a b = true ∧ t b x = true
theorem score_king (hT : Trn (List.range n) t) (hI : ∀ a, a < n → t a a = false) {a : Nat} (ha : a < n) (hm : ∀ b, b < n → (List.range n).countP (t b) ≤ (List.range n).countP (t a)) : Kng n t a := fun x hx => by
  have k := most_king hT hI (P := fun _ => true) ha rfl (fun b hb _ => by unfold scP; simpa using hm b hb) hx rfl
  rcases k with k | k | ⟨b, h1, _, h2, h3⟩
  · exact .inl k
  · exact .inr (.inl k)
  · exact .inr (.inr ⟨b, h1, h2, h3⟩)
/-- Of those who beat somebody one is a king. -/
theorem king_above (hT : Trn (List.range n) t) (hI : ∀ a, a < n → t a a = false) {a : Nat} (ha : a < n) (hb : ∃ c, c < n ∧ t c a = true) : ∃ c, c < n ∧ t c a = true ∧ Kng n t c := by
  obtain ⟨c0, hc0, hc1⟩ := hb
  have hne : ((List.range n).filter fun c => t c a) ≠ [] := fun e => by
    have : c0 ∈ (List.range n).filter fun c => t c a := List.mem_filter.2 ⟨List.mem_range.2 hc0, hc1⟩
    rw [e] at this
    simp at this
  obtain ⟨c, hc, hmax⟩ := argmax (scP t n fun c => t c a) hne
  obtain ⟨hcn, hca⟩ := List.mem_filter.1 hc
  have hcn := List.mem_range.1 hcn
  refine ⟨c, hcn, hca, fun x hx => ?_⟩
  by_cases hxa : t x a = true
  · rcases most_king hT hI (P := fun c => t c a) hcn hca (fun b hb hPb => hmax b (List.mem_filter.2 ⟨List.mem_range.2 hb, hPb⟩)) hx hxa with k | k | ⟨b, h1, _, h2, h3⟩
    · exact .inl k
    · exact .inr (.inl k)
    · exact .inr (.inr ⟨b, h1, h2, h3⟩)
  · by_cases e : x = a
    · rw [e]; exact .inr (.inl hca)
    · have hax : t a x = true := by
        rw [hT.tr ha hx (Ne.symm e)]
        simpa using hxa
      exact .inr (.inr ⟨a, ha, hca, hax⟩)
theorem king_top (_hT : Trn (List.range n) t) (_hI : ∀ a, a < n → t a a = false) {a : Nat} (ha : a < n) (h : ∀ c, c < n → t c a = false) : ∀ c, c < n → Kng n t c → c = a := fun c hc hk => by
  rcases hk a ha with k | k | ⟨b, hb, _, h2⟩
  · exact k.symm
  · rw [h c hc] at k; cases k
  · rw [h b hb] at h2; cases h2
/-- There are not just two. -/
theorem two_kings (hT : Trn (List.range n) t) (hI : ∀ a, a < n → t a a = false) {a b : Nat} (ha : a < n) (hb : b < n) (hab : a ≠ b) (hka : Kng n t a) (hkb : Kng n t b) : ∃ c, c < n ∧ c ≠ a ∧ c ≠ b ∧ Kng n t c := by
  have main : ∀ {a b}, a < n → b < n → a ≠ b → Kng n t a → Kng n t b → t a b = true → ∃ c, c < n ∧ c ≠ a ∧ c ≠ b ∧ Kng n t c := fun {a b} ha hb hab hka hkb h => by
    by_cases hc : ∃ c, c < n ∧ t c a = true
    · obtain ⟨c, h1, h2, h3⟩ := king_above hT hI ha hc
      refine ⟨c, h1, fun e => ?_, fun e => ?_, h3⟩
      · rw [e, hI a ha] at h2; cases h2
      · rw [e, hT.tr hb ha (Ne.symm hab), h] at h2; cases h2
    · have := king_top hT hI ha (fun c hcn => by cases h' : t c a with
        | false => rfl
        | true => exact absurd ⟨c, hcn, h'⟩ hc) b hb hkb
      exact absurd this.symm hab
  cases h : t a b with
  | true => exact main ha hb hab hka hkb h
  | false =>
    have h' : t b a = true := by rw [hT.tr hb ha (Ne.symm hab), h]; rfl
    obtain ⟨c, h1, h2, h3, h4⟩ := main hb ha (Ne.symm hab) hkb hka h'
    exact ⟨c, h1, h3, h2, h4⟩
/-- If there is but one he beats all. -/
theorem one_king (hT : Trn (List.range n) t) (hI : ∀ a, a < n → t a a = false) {a : Nat} (ha : a < n) (h : ∀ c, c < n → Kng n t c → c = a) : ∀ x, x < n → x ≠ a → t a x = true := fun x hx hne => by
  rw [hT.tr ha hx (Ne.symm hne)]
  cases h' : t x a with
  | false => rfl
  | true =>
    obtain ⟨c, h1, h2, h3⟩ := king_above hT hI ha ⟨x, hx, h'⟩
    rw [h c h1 h3, hI a ha] at h2
    cases h2
end
end Go.Proofs.Ytgkfddcmngodgab
