/- The pairs that meet, by round; cells of a square. Nothing of the program. -/
import Derived.Test.YtpeplnojmogkfaaRdR
namespace Go.Proofs.Ytpeplnojmogkfaa

theorem nodA_len {α : Type} [DecidableEq α] : ∀ {l m : List α}, l.Nodup → (∀ x ∈ l, x ∈ m) → l.length ≤ m.length
  | [], _, _, _ => by simp
  | a :: l, m, hd, hs => by
    have h1 := List.nodup_cons.1 hd
    have ha := hs a (by simp)
    have h2 : l.length ≤ (m.erase a).length := nodA_len h1.2 fun x hx => (List.mem_erase_of_ne (fun e : x = a => h1.1 (by rw [← e]; exact hx))).2 (hs x (by simp [hx]))
    rw [List.length_erase_of_mem ha] at h2
    have : 0 < m.length := List.length_pos_of_mem ha
    simp only [List.length_cons]
    omega
/-- As many as there are images: no two have the same. -/
theorem img_len {α β : Type} [DecidableEq α] [DecidableEq β] {f : α → β} {L : List α} {M : List β} (hL : L.Nodup) (hM : M.Nodup) (h : ∀ c, c ∈ M ↔ ∃ a ∈ L, f a = c) : M.length = L.length ↔ ∀ a ∈ L, ∀ b ∈ L, f a = f b → a = b := by
  constructor
  · intro hl a ha b hb e
    refine Classical.byContradiction fun hn => ?_
    have h2 : M.length ≤ ((L.erase a).map f).length := nodA_len hM fun c hc => by
      obtain ⟨x, hx, rfl⟩ := (h c).1 hc
      by_cases hxa : x = a
      · subst hxa
        exact List.mem_map.2 ⟨b, (List.mem_erase_of_ne fun e => hn e.symm).2 hb, e.symm⟩
      · exact List.mem_map.2 ⟨x, (List.mem_erase_of_ne hxa).2 hx, rfl⟩
    rw [List.length_map, List.length_erase_of_mem ha] at h2
    have := List.length_pos_of_mem ha
    omega
  · intro hi
    have h1 : M.length ≤ (L.map f).length := nodA_len hM fun c hc => by
      obtain ⟨x, hx, e⟩ := (h c).1 hc
      exact List.mem_map.2 ⟨x, hx, e⟩
    have hn : (L.map f).Nodup := by
      clear h hM h1
      induction L with
      | nil => simp
      | cons a l ih =>
        rw [List.map_cons, List.nodup_cons]
        have hd := List.nodup_cons.1 hL
        refine ⟨fun hm => ?_, ih hd.2 fun x hx y hy e => hi x (by simp [hx]) y (by simp [hy]) e⟩
        obtain ⟨b, hb, e⟩ := List.mem_map.1 hm
        have := hi b (by simp [hb]) a (by simp) e
        exact hd.1 (by rw [← this]; exact hb)
    have h2 : (L.map f).length ≤ M.length := nodA_len hn fun c hc => by
      obtain ⟨x, hx, e⟩ := List.mem_map.1 hc
      exact (h c).2 ⟨x, hx, e⟩
    rw [List.length_map] at h1 h2
    omega
/-- The pairs of a round's first teams. -/
def mtE (i : Nat) (l : List Nat) (k : Nat) : List ((Nat × Nat) × Int) := ((List.range k).filter fun a => decide (a ≤ l.getD a 0)).map fun a => ((a, l.getD a 0), (i : Int))
def mtA (L : List (List Nat)) (n i : Nat) : List ((Nat × Nat) × Int) := (List.range i).flatMap fun j => mtE j (L.getD j []) n
theorem mtE_zero (i : Nat) (l : List Nat) : mtE i l 0 = [] := rfl
theorem mtA_zero (L : List (List Nat)) (n : Nat) : mtA L n 0 = [] := rfl
theorem mtE_skip {i k : Nat} {l : List Nat} (h : l.getD k 0 < k) : mtE i l (k + 1) = mtE i l k := by
  unfold mtE
  rw [List.range_succ, List.filter_append, List.filter_cons_of_neg (by rw [decide_eq_true_iff]; omega)]
  simp
theorem mtE_more {i k : Nat} {l : List Nat} (h : k ≤ l.getD k 0) : mtE i l (k + 1) = mtE i l k ++ [((k, l.getD k 0), (i : Int))] := by
  unfold mtE
  rw [List.range_succ, List.filter_append, List.filter_cons_of_pos (by rw [decide_eq_true_iff]; exact h), List.map_append]
  rfl
theorem mtA_more (L : List (List Nat)) (n i : Nat) : mtA L n (i + 1) = mtA L n i ++ mtE i (L.getD i []) n := by
  unfold mtA
  rw [List.range_succ, List.flatMap_append]
  simp
theorem mem_mtE {i k : Nat} {l : List Nat} {e : (Nat × Nat) × Int} : e ∈ mtE i l k ↔ ∃ a, a < k ∧ a ≤ l.getD a 0 ∧ e = ((a, l.getD a 0), (i : Int)) := by
  unfold mtE
  rw [List.mem_map]
  constructor
  · rintro ⟨a, ha, rfl⟩
    have := List.mem_filter.1 ha
    exact ⟨a, List.mem_range.1 this.1, of_decide_eq_true this.2, rfl⟩
  · rintro ⟨a, h1, h2, rfl⟩
    exact ⟨a, List.mem_filter.2 ⟨List.mem_range.2 h1, decide_eq_true h2⟩, rfl⟩
theorem mem_mtA {L : List (List Nat)} {n i : Nat} {e : (Nat × Nat) × Int} : e ∈ mtA L n i ↔ ∃ j a, j < i ∧ a < n ∧ a ≤ (L.getD j []).getD a 0 ∧ e = ((a, (L.getD j []).getD a 0), (j : Int)) := by
  unfold mtA
  rw [List.mem_flatMap]
  constructor
  · rintro ⟨j, hj, he⟩
    obtain ⟨a, h1, h2, h3⟩ := mem_mtE.1 he
    exact ⟨j, a, List.mem_range.1 hj, h1, h2, h3⟩
  · rintro ⟨j, a, hj, h1, h2, h3⟩
    exact ⟨j, List.mem_range.2 hj, mem_mtE.2 ⟨a, h1, h2, h3⟩⟩
theorem mtE_len (i k : Nat) (l : List Nat) : (mtE i l k).length ≤ k := by
  unfold mtE
  rw [List.length_map]
  have := List.length_filter_le (fun a => decide (a ≤ l.getD a 0)) (List.range k)
  rwa [List.length_range] at this
theorem mtA_len (L : List (List Nat)) (n : Nat) : ∀ i, (mtA L n i).length ≤ n * i
  | 0 => by simp [mtA]
  | i + 1 => by
    rw [mtA_more, List.length_append]
    have := mtA_len L n i
    have := mtE_len i n (L.getD i [])
    rw [Nat.mul_succ]
    omega
/-- What meetings keeps: none met twice so far. -/
def NoTw (L : List (List Nat)) (n i : Nat) : Prop := ∀ x y a, x < i → y < x → a < n → (L.getD x []).getD a 0 ≠ (L.getD y []).getD a 0
/-- .. of the first teams in one round more. -/
def NoTw2 (L : List (List Nat)) (i k : Nat) : Prop := ∀ y a, y < i → a < k → a ≤ (L.getD i []).getD a 0 → (L.getD i []).getD a 0 ≠ (L.getD y []).getD a 0
theorem NoTw.more {L : List (List Nat)} {n i : Nat} (hR : ∀ j, j ≤ i → Rnd n fun x => (L.getD j []).getD x 0) (h : NoTw L n i) (h2 : NoTw2 L i n) : NoTw L n (i + 1) := fun x y a hx hy ha e => by
  by_cases hxi : x = i
  · subst hxi
    by_cases hle : a ≤ (L.getD x []).getD a 0
    · exact h2 y a hy ha hle e
    · have r1 : (L.getD x []).getD a 0 < n ∧ (L.getD x []).getD a 0 ≠ a ∧ (L.getD x []).getD ((L.getD x []).getD a 0) 0 = a := hR x (Nat.le_refl _) a ha
      have r2 : (L.getD y []).getD a 0 < n ∧ (L.getD y []).getD a 0 ≠ a ∧ (L.getD y []).getD ((L.getD y []).getD a 0) 0 = a := hR y (by omega) a ha
      refine h2 y ((L.getD x []).getD a 0) hy r1.1 (by rw [r1.2.2]; omega) ?_
      rw [r1.2.2, e, r2.2.2]
  · exact h x y a (by omega) hy ha e
/-- Is the pair there already? -/
theorem key_there {L : List (List Nat)} {n i k : Nat} (hk : k < n) (hle : k ≤ (L.getD i []).getD k 0) : (k, (L.getD i []).getD k 0) ∈ (mtA L n i ++ mtE i (L.getD i []) k).map Prod.fst ↔ ∃ y, y < i ∧ (L.getD i []).getD k 0 = (L.getD y []).getD k 0 := by
  rw [List.mem_map]
  constructor
  · rintro ⟨e, he, ek⟩
    rcases List.mem_append.1 he with he | he
    · obtain ⟨j, a, hj, ha, h1, rfl⟩ := mem_mtA.1 he
      simp only [Prod.mk.injEq] at ek
      obtain ⟨rfl, e2⟩ := ek
      exact ⟨j, hj, e2.symm⟩
    · obtain ⟨a, ha, h1, rfl⟩ := mem_mtE.1 he
      simp only [Prod.mk.injEq] at ek
      omega
  · rintro ⟨y, hy, e⟩
    exact ⟨((k, (L.getD i []).getD k 0), (y : Int)), List.mem_append.2 (.inl (mem_mtA.2 ⟨y, k, hy, hk, by rw [← e]; exact hle, by rw [e]⟩)), rfl⟩
/-- Complete rounds have all who can meet. -/
theorem all_meet {n : Nat} {B : List (List Nat)} (hB : Rds n B) (hl : B.length = n - 1) {x y : Nat} (hx : x < n) (hy : y < n) (hne : x ≠ y) : ∃ j, j < n - 1 ∧ (B.getD j []).getD x 0 = y := by
  refine Classical.byContradiction fun hc => ?_
  have mem : ∀ i, i < B.length → B.getD i [] ∈ B := fun i hi => by
    rw [List.getD_eq_getElem?_getD, List.getElem?_eq_getElem hi]
    exact List.getElem_mem hi
  have hr : ∀ j, j < n - 1 → (B.getD j []).getD x 0 < n ∧ (B.getD j []).getD x 0 ≠ x := fun j hj => by
    have := hB.rnd _ (mem j (by omega)) x hx
    exact ⟨this.1, this.2.1⟩
  have hnd : ((List.range (n - 1)).map fun j => (B.getD j []).getD x 0).Nodup := by
    refine map_nod List.nodup_range fun i hi j hj e => ?_
    have hi := List.mem_range.1 hi
    have hj := List.mem_range.1 hj
    refine Classical.byContradiction fun hij => ?_
    rcases Nat.lt_or_ge i j with h | h
    · exact hB.once j i h (by omega) x hx e.symm
    · exact hB.once i j (by omega) (by omega) x hx e
  have := nodL_len hnd (m := ((List.range n).erase x).erase y) fun z hz => by
    obtain ⟨j, hj, rfl⟩ := List.mem_map.1 hz
    have hj := List.mem_range.1 hj
    have := hr j hj
    exact (List.mem_erase_of_ne fun e => hc ⟨j, hj, e⟩).2 ((List.mem_erase_of_ne this.2).2 (List.mem_range.2 this.1))
  rw [List.length_erase_of_mem ((List.mem_erase_of_ne fun e => hne e.symm).2 (List.mem_range.2 hy)), List.length_erase_of_mem (List.mem_range.2 hx), List.length_map, List.length_range, List.length_range] at this
  omega
/-- The column of a pair. -/
def clB (B : List (List Nat)) (p : Nat × Nat) : Nat := ((List.range B.length).find? fun j => (B.getD j []).getD p.1 0 == p.2).getD 0
theorem clB_is {n : Nat} {B : List (List Nat)} (hB : Rds n B) {j : Nat} (hj : j < B.length) {p : Nat × Nat} (hp : p.1 < n) (e : (B.getD j []).getD p.1 0 = p.2) : clB B p = j := by
  unfold clB
  cases h : (List.range B.length).find? fun j => (B.getD j []).getD p.1 0 == p.2 with
  | none =>
    have := List.find?_eq_none.1 h j (List.mem_range.2 hj)
    exact absurd (by simpa [-List.getD_eq_getElem?_getD] using e) this
  | some i =>
    have h1 := List.find?_some h
    have h2 := List.mem_range.1 (List.mem_of_find?_eq_some h)
    have h3 : (B.getD i []).getD p.1 0 = p.2 := eq_of_beq h1
    show i = j
    refine Classical.byContradiction fun hij => ?_
    rcases Nat.lt_or_ge i j with k | k
    · exact hB.once j i k hj p.1 hp (e.trans h3.symm)
    · exact hB.once i j (by omega) h2 p.1 hp (h3.trans e.symm)
/-- A pair's cell. -/
def ceE (B : List (List Nat)) (e : (Nat × Nat) × Int) : Nat × Nat := (e.2.toNat, clB B e.1)
theorem mtA_nod {n : Nat} {A : List (List Nat)} (_hA : Rds n A) {i : Nat} (hi : i ≤ A.length) : (mtA A n i).Nodup := by
  have : ∀ i, i ≤ A.length → (mtA A n i).Nodup := by
    intro i
    induction i with
    | zero => intro _; exact List.nodup_nil
    | succ i ih =>
      intro hi
      rw [mtA_more, List.nodup_append]
      refine ⟨ih (by omega), ?_, fun a ha b hb e => ?_⟩
      · unfold mtE
        have hf : ((List.range n).filter fun a => decide (a ≤ (A.getD i []).getD a 0)).Nodup := List.nodup_range.filter _
        generalize ((List.range n).filter fun a => decide (a ≤ (A.getD i []).getD a 0)) = l at hf
        induction l with
        | nil => simp
        | cons a l ih2 =>
          have hd := List.nodup_cons.1 hf
          rw [List.map_cons, List.nodup_cons]
          refine ⟨fun hm => ?_, ih2 hd.2⟩
          obtain ⟨b, hb, eb⟩ := List.mem_map.1 hm
          simp only [Prod.mk.injEq] at eb
          exact hd.1 (by rw [← eb.1.1]; exact hb)
      · obtain ⟨j, _, hj, _, _, rfl⟩ := mem_mtA.1 ha
        obtain ⟨_, _, _, rfl⟩ := mem_mtE.1 hb
        simp only [Prod.mk.injEq] at e
        omega
  exact this i hi
theorem com_ge {n : Nat} {k l : List Nat} {a b c : Nat} (hab : a ≠ b) (hac : a ≠ c) (hbc : b ≠ c) (ha : a < n) (hb : b < n) (hc : c < n) (ea : k.getD a 0 = l.getD a 0) (eb : k.getD b 0 = l.getD b 0) (ec : k.getD c 0 = l.getD c 0) : 3 ≤ comR n k l := by
  unfold comR
  rw [List.countP_eq_length_filter]
  have hn : [a, b, c].Nodup := by simp [hab, hac, hbc]
  exact nodL_len hn fun x hx => by
    simp only [List.mem_cons, List.not_mem_nil, or_false] at hx
    refine List.mem_filter.2 ?_
    rcases hx with rfl | rfl | rfl
    · exact ⟨List.mem_range.2 ha, by simpa [-List.getD_eq_getElem?_getD] using ea⟩
    · exact ⟨List.mem_range.2 hb, by simpa [-List.getD_eq_getElem?_getD] using eb⟩
    · exact ⟨List.mem_range.2 hc, by simpa [-List.getD_eq_getElem?_getD] using ec⟩
/-- Rooms: no two pairs have the same cell. -/
theorem rms_cells {n : Nat} {A B : List (List Nat)} (hA : Rds n A) (hB : Rds n B) (la : A.length = n - 1) (lb : B.length = n - 1) : Rms n A B ↔ ∀ e ∈ mtA A n (n - 1), ∀ f ∈ mtA A n (n - 1), ceE B e = ceE B f → e = f := by
  have memA : ∀ i, i < A.length → A.getD i [] ∈ A := fun i hi => by
    rw [List.getD_eq_getElem?_getD, List.getElem?_eq_getElem hi]
    exact List.getElem_mem hi
  have memB : ∀ i, i < B.length → B.getD i [] ∈ B := fun i hi => by
    rw [List.getD_eq_getElem?_getD, List.getElem?_eq_getElem hi]
    exact List.getElem_mem hi
  have rA : ∀ i, i < n - 1 → ∀ a, a < n → (A.getD i []).getD a 0 < n ∧ (A.getD i []).getD a 0 ≠ a ∧ (A.getD i []).getD ((A.getD i []).getD a 0) 0 = a := fun i hi a ha => hA.rnd _ (memA i (by omega)) a ha
  have rB : ∀ i, i < n - 1 → ∀ a, a < n → (B.getD i []).getD a 0 < n ∧ (B.getD i []).getD a 0 ≠ a ∧ (B.getD i []).getD ((B.getD i []).getD a 0) 0 = a := fun i hi a ha => hB.rnd _ (memB i (by omega)) a ha
  constructor
  · rintro ⟨_, _, h⟩ e he f hf hef
    obtain ⟨i, a, hi, ha, h1, rfl⟩ := mem_mtA.1 he
    obtain ⟨i', b, hi', hb, h2, rfl⟩ := mem_mtA.1 hf
    unfold ceE at hef
    simp only [Prod.mk.injEq, Int.toNat_natCast] at hef
    obtain ⟨rfl, hc⟩ := hef
    obtain ⟨ja, hja, eja⟩ := all_meet hB lb ha (rA i hi a ha).1 (rA i hi a ha).2.1.symm
    obtain ⟨jb, hjb, ejb⟩ := all_meet hB lb hb (rA i hi b hb).1 (rA i hi b hb).2.1.symm
    rw [clB_is hB (p := (a, (A.getD i []).getD a 0)) (by omega : ja < B.length) ha eja, clB_is hB (p := (b, (A.getD i []).getD b 0)) (by omega : jb < B.length) hb ejb] at hc
    subst hc
    refine Classical.byContradiction fun hne => ?_
    have hab : a ≠ b := fun e => hne (by rw [e])
    have ra := rA i hi a ha
    have rb := rA i hi b hb
    have ra2 := rB ja hja a ha
    have hcc : (A.getD i []).getD a 0 ≠ b := fun e => by
      rw [e] at ra
      rw [ra.2.2] at h2
      omega
    have := com_ge (k := A.getD i []) (l := B.getD ja []) (ra.2.1.symm) hab hcc ha ra.1 hb eja.symm (by rw [ra.2.2, ← eja, ra2.2.2]) ejb.symm
    have := h i ja (by omega) (by omega)
    omega
  · intro h
    refine ⟨la, lb, fun i j hi hj => com_two fun a b ha hb ea eb => ?_⟩
    refine Classical.byContradiction fun hne => ?_
    have ra := rA i (by omega) a ha
    have rb := rA i (by omega) b hb
    have ra2 := rB j (by omega) a ha
    have rb2 := rB j (by omega) b hb
    have key : ∀ c, c < n → (A.getD i []).getD c 0 = (B.getD j []).getD c 0 → ∃ e ∈ mtA A n (n - 1), ceE B e = (i, j) ∧ (e.1.1 = c ∨ e.1.1 = (A.getD i []).getD c 0) := fun c hc ec => by
      have rc := rA i (by omega) c hc
      have rc2 := rB j (by omega) c hc
      by_cases hle : c ≤ (A.getD i []).getD c 0
      · refine ⟨((c, (A.getD i []).getD c 0), (i : Int)), mem_mtA.2 ⟨i, c, by omega, hc, hle, rfl⟩, ?_, .inl rfl⟩
        unfold ceE
        rw [clB_is hB (p := (c, (A.getD i []).getD c 0)) hj hc ec.symm, Int.toNat_natCast]
      · refine ⟨(((A.getD i []).getD c 0, c), (i : Int)), mem_mtA.2 ⟨i, (A.getD i []).getD c 0, by omega, rc.1, by rw [rc.2.2]; omega, by rw [rc.2.2]⟩, ?_, .inr rfl⟩
        unfold ceE
        rw [clB_is hB (p := ((A.getD i []).getD c 0, c)) hj rc.1 (by rw [ec, rc2.2.2]), Int.toNat_natCast]
    obtain ⟨e, he, ce, ke⟩ := key a ha ea
    obtain ⟨f, hf, cf, kf⟩ := key b hb eb
    have hef := h e he f hf (ce.trans cf.symm)
    rw [hef] at ke
    have hn1 : b ≠ a := fun e => hne (.inl e)
    have hn2 : b ≠ (A.getD i []).getD a 0 := fun e => hne (.inr e)
    rcases ke with k1 | k1 <;> rcases kf with k2 | k2
    · omega
    · have : (A.getD i []).getD b 0 = a := by omega
      rw [this] at rb
      omega
    · omega
    · have e2 : (A.getD i []).getD a 0 = (A.getD i []).getD b 0 := by omega
      rw [e2] at ra
      omega
end Go.Proofs.Ytpeplnojmogkfaa
