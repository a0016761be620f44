/- The walk of the document's MeetsOf. -/
import Derived.Test.YtlmjlffipinjiabDoorDPure
import Derived.Test.YtlmjlffipinjiabDoorDLw
import Derived.Test.YtlmjlffipinjiabDoorDFish
import Derived.OwnWalk
/- Blocks that cut the points; the first list of them; nothing of the program. -/
namespace Go.Proofs.YtlmjlffipinjiabDoor

def addD (D : Nat → Bool) (b : List Nat) : Nat → Bool := fun x => D x || b.contains x
/-- A block that is not empty, and of which nothing is done. -/
def fitD (D : Nat → Bool) (b : List Nat) : Bool := !b.isEmpty && b.all fun x => !D x
theorem fitD_iff {D : Nat → Bool} {b : List Nat} : fitD D b = true ↔ b ≠ [] ∧ ∀ x ∈ b, D x = false := by
  unfold fitD
  rw [Bool.and_eq_true, List.all_eq_true]
  constructor
  · rintro ⟨h1, h2⟩
    refine ⟨fun e => by subst e; simp at h1, fun x hx => by have := h2 x hx; simpa using this⟩
  · rintro ⟨h1, h2⟩
    exact ⟨by cases b <;> simp_all, fun x hx => by rw [h2 x hx]; rfl⟩
def fullD (v : Nat) (D : Nat → Bool) : Bool := (List.range v).all D
theorem fullD_iff {v : Nat} {D : Nat → Bool} : fullD v D = true ↔ ∀ x, x < v → D x = true := by
  unfold fullD
  rw [List.all_eq_true]
  exact ⟨fun h x hx => h x (List.mem_range.2 hx), fun h x hx => h x (List.mem_range.1 hx)⟩
/-- Can what is left be cut by some of these blocks? -/
def ccB (v : Nat) : List (List Nat) → (Nat → Bool) → Bool
  | [], D => fullD v D
  | b :: B, D => (fitD D b && ccB v B (addD D b)) || ccB v B D
/-- The first list of their numbers, from i on. -/
def fcB (v : Nat) : List (List Nat) → Nat → (Nat → Bool) → Option (List Nat)
  | [], _, D => if fullD v D then some [] else none
  | b :: B, i, D => if (fitD D b && ccB v B (addD D b)) = true then (fcB v B (i + 1) (addD D b)).map (i :: ·) else fcB v B (i + 1) D
theorem fcB_some {v : Nat} : ∀ {B : List (List Nat)} {i : Nat} {D : Nat → Bool}, (fcB v B i D).isSome = ccB v B D
  | [], i, D => by
    unfold fcB ccB
    cases fullD v D <;> rfl
  | b :: B, i, D => by
    have h1 := fcB_some (v := v) (B := B) (i := i + 1) (D := addD D b)
    have h2 := fcB_some (v := v) (B := B) (i := i + 1) (D := D)
    have e1 : fcB v (b :: B) i D = if (fitD D b && ccB v B (addD D b)) = true then (fcB v B (i + 1) (addD D b)).map (i :: ·) else fcB v B (i + 1) D := rfl
    have e2 : ccB v (b :: B) D = ((fitD D b && ccB v B (addD D b)) || ccB v B D) := rfl
    rw [e1, e2]
    by_cases e : (fitD D b && ccB v B (addD D b)) = true
    · rw [if_pos e, Option.isSome_map, h1, e]
      rw [Bool.and_eq_true] at e
      rw [e.2]; rfl
    · rw [if_neg e, h2, Bool.eq_false_iff.2 e]; rfl
/-- A choice of blocks by their numbers, that cuts what is left. -/
structure Ec (v : Nat) (B : List (List Nat)) (D : Nat → Bool) (sel : Nat → Bool) : Prop where
  fit : ∀ i, i < B.length → sel i = true → fitD D (B.getD i []) = true
  dis : ∀ i j, i < B.length → j < B.length → sel i = true → sel j = true → i ≠ j → ∀ x, x ∈ B.getD i [] → x ∉ B.getD j []
  all : ∀ x, x < v → D x = true ∨ ∃ i, i < B.length ∧ sel i = true ∧ x ∈ B.getD i []
theorem fitD_add {D : Nat → Bool} {b c : List Nat} : fitD (addD D b) c = true ↔ fitD D c = true ∧ ∀ x, x ∈ c → x ∉ b := by
  rw [fitD_iff, fitD_iff]
  unfold addD
  constructor
  · rintro ⟨h1, h2⟩
    refine ⟨⟨h1, fun x hx => ?_⟩, fun x hx => ?_⟩
    · have := h2 x hx
      rw [Bool.or_eq_false_iff] at this
      exact this.1
    · have := h2 x hx
      rw [Bool.or_eq_false_iff] at this
      simpa using this.2
  · rintro ⟨⟨h1, h2⟩, h3⟩
    refine ⟨h1, fun x hx => ?_⟩
    rw [Bool.or_eq_false_iff]
    exact ⟨h2 x hx, by simpa using h3 x hx⟩
theorem cc_iff {v : Nat} : ∀ {B : List (List Nat)} {D : Nat → Bool}, ccB v B D = true ↔ ∃ sel, Ec v B D sel
  | [], D => by
    unfold ccB
    rw [fullD_iff]
    constructor
    · intro h
      exact ⟨fun _ => false, fun i hi => by simp at hi, fun i j hi => by simp at hi, fun x hx => .inl (h x hx)⟩
    · rintro ⟨sel, h⟩ x hx
      rcases h.all x hx with h | ⟨i, hi, _⟩
      · exact h
      · simp at hi
  | b :: B, D => by
    unfold ccB
    rw [Bool.or_eq_true, Bool.and_eq_true, cc_iff (B := B) (D := addD D b), cc_iff (B := B) (D := D)]
    constructor
    · rintro (⟨hf, sel, h⟩ | ⟨sel, h⟩)
      · refine ⟨fun i => match i with | 0 => true | i + 1 => sel i, fun i hi hs => ?_, fun i j hi hj hsi hsj hne x hx => ?_, fun x hx => ?_⟩
        · cases i with
          | zero => exact hf
          | succ i => exact (fitD_add.1 (h.fit i (by simpa using hi) hs)).1
        · cases i with
          | zero =>
            cases j with
            | zero => exact (hne rfl).elim
            | succ j =>
              intro hx2
              exact (fitD_add.1 (h.fit j (by simpa using hj) hsj)).2 x hx2 hx
          | succ i =>
            cases j with
            | zero => exact (fitD_add.1 (h.fit i (by simpa using hi) hsi)).2 x hx
            | succ j => exact h.dis i j (by simpa using hi) (by simpa using hj) hsi hsj (by omega) x hx
        · rcases h.all x hx with h1 | ⟨i, hi, hs, hx2⟩
          · unfold addD at h1
            rw [Bool.or_eq_true] at h1
            rcases h1 with h1 | h1
            · exact .inl h1
            · exact .inr ⟨0, by simp, rfl, List.contains_iff_mem.1 h1⟩
          · exact .inr ⟨i + 1, by simpa using hi, hs, hx2⟩
      · refine ⟨fun i => match i with | 0 => false | i + 1 => sel i, fun i hi hs => ?_, fun i j hi hj hsi hsj hne x hx => ?_, fun x hx => ?_⟩
        · cases i with
          | zero => cases hs
          | succ i => exact h.fit i (by simpa using hi) hs
        · cases i with
          | zero => cases hsi
          | succ i =>
            cases j with
            | zero => cases hsj
            | succ j => exact h.dis i j (by simpa using hi) (by simpa using hj) hsi hsj (by omega) x hx
        · rcases h.all x hx with h1 | ⟨i, hi, hs, hx2⟩
          · exact .inl h1
          · exact .inr ⟨i + 1, by simpa using hi, hs, hx2⟩
    · rintro ⟨sel, h⟩
      cases e : sel 0 with
      | true =>
        refine .inl ⟨h.fit 0 (by simp) e, fun i => sel (i + 1), fun i hi hs => ?_, fun i j hi hj hsi hsj hne x hx => h.dis (i + 1) (j + 1) (by simpa using hi) (by simpa using hj) hsi hsj (by omega) x hx, fun x hx => ?_⟩
        · exact fitD_add.2 ⟨h.fit (i + 1) (by simpa using hi) hs, fun x hx => h.dis (i + 1) 0 (by simpa using hi) (by simp) hs e (by omega) x hx⟩
        · rcases h.all x hx with h1 | ⟨i, hi, hs, hx2⟩
          · left; unfold addD; rw [h1]; rfl
          · cases i with
            | zero => left; unfold addD; rw [show b.contains x = true from List.contains_iff_mem.2 hx2]; simp
            | succ i => exact .inr ⟨i, by simpa using hi, hs, hx2⟩
      | false =>
        refine .inr ⟨fun i => sel (i + 1), fun i hi hs => h.fit (i + 1) (by simpa using hi) hs, fun i j hi hj hsi hsj hne x hx => h.dis (i + 1) (j + 1) (by simpa using hi) (by simpa using hj) hsi hsj (by omega) x hx, fun x hx => ?_⟩
        rcases h.all x hx with h1 | ⟨i, hi, hs, hx2⟩
        · exact .inl h1
        · cases i with
          | zero => rw [e] at hs; cases hs
          | succ i => exact .inr ⟨i, by simpa using hi, hs, hx2⟩
/-- A point that is not done lies in one of the blocks that come: any such point may be asked first. -/
theorem cc_point {v x : Nat} {B : List (List Nat)} {D : Nat → Bool} (hx : x < v) (hd : D x = false) : ccB v B D = true ↔ ∃ i, i < B.length ∧ x ∈ B.getD i [] ∧ fitD D (B.getD i []) = true ∧ ccB v B (addD D (B.getD i [])) = true := by
  constructor
  · intro h
    obtain ⟨sel, h⟩ := cc_iff.1 h
    rcases h.all x hx with h1 | ⟨i, hi, hs, hxi⟩
    · rw [hd] at h1; cases h1
    · refine ⟨i, hi, hxi, h.fit i hi hs, cc_iff.2 ⟨fun j => sel j && j != i, fun j hj hsj => ?_, fun j k hj hk hsj hsk hne => ?_, fun y hy => ?_⟩⟩
      · rw [Bool.and_eq_true, bne_iff_ne] at hsj
        exact fitD_add.2 ⟨h.fit j hj hsj.1, fun y hy => h.dis j i hj hi hsj.1 hs hsj.2 y hy⟩
      · rw [Bool.and_eq_true] at hsj hsk
        exact h.dis j k hj hk hsj.1 hsk.1 hne
      · rcases h.all y hy with h1 | ⟨j, hj, hsj, hyj⟩
        · left; unfold addD; rw [h1]; rfl
        · by_cases e : j = i
          · subst e; left; unfold addD; rw [List.contains_iff_mem.2 hyj]; simp
          · exact .inr ⟨j, hj, by rw [hsj]; simpa using e, hyj⟩
  · rintro ⟨i, hi, hxi, hf, h⟩
    obtain ⟨sel, h⟩ := cc_iff.1 h
    have hni : sel i = false := by
      cases e : sel i with
      | false => rfl
      | true =>
        have := (fitD_add.1 (h.fit i hi e)).2 x hxi
        exact (this hxi).elim
    refine cc_iff.2 ⟨fun j => sel j || j == i, fun j hj hsj => ?_, fun j k hj hk hsj hsk hne y hy => ?_, fun y hy => ?_⟩
    · by_cases e : j = i
      · subst e; exact hf
      · rw [Bool.or_eq_true] at hsj
        rcases hsj with hsj | hsj
        · exact (fitD_add.1 (h.fit j hj hsj)).1
        · exact (e (by simpa using hsj)).elim
    · have K : ∀ m, m < B.length → (sel m || m == i) = true → m ≠ i → sel m = true := fun m _ hm hne => by
        rw [Bool.or_eq_true] at hm
        rcases hm with hm | hm
        · exact hm
        · exact (hne (by simpa using hm)).elim
      by_cases ej : j = i
      · subst ej
        intro hyk
        exact (fitD_add.1 (h.fit k hk (K k hk hsk (Ne.symm hne)))).2 y hyk hy
      · by_cases ek : k = i
        · subst ek
          exact (fitD_add.1 (h.fit j hj (K j hj hsj ej))).2 y hy
        · exact h.dis j k hj hk (K j hj hsj ej) (K k hk hsk ek) hne y hy
    · rcases h.all y hy with h1 | ⟨j, hj, hsj, hyj⟩
      · unfold addD at h1
        rw [Bool.or_eq_true] at h1
        rcases h1 with h1 | h1
        · exact .inl h1
        · exact .inr ⟨i, hi, by simp, List.contains_iff_mem.1 h1⟩
      · exact .inr ⟨j, hj, by rw [hsj]; rfl, hyj⟩
theorem cc_full {v : Nat} {D : Nat → Bool} (h : fullD v D = true) : ∀ B : List (List Nat), ccB v B D = true
  | [] => h
  | b :: B => by
    unfold ccB
    rw [cc_full h B, Bool.or_true]
end Go.Proofs.YtlmjlffipinjiabDoor

/- Rows of truths in memory; what a search keeps. -/
namespace Go.Proofs.YtlmjlffipinjiabDoor
open Go.RowKit

/-- Block g holds n truths. -/
def Bo (w : World) (g n : Nat) (f : Nat → Bool) : Prop := ∃ cur t, w.heap[g]? = some (.cells cur t (0, 0)) ∧ ∀ j, j < n → cur[j]? = some (.bool (f j))
theorem Bo.lt {w : World} {g n : Nat} {f : Nat → Bool} (h : Bo w g n f) : g < w.heap.size := by
  obtain ⟨cur, t, h, _⟩ := h
  exact (Array.getElem?_eq_some_iff.1 h).1
theorem Bo.cell {w : World} {g n : Nat} {f : Nat → Bool} (h : Bo w g n f) (j : Nat) (hj : j < n) : w.cell? ⟨g, j, none⟩ = some (.bool (f j)) := by
  obtain ⟨cur, t, h, hc⟩ := h
  rw [cell_of_row w g j _ _ _ h, hc j hj]
theorem Bo.frozen {w : World} {g n : Nat} {f : Nat → Bool} (h : Bo w g n f) (j : Nat) : w.frozen? ⟨g, j, none⟩ = false := by
  obtain ⟨cur, t, h, _⟩ := h
  exact frozen_of_row w g j _ _ h
def upT (f : Nat → Bool) (i : Nat) (v : Bool) : Nat → Bool := fun j => if j = i then v else f j
theorem Bo.set {w : World} {g n : Nat} {f : Nat → Bool} (h : Bo w g n f) (i : Nat) (v : Bool) : Bo (w.setCell ⟨g, i, none⟩ (.bool v)) g n (upT f i v) := by
  obtain ⟨cur, t, h, hc⟩ := h
  refine ⟨_, t, heap_setCell_same w g i _ _ _ h, fun j hj => ?_⟩
  have hcj := hc j hj
  have hlt : j < cur.size := (Array.getElem?_eq_some_iff.1 hcj).1
  rw [Array.getElem?_setIfInBounds]
  by_cases e : i = j
  · subst e; rw [if_pos rfl, if_pos hlt]; simp [upT]
  · rw [if_neg e, hcj]; simp [upT, Ne.symm e]
theorem Bo.other {w : World} {g n : Nat} {f : Nat → Bool} (h : Bo w g n f) (a : Addr) (v : Value) (hne : g ≠ a.block) : Bo (w.setCell a v) g n f := by
  obtain ⟨cur, t, h, hc⟩ := h
  exact ⟨cur, t, (heap_setCell_other w a g v hne).trans h, hc⟩
theorem Bo.below {w w' : World} {g n : Nat} {f : Nat → Bool} (h : Bo w g n f) (hb : Below w.heap.size w w') : Bo w' g n f := by
  have hl := h.lt
  obtain ⟨cur, t, h, hc⟩ := h
  exact ⟨cur, t, (hb.block g hl).trans h, hc⟩
theorem Bo.congr {w : World} {g n : Nat} {f f' : Nat → Bool} (h : Bo w g n f) (e : ∀ j, j < n → f j = f' j) : Bo w g n f' := by
  obtain ⟨cur, t, h, hc⟩ := h
  exact ⟨cur, t, h, fun j hj => by rw [hc j hj, e j hj]⟩
/-- All but two blocks are as they were. -/
def K2 (B0 g1 g2 : Nat) (w W : World) : Prop := Below B0 w W ∧ ∀ b, b < w.heap.size → b ≠ g1 → b ≠ g2 → W.heap[b]? = w.heap[b]?
theorem K2.refl (B0 g1 g2 : Nat) (w : World) : K2 B0 g1 g2 w w := ⟨Below.refl _ _, fun _ _ _ _ => rfl⟩
theorem K2.trans {B0 g1 g2 : Nat} {a b c : World} (h : K2 B0 g1 g2 a b) (k : K2 B0 g1 g2 b c) : K2 B0 g1 g2 a c := ⟨h.1.trans k.1, fun x hx h1 h2 => (k.2 x (Nat.lt_of_lt_of_le hx h.1.size) h1 h2).trans (h.2 x hx h1 h2)⟩
theorem K2.of {B0 g1 g2 : Nat} {w W : World} (h : Below w.heap.size w W) (hB : B0 ≤ w.heap.size) : K2 B0 g1 g2 w W := ⟨h.mono hB, fun x hx _ _ => h.block x hx⟩
theorem K2.set1 {B0 g1 g2 : Nat} {w W : World} (h : K2 B0 g1 g2 w W) (hB : B0 ≤ g1) (i : Nat) (v : Value) : K2 B0 g1 g2 w (W.setCell ⟨g1, i, none⟩ v) := ⟨h.1.setCell (p := ⟨g1, i, none⟩) hB _, fun x hx h1 h2 => (heap_setCell_other W ⟨g1, i, none⟩ x v h1).trans (h.2 x hx h1 h2)⟩
theorem K2.set2 {B0 g1 g2 : Nat} {w W : World} (h : K2 B0 g1 g2 w W) (hB : B0 ≤ g2) (i : Nat) (v : Value) : K2 B0 g1 g2 w (W.setCell ⟨g2, i, none⟩ v) := ⟨h.1.setCell (p := ⟨g2, i, none⟩) hB _, fun x hx h1 h2 => (heap_setCell_other W ⟨g2, i, none⟩ x v h2).trans (h.2 x hx h1 h2)⟩
/-- The rows of a design, in old memory. -/
def DRowB (B0 : Nat) (w : World) (a : Option Addr) (B : List (List Nat)) : Prop := ∀ (i : Nat) (b : List Nat), B[i]? = some b → ∃ bb off ua uc, a = some ⟨bb, off, none⟩ ∧ ∀ W, Below B0 w W → W.cell? ⟨bb, off + i, none⟩ = some (.slice ua b.length uc) ∧ Sl W (.slice ua b.length uc) (b.map Int.ofNat)
/-- What is marked when the first j points of a block are. -/
def mk1 (D : Nat → Bool) (b : List Nat) (j : Nat) : Nat → Bool := fun x => D x || (b.take j).contains x
theorem mk1_step {D : Nat → Bool} {b : List Nat} {j y : Nat} (h : b[j]? = some y) : upT (mk1 D b j) y true = mk1 D b (j + 1) := by
  funext x
  unfold upT mk1
  rw [List.take_add_one, h]
  by_cases e : x = y
  · subst e; simp
  · simp [e]
theorem mk1_all (D : Nat → Bool) (b : List Nat) : mk1 D b b.length = addD D b := by
  unfold mk1 addD
  rw [List.take_length]
theorem mk1_none (D : Nat → Bool) (b : List Nat) : mk1 D b 0 = D := by
  funext x
  simp [mk1]
def un1 (D : Nat → Bool) (b : List Nat) (j : Nat) : Nat → Bool := fun x => if (b.take j).contains x = true then false else addD D b x
theorem un1_step {D : Nat → Bool} {b : List Nat} {j y : Nat} (h : b[j]? = some y) : upT (un1 D b j) y false = un1 D b (j + 1) := by
  funext x
  unfold upT un1
  rw [List.take_add_one, h]
  by_cases e : x = y
  · subst e; simp
  · simp [e]
theorem un1_all {D : Nat → Bool} {b : List Nat} (hf : fitD D b = true) : un1 D b b.length = D := by
  funext x
  unfold un1 addD
  rw [List.take_length]
  by_cases h : b.contains x = true
  · rw [if_pos h, (fitD_iff.1 hf).2 x (List.contains_iff_mem.1 h)]
  · rw [if_neg h, Bool.eq_false_iff.2 h, Bool.or_false]
theorem un1_none (D : Nat → Bool) (b : List Nat) : un1 D b 0 = addD D b := by
  funext x
  simp [un1]
def undN (v : Nat) (D : Nat → Bool) : Nat := (List.range v).countP fun x => !D x
theorem undN_lt {v x : Nat} {D : Nat → Bool} {b : List Nat} (hx : x < v) (hd : D x = false) (hb : b.contains x = true) : undN v (addD D b) < undN v D := by
  unfold undN addD
  have key : ∀ l : List Nat, l.countP (fun x => !(D x || b.contains x)) ≤ l.countP (fun x => !D x) ∧ (x ∈ l → l.countP (fun x => !(D x || b.contains x)) < l.countP (fun x => !D x)) := by
    intro l
    induction l with
    | nil => exact ⟨Nat.le_refl _, fun h => by simp at h⟩
    | cons y l ih =>
      rw [List.countP_cons, List.countP_cons]
      have e : (if (!(D y || b.contains y)) = true then 1 else 0) ≤ (if (!D y) = true then 1 else 0) := by
        cases D y <;> cases b.contains y <;> decide
      refine ⟨by omega, fun hm => ?_⟩
      rcases List.mem_cons.1 hm with rfl | hm
      · have h1 := ih.1
        rw [hd, hb, if_neg (by decide), if_pos (by decide)]
        omega
      · have := ih.2 hm
        omega
  exact (key _).2 (List.mem_range.2 hx)
end Go.Proofs.YtlmjlffipinjiabDoor

/- The walk of the document's Together. -/
namespace Go.Proofs.YtlmjlffipinjiabDoor
open Go.RowKit

theorem mt_take {b c : List Nat} {j : Nat} (hj : j < b.length) : mt (b.take (j + 1)) c = mt (b.take j) c + if c.contains (b.getD j 0) = true then 1 else 0 := by
  unfold mt
  rw [List.take_add_one, List.getElem?_eq_getElem hj, List.countP_append, List.getD_eq_getElem?_getD, List.getElem?_eq_getElem hj]
  simp [List.countP_cons]
end Go.Proofs.YtlmjlffipinjiabDoor

namespace Go.Proofs.YtlmjlffipinjiabDoor
open Go.RowKit

/-- In how many points two blocks meet. -/
def metB (B : List (List Nat)) (n : Nat) : Bool := (List.range B.length).any fun i => (List.range i).any fun j => mt (B.getD i []) (B.getD j []) == n
theorem metB_iff {B : List (List Nat)} {n : Nat} : metB B n = true ↔ ∃ i j, j < i ∧ i < B.length ∧ mt (B.getD i []) (B.getD j []) = n := by
  unfold metB
  rw [List.any_eq_true]
  constructor
  · rintro ⟨i, hi, h⟩
    rw [List.any_eq_true] at h
    obtain ⟨j, hj, h⟩ := h
    exact ⟨i, j, List.mem_range.1 hj, List.mem_range.1 hi, by simpa using h⟩
  · rintro ⟨i, j, hj, hi, h⟩
    refine ⟨i, List.mem_range.2 hi, ?_⟩
    rw [List.any_eq_true]
    exact ⟨j, List.mem_range.2 hj, by simpa using h⟩
def mtL (v : Nat) (B : List (List Nat)) : List Nat := (List.range (v + 1)).filter (metB B)
def SeenM (B : List (List Nat)) (i j : Nat) (f : Nat → Bool) : Prop := ∀ n, f n = true ↔ ∃ i' j', j' < i' ∧ (i' < i ∨ (i' = i ∧ j' < j)) ∧ mt (B.getD i' []) (B.getD j' []) = n
theorem SeenM.zero (B : List (List Nat)) : SeenM B 0 0 (fun _ => false) := fun n => by
  constructor
  · intro h; cases h
  · rintro ⟨i, j, h1, h2 | h2, _⟩ <;> omega
theorem SeenM.step {B : List (List Nat)} {i j : Nat} {f : Nat → Bool} (h : SeenM B i j f) (hj : j < i) : SeenM B i (j + 1) (upT f (mt (B.getD i []) (B.getD j [])) true) := fun n => by
  unfold upT
  by_cases e : n = mt (B.getD i []) (B.getD j [])
  · rw [if_pos e]
    exact ⟨fun _ => ⟨i, j, hj, .inr ⟨rfl, by omega⟩, e.symm⟩, fun _ => rfl⟩
  · rw [if_neg e, h n]
    constructor
    · rintro ⟨i', j', h1, h2, h3⟩
      exact ⟨i', j', h1, by omega, h3⟩
    · rintro ⟨i', j', h1, h2, h3⟩
      refine ⟨i', j', h1, ?_, h3⟩
      rcases h2 with h2 | ⟨h2, h4⟩
      · exact .inl h2
      · by_cases e2 : j' = j
        · subst h2 e2; exact (e h3.symm).elim
        · exact .inr ⟨h2, by omega⟩
theorem SeenM.row {B : List (List Nat)} {i : Nat} {f : Nat → Bool} (h : SeenM B i i f) : SeenM B (i + 1) 0 f := fun n => by
  rw [h n]
  constructor
  · rintro ⟨i', j', h1, h2, h3⟩
    exact ⟨i', j', h1, by omega, h3⟩
  · rintro ⟨i', j', h1, h2, h3⟩
    exact ⟨i', j', h1, by omega, h3⟩
theorem SeenM.all {B : List (List Nat)} {f : Nat → Bool} (h : SeenM B B.length 0 f) : f = metB B := by
  funext n
  rw [Bool.eq_iff_iff, h n, metB_iff]
  constructor
  · rintro ⟨i', j', h1, h2, h3⟩
    exact ⟨i', j', h1, by omega, h3⟩
  · rintro ⟨i', j', h1, h2, h3⟩
    exact ⟨i', j', h1, by omega, h3⟩
theorem info4 : ∃ i, Tryd.prog.info? 4 = some i ∧ i.zero = some (.bool false) ∧ i.size = 1 ∧ i.bytes = 1 := by
  have h1 : ((Tryd.prog.info? 4).bind fun i => i.zero) = some (.bool false) := by kernel_rfl
  have h2 : ((Tryd.prog.info? 4).map fun i => i.size) = some 1 := by kernel_rfl
  have h3 : ((Tryd.prog.info? 4).map fun i => i.bytes) = some 1 := by kernel_rfl
  cases h : Tryd.prog.info? 4 with
  | none => rw [h] at h2; cases h2
  | some i =>
    rw [h] at h1 h2 h3
    exact ⟨i, rfl, h1, Option.some.inj h2, Option.some.inj h3⟩
theorem bo_new (w : World) (n : Nat) : Bo (w.alloc (.cells (madeCells #[.bool false] n) 4)) w.heap.size n (fun _ => false) := by
  refine ⟨_, 4, heap_alloc_new w _, fun j hj => ?_⟩
  rw [Array.getElem?_eq_getElem (by rw [size_madeCells]; exact hj)]
  simp [madeCells, Nat.mod_one]
theorem own_low {w : World} {b b' n : Nat} {v : Value} {l : List Value} (h : w.ownsRow b 3 1 v n l) (hb : b' ≤ b) : w.ownsRow b' 3 1 v n l := by
  obtain ⟨h0, h | ⟨g, cap, cur, h1, h2, h3⟩⟩ := h
  · exact ⟨h0, .inl h⟩
  · exact ⟨h0, .inr ⟨g, cap, cur, h1, Nat.le_trans hb h2, h3⟩⟩
theorem filter_succ (f : Nat → Bool) (m : Nat) : (List.range (m + 1)).filter f = (List.range m).filter f ++ if f m = true then [m] else [] := by
  rw [List.range_succ, List.filter_append]
  cases h : f m <;> simp [h]
end Go.Proofs.YtlmjlffipinjiabDoor
