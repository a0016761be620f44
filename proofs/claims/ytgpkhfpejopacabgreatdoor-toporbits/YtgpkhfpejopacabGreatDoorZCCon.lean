/- Colourings of a content: ways of giving the cycles colours; nothing of the program. -/
import Derived.Test.YtgpkhfpejopacabGreatDoorZCKind
import Derived.Test.YtgpkhfpejopacabGreatDoorZCSum
/- Classes of colourings, found by going from one to the next; nothing of the program. -/
namespace Go.Proofs.YtgpkhfpejopacabGreatDoor.Gc

theorem nodup_below : ∀ (N : Nat) {L : List Nat}, L.Nodup → (∀ x ∈ L, x < N) → L.length ≤ N
  | 0, L, _, h => by
    cases L with
    | nil => simp
    | cons a l => have := h a (by simp); omega
  | N + 1, L, hn, h => by
    have h1 := nodup_below N (L := L.erase N) (hn.erase N) fun x hx => by
      have h2 := h x (List.mem_of_mem_erase hx)
      have h3 : x ≠ N := ((List.Nodup.mem_erase_iff hn).1 hx).1
      omega
    have h4 : L.length ≤ (L.erase N).length + 1 := by rw [List.length_erase]; split <;> omega
    omega
/-- A part of a class, from c on. -/
structure MadeO (n k : Nat) (ms : List (List Nat)) (c : Nat) (L : List Nat) : Prop where
  nd : L.Nodup
  root : c ∈ L
  orb : ∀ x ∈ L, x < k ^ n ∧ OrbA (Gen n ms) (actC n k) c x
/-- What comes of the first t of them, and of the next by the first j makers, is there. -/
structure CloO (n k : Nat) (ms : List (List Nat)) (L : List Nat) (t j : Nat) : Prop where
  all : ∀ i x, i < t → L[i]? = some x → ∀ m ∈ ms, actC n k m x ∈ L
  part : ∀ x, L[t]? = some x → ∀ i m, i < j → ms[i]? = some m → actC n k m x ∈ L
theorem MadeO.start {n k : Nat} {ms : List (List Nat)} (hk : 0 < k) (hm : ∀ m ∈ ms, IsP n m) {c : Nat} (hc : c < k ^ n) : MadeO n k ms c [c] :=
  ⟨by simp, by simp, fun x hx => by rw [List.mem_singleton.1 hx]; exact ⟨hc, OrbA.refl (actC_acts hk) (gen_grp hm) (List.mem_range.2 hc)⟩⟩
theorem CloO.start {n k : Nat} {ms : List (List Nat)} {L : List Nat} : CloO n k ms L 0 0 := ⟨fun i x h => by omega, fun x _ i m h => by omega⟩
theorem MadeO.len {n k c : Nat} {ms : List (List Nat)} {L : List Nat} (h : MadeO n k ms c L) : L.length ≤ k ^ n := by
  exact nodup_below (k ^ n) h.nd fun x hx => (h.orb x hx).1
theorem MadeO.step {n k c x : Nat} {ms : List (List Nat)} {Q : List Nat} (hk : 0 < k) (hm : ∀ m ∈ ms, IsP n m) (hc : c < k ^ n) (h : MadeO n k ms c Q) (hx : x ∈ Q) {m : List Nat} (hmm : m ∈ ms) : actC n k m x < k ^ n ∧ OrbA (Gen n ms) (actC n k) c (actC n k m x) := by
  obtain ⟨h1, h2⟩ := h.orb x hx
  exact ⟨actC_lt hk (hm m hmm) x, h2.trans (actC_acts hk) (gen_grp hm) (List.mem_range.2 hc) ⟨m, Gen.maker hm hmm, rfl⟩⟩
theorem MadeO.add {n k c x : Nat} {ms : List (List Nat)} {L : List Nat} (hk : 0 < k) (hm : ∀ m ∈ ms, IsP n m) (hc : c < k ^ n) (h : MadeO n k ms c L) (hx : x ∈ L) {m : List Nat} (hmm : m ∈ ms) (hn : actC n k m x ∉ L) : MadeO n k ms c (L ++ [actC n k m x]) := by
  have hs := h.step hk hm hc hx hmm
  refine ⟨List.nodup_append.2 ⟨h.nd, by simp, fun a ha b hb e => ?_⟩, by simp [h.root], fun y hy => ?_⟩
  · rw [List.mem_singleton.1 hb] at e
    exact hn (e ▸ ha)
  · rcases List.mem_append.1 hy with h1 | h1
    · exact h.orb y h1
    · rw [List.mem_singleton.1 h1]; exact hs
theorem CloO.grow {n k t j y : Nat} {ms : List (List Nat)} {L : List Nat} (h : CloO n k ms L t j) (ht : t < L.length) : CloO n k ms (L ++ [y]) t j :=
  ⟨fun i x hi hx m hm => by
    rw [List.getElem?_append_left (by omega)] at hx
    exact List.mem_append.2 (.inl (h.all i x hi hx m hm)),
   fun x hx i m hi hm => by
    rw [List.getElem?_append_left ht] at hx
    exact List.mem_append.2 (.inl (h.part x hx i m hi hm))⟩
theorem CloO.next {n k t j x : Nat} {ms : List (List Nat)} {L : List Nat} {m : List Nat} (h : CloO n k ms L t j) (hx : L[t]? = some x) (hm : ms[j]? = some m) (hin : actC n k m x ∈ L) : CloO n k ms L t (j + 1) :=
  ⟨h.all, fun x' hx' i m' hi hm' => by
    rw [hx] at hx'
    cases hx'
    by_cases e : i = j
    · subst e
      rw [hm] at hm'
      cases hm'
      exact hin
    · exact h.part x hx i m' (by omega) hm'⟩
theorem CloO.turn {n k t : Nat} {ms : List (List Nat)} {L : List Nat} (h : CloO n k ms L t ms.length) : CloO n k ms L (t + 1) 0 :=
  ⟨fun i x hi hx m hm => by
    by_cases e : i = t
    · subst e
      obtain ⟨q, hq, rfl⟩ := List.getElem_of_mem hm
      exact h.part x hx q _ hq (List.getElem?_eq_getElem hq)
    · exact h.all i x (by omega) hx m hm,
   fun x _ i m hi => by omega⟩
/-- What is closed is the whole class. -/
theorem MadeO.whole {n k c : Nat} {ms : List (List Nat)} {L : List Nat} (hk : 0 < k) (hm : ∀ m ∈ ms, IsP n m) (hc : c < k ^ n) (h : MadeO n k ms c L) (hcl : CloO n k ms L L.length 0) {x : Nat} : x ∈ L ↔ x < k ^ n ∧ OrbA (Gen n ms) (actC n k) c x := by
  refine ⟨h.orb x, ?_⟩
  rintro ⟨hx, a, ha, rfl⟩
  induction ha with
  | one => rw [(actC_acts hk).one c (List.mem_range.2 hc)]; exact h.root
  | step a m h1 h2 ih =>
    have ha := h1.isP hm
    rw [(actC_acts hk).mul a m c ha (hm m h2) (List.mem_range.2 hc)]
    have := ih (actC_lt hk ha c)
    obtain ⟨q, hq, e⟩ := List.getElem_of_mem this
    have e' : L[q]? = some (actC n k a c) := by rw [List.getElem?_eq_getElem hq, e]
    exact hcl.all q _ hq e' m h2

end Go.Proofs.YtgpkhfpejopacabGreatDoor.Gc

namespace Go.Proofs.YtgpkhfpejopacabGreatDoor.Gc

/-- Sums of natural numbers. -/
def sR (f : Nat → Nat) : Nat → Nat
  | 0 => 0
  | k + 1 => sR f k + f k
theorem sR_congr {f g : Nat → Nat} : ∀ {k}, (∀ i, i < k → f i = g i) → sR f k = sR g k
  | 0, _ => rfl
  | k + 1, h => by rw [sR, sR, sR_congr fun i hi => h i (by omega), h k (by omega)]
theorem sR_zero : ∀ k, sR (fun _ => 0) k = 0
  | 0 => rfl
  | k + 1 => by rw [sR, sR_zero k]
theorem sR_add (f g : Nat → Nat) : ∀ k, sR (fun i => f i + g i) k = sR f k + sR g k
  | 0 => rfl
  | k + 1 => by rw [sR, sR, sR, sR_add f g k]; omega
theorem sR_swap (f : Nat → Nat → Nat) (m : Nat) : ∀ k, sR (fun i => sR (f i) m) k = sR (fun j => sR (fun i => f i j) k) m
  | 0 => by simp only [sR]; exact (sR_zero m).symm
  | k + 1 => by
    rw [sR, sR_swap f m k, ← sR_add]
    exact sR_congr fun j _ => by rw [sR]
theorem sR_term {f : Nat → Nat} {q : Nat} : ∀ {k}, q < k → f q ≤ sR f k
  | 0, h => by omega
  | k + 1, h => by
    rw [sR]
    by_cases e : q = k
    · subst e; omega
    · have := sR_term (f := f) (q := q) (k := k) (by omega); omega
theorem sR_list (f : Nat → Nat) : ∀ k, ((List.range k).map f).sum = sR f k
  | 0 => rfl
  | k + 1 => by rw [List.range_succ, List.map_append, List.sum_append, sR_list f k, sR]; simp

/-- The room with l less at x. -/
def tk (room : Nat → Nat) (x l : Nat) : Nat → Nat := fun c => if c = x then room c - l else room c
theorem sR_tk {room : Nat → Nat} {x l : Nat} : ∀ {k}, x < k → l ≤ room x → sR (tk room x l) k + l = sR room k
  | 0, h, _ => by omega
  | k + 1, h, hl => by
    rw [sR, sR]
    by_cases e : x = k
    · subst e
      have e1 : sR (tk room x l) x = sR room x := sR_congr fun i hi => by unfold tk; rw [if_neg (by omega)]
      have e2 : tk room x l x = room x - l := by unfold tk; rw [if_pos rfl]
      rw [e1, e2]; omega
    · have ih := sR_tk (room := room) (x := x) (l := l) (k := k) (by omega) hl
      have e2 : tk room x l k = room k := by unfold tk; rw [if_neg (fun h => e h.symm)]
      rw [e2]; omega
/-- In how many ways cycles of these lengths are given colours that fill the room. -/
def cntF (k : Nat) : List Nat → (Nat → Nat) → Nat
  | [], room => if ∀ c, c < k → room c = 0 then 1 else 0
  | l :: ls, room => sR (fun x => if l ≤ room x then cntF k ls (tk room x l) else 0) k
/-- The same, as the program counts: where no cycle is left nothing is asked. -/
def fillsN (k : Nat) : List Nat → (Nat → Nat) → Nat
  | [], _ => 1
  | l :: ls, room => sR (fun x => if l ≤ room x then fillsN k ls (tk room x l) else 0) k
theorem fills_cnt (k : Nat) : ∀ (ls : List Nat) (room : Nat → Nat), ls.sum = sR room k → fillsN k ls room = cntF k ls room
  | [], room, h => by
    rw [fillsN, cntF, if_pos]
    intro c hc
    have h1 := sR_term (f := room) hc
    rw [← h] at h1
    simpa using h1
  | l :: ls, room, h => by
    rw [fillsN, cntF]
    refine sR_congr fun x hx => ?_
    by_cases e : l ≤ room x
    · rw [if_pos e, if_pos e]
      refine fills_cnt k ls _ ?_
      have := sR_tk (room := room) (l := l) hx e
      rw [List.sum_cons] at h
      omega
    · rw [if_neg e, if_neg e]
theorem cnt_congr (k : Nat) : ∀ (ls : List Nat) (r r' : Nat → Nat), (∀ c, r c = r' c) → cntF k ls r = cntF k ls r' := fun ls r r' h => by rw [funext h]
theorem cnt_swap (k a b : Nat) (ls : List Nat) (room : Nat → Nat) : cntF k (a :: b :: ls) room = cntF k (b :: a :: ls) room := by
  have e : ∀ (u v : Nat), cntF k (u :: v :: ls) room = sR (fun x => sR (fun y => if u ≤ room x ∧ v ≤ tk room x u y then cntF k ls (tk (tk room x u) y v) else 0) k) k := fun u v => by
    rw [cntF]
    refine sR_congr fun x _ => ?_
    by_cases h : u ≤ room x
    · rw [if_pos h, cntF]
      refine sR_congr fun y _ => ?_
      by_cases h2 : v ≤ tk room x u y
      · rw [if_pos h2, if_pos ⟨h, h2⟩]
      · rw [if_neg h2, if_neg (fun q => h2 q.2)]
    · rw [if_neg h, sR_congr (g := fun _ => 0) fun y _ => if_neg (fun q => h q.1), sR_zero]
  rw [e, e, sR_swap]
  refine sR_congr fun y _ => sR_congr fun x _ => ?_
  have h1 : (a ≤ room x ∧ b ≤ tk room x a y) ↔ (b ≤ room y ∧ a ≤ tk room y b x) := by
    unfold tk
    by_cases exy : x = y
    · subst exy; simp only [if_true]; omega
    · rw [if_neg (fun h => exy h.symm), if_neg exy]; omega
  by_cases h2 : a ≤ room x ∧ b ≤ tk room x a y
  · rw [if_pos h2, if_pos (h1.1 h2)]
    refine cnt_congr k ls _ _ fun c => ?_
    unfold tk
    by_cases c1 : c = x
    · by_cases c2 : c = y
      · simp only [if_pos c1, if_pos c2]; omega
      · simp only [if_pos c1, if_neg c2]
    · by_cases c2 : c = y
      · simp only [if_neg c1, if_pos c2]
      · simp only [if_neg c1, if_neg c2]
  · rw [if_neg h2, if_neg (fun q => h2 (h1.2 q))]
theorem cnt_perm (k : Nat) {ls ls' : List Nat} (h : ls.Perm ls') : ∀ room, cntF k ls room = cntF k ls' room := by
  induction h with
  | nil => intro _; rfl
  | cons x _ ih => intro room; rw [cntF, cntF]; exact sR_congr fun y _ => by rw [ih]
  | swap x y l => intro room; exact cnt_swap k y x l room
  | trans _ _ ih1 ih2 => intro room; rw [ih1, ih2]

/-- How many points have the colour c, if the i-th cycle has the colour g[i]. -/
def wc : List Nat → List Nat → Nat → Nat
  | l :: ls, x :: g, c => (if x = c then l else 0) + wc ls g c
  | _, _, _ => 0
theorem cols_cons (k m : Nat) : (cols k (m + 1)).Perm ((List.range k).flatMap fun x => (cols k m).map (x :: ·)) := by
  refine (List.perm_ext_iff_of_nodup (cols_nodup k (m + 1)) ?_).2 fun l => ?_
  · rw [List.nodup_iff_pairwise_ne, List.pairwise_flatMap]
    refine ⟨fun x _ => ?_, ?_⟩
    · rw [List.pairwise_map]
      exact (List.nodup_iff_pairwise_ne.1 (cols_nodup k m)).imp fun h e => h (List.cons.inj e).2
    · refine List.pairwise_lt_range.imp fun {a b} hab => ?_
      intro u hu v hv e
      obtain ⟨g, _, rfl⟩ := List.mem_map.1 hu
      obtain ⟨g', _, rfl⟩ := List.mem_map.1 hv
      have := (List.cons.inj e).1
      omega
  · rw [mem_cols, List.mem_flatMap]
    constructor
    · rintro ⟨h1, h2⟩
      cases l with
      | nil => simp at h1
      | cons x g => exact ⟨x, List.mem_range.2 (h2 x (by simp)), List.mem_map.2 ⟨g, mem_cols.2 ⟨by simpa using h1, fun y hy => h2 y (by simp [hy])⟩, rfl⟩⟩
    · rintro ⟨x, hx, hl⟩
      obtain ⟨g, hg, rfl⟩ := List.mem_map.1 hl
      obtain ⟨h1, h2⟩ := mem_cols.1 hg
      refine ⟨by simp [h1], fun y hy => ?_⟩
      rcases List.mem_cons.1 hy with e | e
      · rw [e]; exact List.mem_range.1 hx
      · exact h2 y e
theorem count_cons (k m : Nat) (p : List Nat → Bool) : (cols k (m + 1)).countP p = sR (fun x => (cols k m).countP fun g => p (x :: g)) k := by
  rw [(cols_cons k m).countP_eq, List.countP_flatMap, ← sR_list]
  congr 1
  exact List.map_congr_left fun x _ => by simp only [Function.comp]; rw [List.countP_map]; rfl
theorem cnt_cols (k : Nat) : ∀ (ls : List Nat) (room : Nat → Nat), (cols k ls.length).countP (fun g => decide (∀ c, c < k → wc ls g c = room c)) = cntF k ls room
  | [], room => by
    rw [cntF]
    show List.countP _ (cols k 0) = _
    unfold cols
    by_cases h : ∀ c, c < k → room c = 0
    · rw [if_pos h, List.countP_singleton, if_pos]
      exact decide_eq_true fun c hc => by rw [h c hc]; rfl
    · rw [if_neg h, List.countP_singleton, if_neg]
      intro q
      exact h fun c hc => ((of_decide_eq_true q) c hc).symm
  | l :: ls, room => by
    rw [cntF, List.length_cons, count_cons]
    refine sR_congr fun x hx => ?_
    by_cases e : l ≤ room x
    · rw [if_pos e, ← cnt_cols k ls (tk room x l)]
      refine List.countP_congr fun g _ => ?_
      rw [decide_eq_true_iff, decide_eq_true_iff]
      refine forall_congr' fun c => forall_congr' fun hc => ?_
      rw [wc]
      unfold tk
      by_cases ec : c = x
      · rw [if_pos ec.symm, if_pos ec]
        rw [ec]; omega
      · rw [if_neg (fun h => ec h.symm), if_neg ec]; omega
    · rw [if_neg e, List.countP_eq_zero]
      intro g _ q
      have := (of_decide_eq_true q) x hx
      rw [wc, if_pos rfl] at this
      omega

/-! ### colourings that are even on parts -/
def ld (rep : Nat → Nat) (n : Nat) : List Nat := (List.range n).filter fun x => decide (rep x = x)
theorem ld_nodup (rep : Nat → Nat) (n : Nat) : (ld rep n).Nodup := List.nodup_range.filter _
theorem mem_ld {rep : Nat → Nat} {n x : Nat} : x ∈ ld rep n ↔ x < n ∧ rep x = x := by unfold ld; rw [List.mem_filter, List.mem_range, decide_eq_true_iff]
open Classical in
theorem even_perm {k n : Nat} {rep : Nat → Nat} (hr : ∀ x, rep x ≤ x) (hrr : ∀ x, rep (rep x) = rep x) : (((cols k n).filter fun l => decide (Even rep n l)).map fun l => (ld rep n).map fun i => l.getD i 0).Perm (cols k (ld rep n).length) := by
  have hrep : ∀ x, x < n → rep x ∈ ld rep n := fun x hx => mem_ld.2 ⟨by have := hr x; omega, hrr x⟩
  refine (List.perm_ext_iff_of_nodup ?_ (cols_nodup _ _)).2 fun g => ?_
  · rw [List.nodup_iff_pairwise_ne, List.pairwise_map]
    refine List.Pairwise.imp_of_mem (fun {l l'} hl hl' hne e => hne ?_) (List.nodup_iff_pairwise_ne.1 ((cols_nodup k n).filter _))
    obtain ⟨h1, h2⟩ := List.mem_filter.1 hl
    obtain ⟨h1', h2'⟩ := List.mem_filter.1 hl'
    have h2 := of_decide_eq_true h2
    have h2' := of_decide_eq_true h2'
    refine ext_getD (mem_cols.1 h1).1 (mem_cols.1 h1').1 fun y hy => ?_
    rw [h2 y hy, h2' y hy]
    exact List.map_inj_left.1 e _ (hrep y hy)
  · rw [mem_cols, List.mem_map]
    constructor
    · rintro ⟨l, hl, rfl⟩
      obtain ⟨h1, h2⟩ := mem_cols.1 (List.mem_filter.1 hl).1
      refine ⟨by simp, fun x hx => ?_⟩
      obtain ⟨i, hi, rfl⟩ := List.mem_map.1 hx
      exact h2 _ (getD_mem (by rw [h1]; exact (mem_ld.1 hi).1))
    · rintro ⟨h1, h2⟩
      have hidx : ∀ x, x < n → (ld rep n).idxOf (rep x) < g.length := fun x hx => by rw [h1]; exact List.idxOf_lt_length_iff.2 (hrep x hx)
      refine ⟨(List.range n).map fun x => g.getD ((ld rep n).idxOf (rep x)) 0, List.mem_filter.2 ⟨mem_cols.2 ⟨by simp, fun y hy => ?_⟩, decide_eq_true fun x hx => ?_⟩, ?_⟩
      · obtain ⟨x, hx, rfl⟩ := List.mem_map.1 hy
        exact h2 _ (getD_mem (hidx x (List.mem_range.1 hx)))
      · have hx' : rep x < n := by have := hr x; omega
        simp [hx, hx', hrr]
      · refine ext_getD (n := (ld rep n).length) (by simp) h1 fun j hj => ?_
        have hjl : (ld rep n)[j] ∈ ld rep n := List.getElem_mem hj
        obtain ⟨q1, q2⟩ := mem_ld.1 hjl
        have e1 : (ld rep n).idxOf (ld rep n)[j] = j := (ld_nodup rep n).idxOf_getElem j hj
        have e2 : ((ld rep n).map fun i => ((List.range n).map fun x => g.getD ((ld rep n).idxOf (rep x)) 0).getD i 0).getD j 0 = ((List.range n).map fun x => g.getD ((ld rep n).idxOf (rep x)) 0).getD (ld rep n)[j] 0 := by simp [hj]
        rw [e2]
        have e3 : ((List.range n).map fun x => g.getD ((ld rep n).idxOf (rep x)) 0).getD (ld rep n)[j] 0 = g.getD ((ld rep n).idxOf (rep (ld rep n)[j])) 0 := by simp [q1]
        rw [e3, q2, e1]

/-! ### the content of a colouring -/
/-- Of each colour how many points have it. -/
def conL (k : Nat) (l : List Nat) : List Nat := (List.range k).map fun c => l.count c
theorem conL_at {k c : Nat} (l : List Nat) (hc : c < k) : (conL k l).getD c 0 = l.count c := by simp [conL, hc]
theorem conL_eq {k : Nat} {l many : List Nat} (hm : many.length = k) : conL k l = many ↔ ∀ c, c < k → l.count c = many.getD c 0 := by
  constructor
  · intro e c hc; rw [← e, conL_at l hc]
  · intro h
    refine ext_getD (n := k) (by simp [conL]) hm fun c hc => ?_
    rw [conL_at l hc, h c hc]
theorem isP_range {n : Nat} {a : List Nat} (ha : IsP n a) : a.Perm (List.range n) := by
  refine (List.perm_ext_iff_of_nodup ha.nd List.nodup_range).2 fun x => ?_
  rw [List.mem_range]
  refine ⟨ha.lt x, fun hx => ?_⟩
  have h1 := a_inv ha hx
  rw [← h1]
  exact getD_mem (by rw [ha.len]; exact (invL_isP ha).at hx)
theorem mvd_perm {n : Nat} {a l : List Nat} (ha : IsP n a) (hl : l.length = n) : (mvd n a l).Perm l := by
  have h1 : mvd n a l = (invL n a).map fun i => l.getD i 0 := by
    refine ext_getD (mvd_len n a l) (by rw [List.length_map, (invL_isP ha).len]) fun y hy => ?_
    have hy' : y < (invL n a).length := by rw [(invL_isP ha).len]; exact hy
    rw [mvd_at hy]
    simp [hy']
  have h2 : (List.range n).map (fun i => l.getD i 0) = l := by
    refine ext_getD (by simp) hl fun y hy => ?_
    simp [hy]
  rw [h1]
  have h3 := (isP_range (invL_isP ha)).map fun i => l.getD i 0
  rw [h2] at h3
  exact h3
/-- The colourings of a content, counted up to moves. -/
def hasCon (n k : Nat) (many : List Nat) (c : Nat) : Bool := conL k (dig k n c) == many
noncomputable def conG (n k : Nat) (ms : List (List Nat)) (many : List Nat) : Nat := (repsA ((List.range (k ^ n)).filter (hasCon n k many)) (Gen n ms) (actC n k)).length
theorem hasCon_act {n k : Nat} {many : List Nat} (hk : 0 < k) {a : List Nat} {c : Nat} (ha : IsP n a) : hasCon n k many (actC n k a c) = hasCon n k many c := by
  unfold hasCon
  rw [dig_actC hk ha]
  have : conL k (mvd n a (dig k n c)) = conL k (dig k n c) := by
    unfold conL
    exact List.map_congr_left fun q _ => (mvd_perm ha (dig_len k n c)).count_eq q
  rw [this]
theorem con_acts {n k : Nat} {many : List Nat} (hk : 0 < k) : Acts n ((List.range (k ^ n)).filter (hasCon n k many)) (actC n k) := (actC_acts hk).part _ fun a c ha _ h => by rw [hasCon_act hk ha]; exact h
/-! ### how many of a content stay -/
theorem ld_leads {n : Nat} {a : List Nat} (ha : IsP n a) : ld (cycRep n a) n = leads n (fnL a) n := by
  unfold ld leads
  exact List.filter_congr fun x hx => (lead_rep ha (List.mem_range.1 hx)).symm
theorem wc_map (f g : Nat → Nat) (c : Nat) : ∀ L : List Nat, wc (L.map f) (L.map g) c = (L.map fun i => if g i = c then f i else 0).sum
  | [] => rfl
  | x :: L => by rw [List.map_cons, List.map_cons, wc, wc_map f g c L, List.map_cons, List.sum_cons]
theorem even_itr {n : Nat} {a l : List Nat} (ha : IsP n a) (hl : l.length = n) (h : Even (cycRep n a) n l) {x : Nat} (hx : x < n) : ∀ q, l.getD (itr (fnL a) q x) 0 = l.getD x 0
  | 0 => rfl
  | q + 1 => by
    have h2 := (mvd_same ha hl).1 ((mvd_even ha hl).2 h)
    rw [← even_itr ha hl h hx q]
    exact h2 _ ((ha.pm : Pm n (fnL a)).itr_lt hx q)
theorem count_range (l : List Nat) (c : Nat) : (List.range l.length).countP (fun x => l.getD x 0 == c) = l.count c := by
  have e : (List.range l.length).map (fun x => l.getD x 0) = l := by
    refine ext_getD (n := l.length) (by simp) rfl fun y hy => ?_
    simp [hy]
  conv => rhs; rw [← e]
  rw [List.count, List.countP_map]
  rfl
theorem even_count_col {n : Nat} {a l : List Nat} (ha : IsP n a) (hl : l.length = n) (h : Even (cycRep n a) n l) (c : Nat) : l.count c = wc (lens n (fnL a)) ((leads n (fnL a) n).map fun i => l.getD i 0) c := by
  have P : Pm n (fnL a) := ha.pm
  unfold lens
  rw [wc_map, ← count_range, hl, ← P.flat.countP_eq, List.countP_flatten]
  unfold cycs
  rw [List.map_map]
  congr 1
  refine List.map_congr_left fun i hi => ?_
  have hi := mem_leads.1 hi
  show List.countP _ (cycL (fnL a) i) = if l.getD i 0 = c then per (fnL a) i else 0
  rw [countP_const _ _ (l.getD i 0 == c) (fun x hx => by
    obtain ⟨q, _, rfl⟩ := List.mem_map.1 hx
    rw [even_itr ha hl h hi.1 q]), cycL_length]
  by_cases e : l.getD i 0 = c
  · rw [if_pos (by simpa using e), if_pos e]
  · rw [if_neg (by simpa using e), if_neg e]
open Classical in
/-- How many colourings of a content a permutation leaves as they are. -/
theorem con_fixed {n k : Nat} {a many : List Nat} (hk : 0 < k) (ha : IsP n a) (hm : many.length = k) : ((List.range (k ^ n)).filter (hasCon n k many)).countP (fun c => decide (actC n k a c = c)) = cntF k (lens n (fnL a)) fun c => many.getD c 0 := by
  rw [← cnt_cols, List.countP_filter]
  have hlen : (lens n (fnL a)).length = (ld (cycRep n a) n).length := by rw [ld_leads ha]; unfold lens; rw [List.length_map]
  rw [hlen, ← (even_perm (k := k) (n := n) (cycRep_le ha) (cycRep_twice ha)).countP_eq, List.countP_map, List.countP_filter]
  rw [← (cols_perm hk n).countP_eq, List.countP_map]
  refine List.countP_congr fun c hc => ?_
  have hc := List.mem_range.1 hc
  simp only [Function.comp, Bool.and_eq_true, decide_eq_true_eq]
  have e1 : actC n k a c = c ↔ Even (cycRep n a) n (dig k n c) := by
    rw [← mvd_even ha (dig_len k n c)]
    constructor
    · intro e; rw [← dig_actC hk ha, e]
    · intro e
      unfold actC
      rw [e, num_dig n c hc]
  have e2 : hasCon n k many c = true ↔ ∀ q, q < k → (dig k n c).count q = many.getD q 0 := by
    unfold hasCon
    rw [beq_iff_eq, conL_eq hm]
  rw [e1, e2, ld_leads ha]
  constructor
  · rintro ⟨h1, h2⟩
    refine ⟨fun q hq => ?_, h1⟩
    rw [← even_count_col ha (dig_len k n c) h1 q, h2 q hq]
  · rintro ⟨h1, h2⟩
    refine ⟨h2, fun q hq => ?_⟩
    rw [even_count_col ha (dig_len k n c) h2 q, h1 q hq]
/-- The sum over the members of the ways to fill is the order times the colourings of the content. -/
theorem con_sum {n k : Nat} {ms : List (List Nat)} {many : List Nat} (hk : 0 < k) (hm : ∀ m ∈ ms, IsP n m) (hl : many.length = k) : ((els n (Gen n ms)).map fun a => cntF k (lens n (fnL a)) fun c => many.getD c 0).sum = conG n k ms many * (els n (Gen n ms)).length := by
  unfold conG
  rw [← burnsideA (con_acts hk) (gen_grp hm)]
  congr 1
  refine List.map_congr_left fun a ha => ?_
  rw [← con_fixed hk (mem_els.1 ha).1 hl]

/-! ### the lengths, the longest first -/
/-- The lengths of a kind's cycles. -/
def desc (x : List Nat) : Nat → List Nat
  | 0 => []
  | j + 1 => List.replicate (x.getD j 0) (j + 1) ++ desc x j
theorem count_desc (x : List Nat) (v : Nat) : ∀ j, (desc x j).count v = if 1 ≤ v ∧ v ≤ j then x.getD (v - 1) 0 else 0
  | 0 => by rw [if_neg (by omega)]; rfl
  | j + 1 => by
    rw [desc, List.count_append, count_desc x v j]
    by_cases e : v = j + 1
    · subst e
      rw [List.count_replicate_self, if_neg (by omega), if_pos (by omega)]
      simp
    · have h0 : List.count v (List.replicate (x.getD j 0) (j + 1)) = 0 := List.count_eq_zero.2 fun h => e (List.eq_of_mem_replicate h)
      rw [h0, Nat.zero_add]
      by_cases h : 1 ≤ v ∧ v ≤ j
      · rw [if_pos h, if_pos ⟨h.1, by omega⟩]
      · rw [if_neg h, if_neg (fun q => h ⟨q.1, by omega⟩)]
theorem desc_perm {n : Nat} {a : List Nat} (ha : IsP n a) (hn : n ≤ 7) : (desc (kd n a) 7).Perm (lens n (fnL a)) := by
  rw [List.perm_iff_count]
  intro v
  rw [count_desc]
  by_cases h : 1 ≤ v ∧ v ≤ 7
  · rw [if_pos h, kd_at (by omega), Nat.sub_add_cancel h.1]
  · rw [if_neg h]
    refine (List.count_eq_zero.2 fun q => h (lens_in ha hn v q)).symm
theorem desc_sum {n : Nat} {a : List Nat} (ha : IsP n a) (hn : n ≤ 7) : (desc (kd n a) 7).sum = n := by
  have e : ∀ {l m : List Nat}, l.Perm m → l.sum = m.sum := fun h => by
    induction h with
    | nil => rfl
    | cons x _ ih => rw [List.sum_cons, List.sum_cons, ih]
    | swap x y l => simp only [List.sum_cons]; omega
    | trans _ _ ih1 ih2 => exact ih1.trans ih2
  rw [e (desc_perm ha hn)]
  exact (ha.pm : Pm n (fnL a)).lens_sum
theorem fills_desc {n k : Nat} {a : List Nat} {room : Nat → Nat} (ha : IsP n a) (hn : n ≤ 7) (hr : sR room k = n) : fillsN k (desc (kd n a) 7) room = cntF k (lens n (fnL a)) room := by
  rw [fills_cnt k _ _ (by rw [desc_sum ha hn, hr]), cnt_perm k (desc_perm ha hn)]
/-- The sum that the program has. -/
theorem fills_sum {n k : Nat} {ms : List (List Nat)} {many : List Nat} (hn : n ≤ 7) (hk : 0 < k) (hm : ∀ m ∈ ms, IsP n m) (hl : many.length = k) (hs : sR (fun c => many.getD c 0) k = n) :
    (((els n (Gen n ms)).map (kd n)).map fun x => fillsN k (desc x 7) fun c => many.getD c 0).sum = conG n k ms many * (els n (Gen n ms)).length := by
  rw [← con_sum hk hm hl, List.map_map]
  congr 1
  exact List.map_congr_left fun a ha => fills_desc (mem_els.1 ha).1 hn hs
theorem fills_le (k : Nat) : ∀ (ls : List Nat) (room : Nat → Nat), fillsN k ls room ≤ k ^ ls.length
  | [], _ => by simp [fillsN]
  | l :: ls, room => by
    rw [fillsN, List.length_cons, Nat.pow_succ, Nat.mul_comm]
    have : ∀ m, sR (fun x => if l ≤ room x then fillsN k ls (tk room x l) else 0) m ≤ m * k ^ ls.length := by
      intro m
      induction m with
      | zero => simp [sR]
      | succ m ih =>
        rw [sR, Nat.add_mul, Nat.one_mul]
        have h := fills_le k ls (tk room m l)
        split <;> omega
    exact this k
theorem desc_len (x : List Nat) : ∀ j, (desc x j).length = ((List.range j).map fun i => x.getD i 0).sum
  | 0 => rfl
  | j + 1 => by rw [desc, List.length_append, List.length_replicate, desc_len x j, List.range_succ, List.map_append, List.sum_append]; simp; omega

end Go.Proofs.YtgpkhfpejopacabGreatDoor.Gc
