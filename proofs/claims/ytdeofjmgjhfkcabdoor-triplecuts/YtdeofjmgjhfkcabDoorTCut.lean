/- Systems of nine and of seven points: how many sets of four of Pasch they have, in how many points blocks meet; nothing of the program. -/
import Derived.Test.YtdeofjmgjhfkcabDoorTPure
import Derived.Test.YtdeofjmgjhfkcabDoorDCut
import Derived.Test.YtdeofjmgjhfkcabDoorTPa3
import Derived.Test.YtdeofjmgjhfkcabDoorTKi
/- Systems of nine points; nothing of the program. -/
namespace Go.Proofs.YtdeofjmgjhfkcabDoor

def Apart (b c : List Nat) : Prop := ∀ y, y ∈ b → y ∉ c
theorem apart_all {b c : List Nat} : (b.all fun y => !c.contains y) = true ↔ Apart b c := by
  rw [List.all_eq_true]
  unfold Apart
  exact ⟨fun h y hy => by have := h y hy; simpa using this, fun h y hy => by simpa using h y hy⟩
theorem exists_at {B : List (List Nat)} {p : List Nat → Bool} (h : 1 ≤ B.countP p) : ∃ j, j < B.length ∧ p (B.getD j []) = true := by
  obtain ⟨b, hb, hp⟩ := List.countP_pos_iff.1 h
  obtain ⟨j, hj, rfl⟩ := List.mem_iff_getElem.1 hb
  exact ⟨j, hj, by rw [List.getD_eq_getElem?_getD, List.getElem?_eq_getElem hj]; exact hp⟩
/-- Beside a block each point has just one block that misses it. -/
theorem nine_miss {r : Nat} {B : List (List Nat)} (T : Two 9 3 r 1 B) {i x : Nat} (hi : i < B.length) (hx : x < 9) (hn : x ∉ B.getD i []) : ∃ j, j < B.length ∧ x ∈ B.getD j [] ∧ Apart (B.getD i []) (B.getD j []) := by
  have hr := (kirkman_mod T (by decide)).1
  have hm := mis_is T (mem_at hi) hx hn
  obtain ⟨j, hj, h⟩ := exists_at (show 1 ≤ B.countP (fun c => c.contains x && ((B.getD i []).all fun y => !c.contains y)) from by
    have : mis B (B.getD i []) x = 1 := by omega
    unfold mis at this
    omega)
  rw [Bool.and_eq_true] at h
  exact ⟨j, hj, List.contains_iff_mem.1 h.1, apart_all.1 h.2⟩
theorem nine_only {r : Nat} {B : List (List Nat)} (T : Two 9 3 r 1 B) {i x j k : Nat} (hi : i < B.length) (hx : x < 9) (hn : x ∉ B.getD i []) (hj : j < B.length) (hk : k < B.length) (h1 : x ∈ B.getD j []) (h2 : x ∈ B.getD k []) (h3 : Apart (B.getD i []) (B.getD j [])) (h4 : Apart (B.getD i []) (B.getD k [])) : j = k := by
  have hr := (kirkman_mod T (by decide)).1
  have hm := mis_is T (mem_at hi) hx hn
  rcases Classical.em (j = k) with e | e
  · exact e
  · exfalso
    have pj : (fun c : List Nat => c.contains x && ((B.getD i []).all fun y => !c.contains y)) (B.getD j []) = true := by
      show (_ && _) = true
      rw [Bool.and_eq_true]; exact ⟨List.contains_iff_mem.2 h1, apart_all.2 h3⟩
    have pk : (fun c : List Nat => c.contains x && ((B.getD i []).all fun y => !c.contains y)) (B.getD k []) = true := by
      show (_ && _) = true
      rw [Bool.and_eq_true]; exact ⟨List.contains_iff_mem.2 h2, apart_all.2 h4⟩
    have : 2 ≤ mis B (B.getD i []) x := by
      unfold mis
      rcases Nat.lt_or_gt_of_ne e with h | h
      · exact count_two (i := j) (j := k) h hk pj pk
      · exact count_two (i := k) (j := j) h hj pk pj
    omega
/-- Two that miss a block, of unlike places, miss one another. -/
theorem nine_apart {r : Nat} {B : List (List Nat)} (T : Two 9 3 r 1 B) {i j k : Nat} (hi : i < B.length) (hj : j < B.length) (hk : k < B.length) (hjk : j ≠ k) (h3 : Apart (B.getD i []) (B.getD j [])) (h4 : Apart (B.getD i []) (B.getD k [])) : Apart (B.getD j []) (B.getD k []) := fun y hy hy2 =>
  hjk (nine_only T hi ((T.bl _ (mem_at hj)).lt _ hy) (fun h => h3 y h hy) hj hk hy hy2 h3 h4)
theorem apart_nodup {b c : List Nat} (hb : b.Nodup) (hc : c.Nodup) (h : Apart b c) : (b ++ c).Nodup := List.nodup_append.2 ⟨hb, hc, fun x hx _ hy e => h x hx (e ▸ hy)⟩
theorem apart_app {a b c : List Nat} (h1 : Apart a c) (h2 : Apart b c) : Apart (a ++ b) c := fun y hy => by
  rcases List.mem_append.1 hy with h | h
  · exact h1 y h
  · exact h2 y h
/-- Four blocks that miss one another would have twelve points. -/
theorem nine_three {r : Nat} {B : List (List Nat)} (T : Two 9 3 r 1 B) {i j k l : Nat} (hi : i < B.length) (hj : j < B.length) (hk : k < B.length) (hl : l < B.length) (a : Apart (B.getD i []) (B.getD j [])) (b : Apart (B.getD i []) (B.getD k [])) (c : Apart (B.getD i []) (B.getD l [])) (d : Apart (B.getD j []) (B.getD k [])) (e : Apart (B.getD j []) (B.getD l [])) (f : Apart (B.getD k []) (B.getD l [])) : False := by
  have nd := fun q (hq : q < B.length) => (T.bl _ (mem_at hq)).1
  have hp : Pts 9 (((B.getD i [] ++ B.getD j []) ++ B.getD k []) ++ B.getD l []) := ⟨apart_nodup (apart_nodup (apart_nodup (nd i hi) (nd j hj) a) (nd k hk) (apart_app b d)) (nd l hl) (apart_app (apart_app c e) f), fun x hx => by
    simp only [List.mem_append] at hx
    rcases hx with ((h | h) | h) | h
    · exact (T.bl _ (mem_at hi)).lt _ h
    · exact (T.bl _ (mem_at hj)).lt _ h
    · exact (T.bl _ (mem_at hk)).lt _ h
    · exact (T.bl _ (mem_at hl)).lt _ h⟩
  have := hp.le
  simp only [List.length_append, T.sz _ (mem_at hi), T.sz _ (mem_at hj), T.sz _ (mem_at hk), T.sz _ (mem_at hl)] at this
  omega
/-- Three points beside a block, each two of them in a block that meets it: there are none. -/
theorem nine_no {r : Nat} {B : List (List Nat)} (T : Two 9 3 r 1 B) {i j k l d e f : Nat} (hi : i < B.length) (hj : j < B.length) (hk : k < B.length) (hl : l < B.length)
    (hd : d ∉ B.getD i []) (he : e ∉ B.getD i []) (hf : f ∉ B.getD i []) (hde : d ≠ e) (hdf : d ≠ f) (hef : e ≠ f)
    (dj : d ∈ B.getD j []) (ej : e ∈ B.getD j []) (dk : d ∈ B.getD k []) (fk : f ∈ B.getD k []) (el : e ∈ B.getD l []) (fl : f ∈ B.getD l [])
    (mj : ¬ Apart (B.getD i []) (B.getD j [])) (mk : ¬ Apart (B.getD i []) (B.getD k [])) (ml : ¬ Apart (B.getD i []) (B.getD l [])) : False := by
  have lt := fun {q x : Nat} (hq : q < B.length) (hx : x ∈ B.getD q []) => (T.bl _ (mem_at hq)).lt x hx
  obtain ⟨D, hD, d1, d2⟩ := nine_miss T hi (lt hj dj) hd
  obtain ⟨E, hE, e1, e2⟩ := nine_miss T hi (lt hj ej) he
  obtain ⟨F, hF, f1, f2⟩ := nine_miss T hi (lt hk fk) hf
  have hDE : D ≠ E := fun h => by
    subst h
    have hj' : D ≠ j := fun h => mj (h ▸ d2)
    exact hde (at_most_one T hD hj hj' d1 e1 dj ej)
  have hDF : D ≠ F := fun h => by
    subst h
    have hk' : D ≠ k := fun h => mk (h ▸ d2)
    exact hdf (at_most_one T hD hk hk' d1 f1 dk fk)
  have hEF : E ≠ F := fun h => by
    subst h
    have hl' : E ≠ l := fun h => ml (h ▸ e2)
    exact hef (at_most_one T hE hl hl' e1 f1 el fl)
  exact nine_three T hi hD hE hF d2 e2 f2 (nine_apart T hi hD hE hDE d2 e2) (nine_apart T hi hD hF hDF d2 f2) (nine_apart T hi hE hF hEF e2 f2)
/-- A list of fewer points than there are lacks one. -/
theorem lack {v : Nat} {l : List Nat} (hp : Pts v l) (h : l.length < v) : ∃ x, x < v ∧ x ∉ l := by
  have hl := oth_len hp
  obtain ⟨x, hx⟩ : ∃ x, x ∈ oth v l := List.exists_mem_of_ne_nil _ fun e => by rw [e] at hl; simp at hl; omega
  exact ⟨x, oth_mem.1 hx⟩
/-- Of nine points each system can be cut. -/
theorem nine_cut {r : Nat} {B : List (List Nat)} (T : Two 9 3 r 1 B) (hB : B ≠ []) : ccB 9 B (fun _ => false) = true := by
  have h0 : 0 < B.length := List.length_pos_iff.2 hB
  have s0 := T.sz _ (mem_at h0)
  obtain ⟨x, hx, hx0⟩ := lack (T.bl _ (mem_at h0)) (by omega)
  obtain ⟨j, hj, xj, aj⟩ := nine_miss T h0 hx hx0
  have sj := T.sz _ (mem_at hj)
  obtain ⟨y, hy, hy0⟩ := lack (v := 9) (l := B.getD 0 [] ++ B.getD j []) ⟨apart_nodup (T.bl _ (mem_at h0)).1 (T.bl _ (mem_at hj)).1 aj, fun z hz => by
    rcases List.mem_append.1 hz with h | h
    · exact (T.bl _ (mem_at h0)).lt _ h
    · exact (T.bl _ (mem_at hj)).lt _ h⟩ (by rw [List.length_append]; omega)
  have hy1 : y ∉ B.getD 0 [] := fun h => hy0 (List.mem_append.2 (.inl h))
  have hy2 : y ∉ B.getD j [] := fun h => hy0 (List.mem_append.2 (.inr h))
  obtain ⟨k, hk, yk, ak⟩ := nine_miss T h0 hy hy1
  have sk := T.sz _ (mem_at hk)
  have hjk : j ≠ k := fun e => hy2 (e ▸ yk)
  have a3 := nine_apart T h0 hj hk hjk aj ak
  have all : ∀ z, z < 9 → z ∈ B.getD 0 [] ∨ z ∈ B.getD j [] ∨ z ∈ B.getD k [] := fun z hz => Classical.byContradiction fun hn => by
    have n1 : z ∉ B.getD 0 [] := fun h => hn (.inl h)
    obtain ⟨l, hl, zl, al⟩ := nine_miss T h0 hz n1
    have hjl : j ≠ l := fun e => hn (.inr (.inl (e ▸ zl)))
    have hkl : k ≠ l := fun e => hn (.inr (.inr (e ▸ zl)))
    exact nine_three T h0 hj hk hl aj ak al a3 (nine_apart T h0 hj hl hjl aj al) (nine_apart T h0 hk hl hkl ak al)
  have ne : ∀ q, q < B.length → fitD (fun _ => false) (B.getD q []) = true := fun q hq => fitD_iff.2 ⟨fun e => by have := T.sz _ (mem_at hq); rw [e] at this; simp at this, fun _ _ => rfl⟩
  have ap : ∀ {a b : Nat}, Apart (B.getD a []) (B.getD b []) → ∀ z, z ∈ B.getD b [] → z ∉ B.getD a [] := fun h z hz hz2 => h z hz2 hz
  refine cc_iff.2 ⟨fun q => q == 0 || q == j || q == k, fun q hq _ => ne q hq, fun p q hp hq sp sq hpq z hz => ?_, fun z hz => ?_⟩
  · simp only [Bool.or_eq_true, beq_iff_eq] at sp sq
    rcases sp with (rfl | rfl) | rfl <;> rcases sq with (rfl | rfl) | rfl
    · exact (hpq rfl).elim
    · exact aj z hz
    · exact ak z hz
    · exact ap aj z hz
    · exact (hpq rfl).elim
    · exact a3 z hz
    · exact ap ak z hz
    · exact ap a3 z hz
    · exact (hpq rfl).elim
  · right
    rcases all z hz with h | h | h
    · exact ⟨0, h0, by simp, h⟩
    · exact ⟨j, hj, by simp, h⟩
    · exact ⟨k, hk, by simp, h⟩
theorem countP_or {p q : Nat → Bool} : ∀ {l : List Nat}, (∀ x ∈ l, p x = true → q x = true → False) → l.countP (fun x => p x || q x) = l.countP p + l.countP q
  | [], _ => rfl
  | y :: l, h => by
    have ih := countP_or (l := l) fun x hx => h x (by simp [hx])
    have hy := h y (by simp)
    rw [List.countP_cons, List.countP_cons, List.countP_cons, ih]
    cases e1 : p y <;> cases e2 : q y
    · simp
    · simp; omega
    · simp; omega
    · exact (hy e1 e2).elim
/-- Blocks of three that cut: how many they are. -/
theorem fc_three {v : Nat} : ∀ {B : List (List Nat)} {i : Nat} {D : Nat → Bool} {l : List Nat}, Bls v B → (∀ b ∈ B, b.length = 3) → fcB v B i D = some l → 3 * l.length + (List.range v).countP D = v
  | [], i, D, l, _, _, h => by
    unfold fcB at h
    by_cases e : fullD v D = true
    · rw [if_pos e] at h; cases h
      have : (List.range v).countP D = (List.range v).length := List.countP_eq_length.2 fun x hx => fullD_iff.1 e x (List.mem_range.1 hx)
      rw [this]; simp
    · rw [if_neg e] at h; cases h
  | b :: B, i, D, l, hB, h3, h => by
    have hB' : Bls v B := fun c hc => hB c (by simp [hc])
    have h3' : ∀ c ∈ B, c.length = 3 := fun c hc => h3 c (by simp [hc])
    have h' : (if (fitD D b && ccB v B (addD D b)) = true then (fcB v B (i + 1) (addD D b)).map (i :: ·) else fcB v B (i + 1) D) = some l := h
    by_cases e : (fitD D b && ccB v B (addD D b)) = true
    · rw [if_pos e] at h'
      cases e2 : fcB v B (i + 1) (addD D b) with
      | none => rw [e2] at h'; cases h'
      | some m =>
        rw [e2] at h'
        cases h'
        have ih := fc_three hB' h3' e2
        rw [Bool.and_eq_true] at e
        have c1 := countP_or (p := D) (q := fun x => b.contains x) (l := List.range v) fun x _ g1 g2 => by
          rw [(fitD_iff.1 e.1).2 x (List.contains_iff_mem.1 g2)] at g1; cases g1
        have c2 := countP_pts (hB b (by simp)) (fun _ => true)
        simp only [Bool.and_true, List.countP_true] at c2
        have c3 : (List.range v).countP (addD D b) = (List.range v).countP D + 3 := by
          show (List.range v).countP (fun x => D x || b.contains x) = _
          rw [c1, c2, h3 b (by simp)]
        rw [c3] at ih
        simp only [List.length_cons]
        omega
    · rw [if_neg e] at h'
      exact fc_three hB' h3' h'

end Go.Proofs.YtdeofjmgjhfkcabDoor

namespace Go.Proofs.YtdeofjmgjhfkcabDoor

theorem nine_none {r : Nat} {B : List (List Nat)} (h : Sys 9 B) (T : Two 9 3 r 1 B) {th : Nat → Nat → Nat} (ht : IsTh B th) {o x y : Nat} (ho : o < 9) (hx : x < 9) (hy : y < 9) : metT th o x y = false := by
  refine Bool.eq_false_iff.2 fun hm => ?_
  obtain ⟨i, j, k, l, p⟩ := pk_of_met h ht ho hx hy hm
  have d := nd6 p.nd
  have ji := h.just p.hi p.oi p.xi p.ci d.ox d.oc d.xc
  refine nine_no T p.hi p.hj p.hk p.hl (d := y) (e := th o y) (f := th x y) ?_ ?_ ?_ d.ye d.yf d.ef p.yj p.ej p.yk p.fk p.el p.fl ?_ ?_ ?_
  · rw [ji]; exact fun g => g.elim (fun g => d.oy g.symm) fun g => g.elim (fun g => d.xy g.symm) fun g => d.yc g
  · rw [ji]; exact fun g => g.elim (fun g => d.oe g.symm) fun g => g.elim (fun g => d.xe g.symm) fun g => d.ce g.symm
  · rw [ji]; exact fun g => g.elim (fun g => d.of g.symm) fun g => g.elim (fun g => d.xf g.symm) fun g => d.cf g.symm
  · exact fun a => a o p.oi p.oj
  · exact fun a => a x p.xi p.xk
  · exact fun a => a _ p.ci p.cl
theorem nine_pasch {r : Nat} {B : List (List Nat)} (h : Sys 9 B) (T : Two 9 3 r 1 B) {th : Nat → Nat → Nat} (ht : IsTh B th) : (sm 9 fun o => sm 9 fun x => (List.range 9).countP fun y => metT th o x y) = 0 :=
  sm_zero fun o ho => sm_zero fun x hx => List.countP_eq_zero.2 fun y hy => by rw [nine_none h T ht ho hx (List.mem_range.1 hy)]; simp
/-- Of seven points each three that are in no block are met. -/
theorem seven_all {r : Nat} {B : List (List Nat)} (h : Sys 7 B) (T : Two 7 3 r 1 B) {th : Nat → Nat → Nat} (ht : IsTh B th) {o x y : Nat} (ho : o < 7) (hx : x < 7) (hy : y < 7) : metT th o x y = decide (o ≠ x ∧ y ≠ o ∧ y ≠ x ∧ y ≠ th o x) := by
  unfold metT
  refine decide_eq_decide.2 ⟨fun ⟨m1, m2, m3, m4, _⟩ => ⟨m1, m2.symm, m3.symm, m4.symm⟩, fun ⟨m1, m2, m3, m4⟩ => ⟨m1, m2.symm, m3.symm, m4.symm, ?_⟩⟩
  replace m2 := m2.symm
  replace m3 := m3.symm
  replace m4 := m4.symm
  obtain ⟨i, hi, oi, xi⟩ := h.block ho hx m1
  obtain ⟨j, hj, oj, yj⟩ := h.block ho hy m2
  obtain ⟨k, hk, xk, yk⟩ := h.block hx hy m3
  obtain ⟨ci, co, cx, call⟩ := h.third ht hi oi xi m1
  obtain ⟨ej, eo, ey, eall⟩ := h.third ht hj oj yj m2
  obtain ⟨fk, fx, fy, fall⟩ := h.third ht hk xk yk m3
  have yi : y ∉ B.getD i [] := fun g => by rcases call y g with g | g | g; exact m2 g.symm; exact m3 g.symm; exact m4 g.symm
  have xj : x ∉ B.getD j [] := fun g => yi (by rw [h.one hi hj m1 oi xi oj g]; exact yj)
  have hij : i ≠ j := fun g => yi (by rw [g]; exact yj)
  have hik : i ≠ k := fun g => yi (by rw [g]; exact yk)
  have hjk : j ≠ k := fun g => xj (by rw [g]; exact xk)
  have hce : th o x ≠ th o y := fun g => hij (h.one hi hj co ci oi (by rw [g]; exact ej) oj)
  obtain ⟨l, hl, cl, el⟩ := h.block (h.lt hi ci) (h.lt hj ej) hce
  obtain ⟨fl, fc, fe, gall⟩ := h.third ht hl cl el hce
  have hil : i ≠ l := fun g => hij (h.one hi hj eo (by rw [g]; exact el) oi ej oj)
  have hjl : j ≠ l := fun g => hij (h.one hi hj co ci oi (by rw [g]; exact cl) oj)
  have hkl : k ≠ l := fun g => hik (h.one hi hk cx ci xi (by rw [g]; exact cl) xk)
  obtain ⟨z, zk, zl⟩ := seven_meet T hk hl hkl
  rcases fall z zk with e | e | e
  · subst e; exact (hil (h.one hi hl cx.symm xi ci zl cl)).elim
  · subst e; exact (hjl (h.one hj hl ey.symm yj ej zl el)).elim
  · rcases gall z zl with g | g | g
    · subst e; exact (hik (h.one hi hk cx ci xi (by rw [← g]; exact zk) xk)).elim
    · subst e; exact (hjk (h.one hj hk ey ej yj (by rw [← g]; exact zk) yk)).elim
    · rw [← e, g]
theorem four_left {a b c : Nat} (ha : a < 7) (hb : b < 7) (hc : c < 7) (h1 : a ≠ b) (h2 : a ≠ c) (h3 : b ≠ c) : (List.range 7).countP (fun y => decide (y ≠ a ∧ y ≠ b ∧ y ≠ c)) = 4 := by
  have : ∀ a b c : Fin 7, (a = b || a = c || b = c || (List.range 7).countP (fun y => decide (y ≠ a.1 ∧ y ≠ b.1 ∧ y ≠ c.1)) == 4) = true := by decide +kernel
  have := this ⟨a, ha⟩ ⟨b, hb⟩ ⟨c, hc⟩
  simpa [Fin.ext_iff, h1, h2, h3] using this
theorem seven_pasch {r : Nat} {B : List (List Nat)} (h : Sys 7 B) (T : Two 7 3 r 1 B) {th : Nat → Nat → Nat} (ht : IsTh B th) : (sm 7 fun o => sm 7 fun x => (List.range 7).countP fun y => metT th o x y) = 168 := by
  have e : (sm 7 fun o => sm 7 fun x => (List.range 7).countP fun y => metT th o x y) = sm 7 fun o => sm 7 fun x => if o = x then 0 else 4 := by
    refine sm_congr fun o ho => sm_congr fun x hx => ?_
    have e1 : (List.range 7).countP (fun y => metT th o x y) = (List.range 7).countP fun y => decide (o ≠ x ∧ y ≠ o ∧ y ≠ x ∧ y ≠ th o x) := List.countP_congr fun y hy => by rw [seven_all h T ht ho hx (List.mem_range.1 hy)]
    rw [e1]
    by_cases g : o = x
    · rw [if_pos g, List.countP_eq_zero]
      intro y _ hy
      exact (of_decide_eq_true hy).1 g
    · rw [if_neg g]
      obtain ⟨i, hi, oi, xi⟩ := h.block ho hx g
      obtain ⟨ci, co, cx, _⟩ := h.third ht hi oi xi g
      rw [← four_left ho hx (h.lt hi ci) g co.symm cx.symm]
      refine List.countP_congr fun y _ => ?_
      simp [g]
  rw [e]
  decide +kernel
theorem sys_two {v : Nat} {B : List (List Nat)} (hB : Sys v B) (hv : 3 < v) (hL : Lev v B 2 1) : ∃ r, Two v 3 r 1 B := two_of hB.bl hB.sz (by omega) hv hL
theorem seven_mt {r : Nat} {B : List (List Nat)} (h : Sys 7 B) (T : Two 7 3 r 1 B) {i j : Nat} (hi : i < B.length) (hj : j < B.length) (hn : i ≠ j) : mt (B.getD i []) (B.getD j []) = 1 := by
  obtain ⟨z, z1, z2⟩ := seven_meet T hi hj hn
  exact meet_mt h hi hj hn z1 z2
theorem nine_par {r : Nat} {B : List (List Nat)} (T : Two 9 3 r 1 B) (hB : B ≠ []) : ∃ l, fcB 9 B 0 (fun _ => false) = some l ∧ l.length = 3 := by
  have h := fcB_some (v := 9) (B := B) (i := 0) (D := fun _ => false)
  rw [nine_cut T hB] at h
  obtain ⟨l, hl⟩ := Option.isSome_iff_exists.1 h
  have h3 := fc_three T.bl T.sz hl
  have : (List.range 9).countP (fun _ => false) = 0 := by decide
  exact ⟨l, hl, by omega⟩

end Go.Proofs.YtdeofjmgjhfkcabDoor
