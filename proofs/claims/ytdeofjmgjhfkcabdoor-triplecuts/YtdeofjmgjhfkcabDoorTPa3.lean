/- Pasch's sets of four: what the program counts is 24 times what the document counts; nothing of the program. -/
import Derived.Test.YtdeofjmgjhfkcabDoorTPas
/- Pasch's sets of four: three points, or four blocks; nothing of the program. -/
namespace Go.Proofs.YtdeofjmgjhfkcabDoor

/-- A table that has for each two points of a block the third. -/
def IsTh (B : List (List Nat)) (th : Nat → Nat → Nat) : Prop := ∀ b ∈ B, ∀ x ∈ b, ∀ y ∈ b, ∀ z ∈ b, x ≠ y → x ≠ z → y ≠ z → th x y = z
theorem Sys.at {v : Nat} {B : List (List Nat)} (h : Sys v B) {i : Nat} (hi : i < B.length) : ∃ x y z, B.getD i [] = [x, y, z] ∧ x < v ∧ y < v ∧ z < v ∧ x ≠ y ∧ x ≠ z ∧ y ≠ z :=
  three_of (h.bl _ (mem_at hi)) (h.sz _ (mem_at hi))
theorem Sys.lt {v : Nat} {B : List (List Nat)} (h : Sys v B) {i x : Nat} (hi : i < B.length) (hx : x ∈ B.getD i []) : x < v := (h.bl _ (mem_at hi)).lt _ hx
/-- Two points have one block. -/
theorem Sys.one {v : Nat} {B : List (List Nat)} (h : Sys v B) {i j y z : Nat} (hi : i < B.length) (hj : j < B.length) (hn : y ≠ z) (h1 : y ∈ B.getD i []) (h2 : z ∈ B.getD i []) (h3 : y ∈ B.getD j []) (h4 : z ∈ B.getD j []) : i = j := by
  refine Classical.byContradiction fun e => ?_
  have e1 := h.l2 y z (h.lt hi h1) (h.lt hi h2) hn
  have e2 : 2 ≤ nb B [y, z] := by
    unfold nb
    rcases Nat.lt_or_gt_of_ne e with e | e
    · exact count_two (i := i) (j := j) e hj (by simpa using ⟨h1, h2⟩) (by simpa using ⟨h3, h4⟩)
    · exact count_two (i := j) (j := i) e hi (by simpa using ⟨h3, h4⟩) (by simpa using ⟨h1, h2⟩)
  omega
theorem Sys.block {v : Nat} {B : List (List Nat)} (h : Sys v B) {y z : Nat} (hy : y < v) (hz : z < v) (hn : y ≠ z) : ∃ i, i < B.length ∧ y ∈ B.getD i [] ∧ z ∈ B.getD i [] := by
  have e1 := h.l2 y z hy hz hn
  have e2 : 0 < nb B [y, z] := by omega
  unfold nb at e2
  obtain ⟨b, hb, hp⟩ := List.countP_pos_iff.1 e2
  obtain ⟨j, hj, rfl⟩ := List.mem_iff_getElem.1 hb
  have hp : y ∈ B[j] ∧ z ∈ B[j] := by simpa using hp
  exact ⟨j, hj, by rw [List.getD_eq_getElem?_getD, List.getElem?_eq_getElem hj]; exact hp⟩
theorem Sys.third {v : Nat} {B : List (List Nat)} (h : Sys v B) {th : Nat → Nat → Nat} (ht : IsTh B th) {i x y : Nat} (hi : i < B.length) (hx : x ∈ B.getD i []) (hy : y ∈ B.getD i []) (hn : x ≠ y) : th x y ∈ B.getD i [] ∧ th x y ≠ x ∧ th x y ≠ y ∧ ∀ z ∈ B.getD i [], z = x ∨ z = y ∨ z = th x y := by
  obtain ⟨a, b, c, e, _, _, _, h1, h2, h3⟩ := h.at hi
  have ht := ht _ (mem_at hi)
  rw [e] at hx hy ht ⊢
  have key : ∀ z ∈ [a, b, c], x ≠ z → y ≠ z → th x y = z := fun z hz => ht x hx y hy z hz hn
  simp only [List.mem_cons, List.not_mem_nil, or_false] at hx hy
  obtain ⟨z, hz, hxz, hyz, hall⟩ : ∃ z, z ∈ [a, b, c] ∧ x ≠ z ∧ y ≠ z ∧ ∀ t ∈ [a, b, c], t = x ∨ t = y ∨ t = z := by
    simp only [List.mem_cons, List.not_mem_nil, or_false]
    rcases hx with rfl | rfl | rfl <;> rcases hy with rfl | rfl | rfl
    · exact (hn rfl).elim
    · exact ⟨c, by simp, h2, h3, fun t ht => by omega⟩
    · exact ⟨b, by simp, h1, h3.symm, fun t ht => by omega⟩
    · exact ⟨c, by simp, h3, h2, fun t ht => by omega⟩
    · exact (hn rfl).elim
    · exact ⟨a, by simp, h1.symm, h2.symm, fun t ht => by omega⟩
    · exact ⟨b, by simp, h3.symm, h1, fun t ht => by omega⟩
    · exact ⟨a, by simp, h2.symm, h1.symm, fun t ht => by omega⟩
    · exact (hn rfl).elim
  rw [key z hz hxz hyz]
  exact ⟨hz, hxz.symm, hyz.symm, hall⟩
/-- Six points in four blocks. -/
structure Pk6 (B : List (List Nat)) (o x y c e f i j k l : Nat) : Prop where
  nd : [o, x, y, c, e, f].Nodup
  hi : i < B.length
  hj : j < B.length
  hk : k < B.length
  hl : l < B.length
  oi : o ∈ B.getD i []
  xi : x ∈ B.getD i []
  ci : c ∈ B.getD i []
  oj : o ∈ B.getD j []
  yj : y ∈ B.getD j []
  ej : e ∈ B.getD j []
  xk : x ∈ B.getD k []
  yk : y ∈ B.getD k []
  fk : f ∈ B.getD k []
  cl : c ∈ B.getD l []
  el : e ∈ B.getD l []
  fl : f ∈ B.getD l []
structure Nd6 (o x y c e f : Nat) : Prop where
  ox : o ≠ x
  oy : o ≠ y
  oc : o ≠ c
  oe : o ≠ e
  of : o ≠ f
  xy : x ≠ y
  xc : x ≠ c
  xe : x ≠ e
  xf : x ≠ f
  yc : y ≠ c
  ye : y ≠ e
  yf : y ≠ f
  ce : c ≠ e
  cf : c ≠ f
  ef : e ≠ f
theorem nd6 {o x y c e f : Nat} (h : [o, x, y, c, e, f].Nodup) : Nd6 o x y c e f := by
  simp only [List.nodup_cons, List.mem_cons, List.not_mem_nil, or_false, not_or, not_false_eq_true, List.nodup_nil, and_true] at h
  obtain ⟨⟨a, b, c, d, e⟩, ⟨f, g, h, i⟩, ⟨j, k, l⟩, ⟨m, n⟩, o⟩ := h
  exact ⟨a, b, c, d, e, f, g, h, i, j, k, l, m, n, o⟩
theorem of_nd6 {o x y c e f : Nat} (h : Nd6 o x y c e f) : [o, x, y, c, e, f].Nodup := by
  simp only [List.nodup_cons, List.mem_cons, List.not_mem_nil, or_false, not_or, not_false_eq_true, List.nodup_nil, and_true]
  exact ⟨⟨h.ox, h.oy, h.oc, h.oe, h.of⟩, ⟨h.xy, h.xc, h.xe, h.xf⟩, ⟨h.yc, h.ye, h.yf⟩, ⟨h.ce, h.cf⟩, h.ef⟩
/-- What the program asks of three points. -/
def metT (th : Nat → Nat → Nat) (o x y : Nat) : Bool := decide (o ≠ x ∧ o ≠ y ∧ x ≠ y ∧ th o x ≠ y ∧ th x y = th (th o x) (th o y))
/-- What the document asks of four blocks. -/
def four (B : List (List Nat)) (i j k l z : Nat) : Nat := (if z ∈ B.getD i [] then 1 else 0) + (if z ∈ B.getD j [] then 1 else 0) + (if z ∈ B.getD k [] then 1 else 0) + (if z ∈ B.getD l [] then 1 else 0)
def PaQ (v : Nat) (B : List (List Nat)) (i j k l : Nat) : Prop := (i ≠ j ∧ i ≠ k ∧ i ≠ l ∧ j ≠ k ∧ j ≠ l ∧ k ≠ l) ∧ ∀ z, z < v → four B i j k l z = 0 ∨ four B i j k l z = 2
theorem pk_of_met {v : Nat} {B : List (List Nat)} (h : Sys v B) {th : Nat → Nat → Nat} (ht : IsTh B th) {o x y : Nat} (ho : o < v) (hx : x < v) (hy : y < v) (hm : metT th o x y = true) : ∃ i j k l, Pk6 B o x y (th o x) (th o y) (th x y) i j k l := by
  unfold metT at hm
  obtain ⟨m1, m2, m3, m4, m5⟩ := of_decide_eq_true hm
  obtain ⟨i, hi, oi, xi⟩ := h.block ho hx m1
  obtain ⟨j, hj, oj, yj⟩ := h.block ho hy m2
  obtain ⟨k, hk, xk, yk⟩ := h.block hx hy m3
  obtain ⟨ci, co, cx, call⟩ := h.third ht hi oi xi m1
  obtain ⟨ej, eo, ey, eall⟩ := h.third ht hj oj yj m2
  obtain ⟨fk, fx, fy, fall⟩ := h.third ht hk xk yk m3
  have yi : y ∉ B.getD i [] := fun g => by rcases call y g with g | g | g; exact m2 g.symm; exact m3 g.symm; exact m4 g.symm
  have xj : x ∉ B.getD j [] := fun g => yi (by rw [h.one hi hj m1 oi xi oj g]; exact yj)
  have hij : i ≠ j := fun g => yi (by rw [g]; exact yj)
  have hik : i ≠ k := fun g => yi (by rw [g]; exact yk)
  have hjk : j ≠ k := fun g => xj (by rw [g]; exact xk)
  have hce : th o x ≠ th o y := fun g => hij (h.one hi hj co ci oi (by rw [g]; exact ej) oj)
  obtain ⟨l, hl, cl, el⟩ := h.block (h.lt hi ci) (h.lt hj ej) hce
  obtain ⟨fl, fc, fe, _⟩ := h.third ht hl cl el hce
  rw [← m5] at fl fc fe
  refine ⟨i, j, k, l, of_nd6 ⟨m1, m2, co.symm, eo.symm, fun g => ?_, m3, cx.symm, fun g => ?_, fx.symm, m4.symm, ey.symm, fy.symm, hce, fc.symm, fe.symm⟩, hi, hj, hk, hl, oi, xi, ci, oj, yj, ej, xk, yk, fk, cl, el, fl⟩
  · exact hik (h.one hi hk m1 oi xi (by rw [g]; exact fk) xk)
  · exact xj (by rw [g]; exact ej)
theorem Pk6.met {v : Nat} {B : List (List Nat)} (_ : Sys v B) {th : Nat → Nat → Nat} (ht : IsTh B th) {o x y c e f i j k l : Nat} (p : Pk6 B o x y c e f i j k l) : metT th o x y = true ∧ c = th o x ∧ e = th o y ∧ f = th x y := by
  have d := nd6 p.nd
  have h1 := ht _ (mem_at p.hi) o p.oi x p.xi c p.ci d.ox d.oc d.xc
  have h2 := ht _ (mem_at p.hj) o p.oj y p.yj e p.ej d.oy d.oe d.ye
  have h3 := ht _ (mem_at p.hk) x p.xk y p.yk f p.fk d.xy d.xf d.yf
  have h4 := ht _ (mem_at p.hl) c p.cl e p.el f p.fl d.ce d.cf d.ef
  exact ⟨decide_eq_true ⟨d.ox, d.oy, d.xy, by rw [h1]; exact d.yc.symm, by rw [h1, h2, h3, h4]⟩, h1.symm, h2.symm, h3.symm⟩
theorem Sys.just {v : Nat} {B : List (List Nat)} (h : Sys v B) {i x y z : Nat} (hi : i < B.length) (hx : x ∈ B.getD i []) (hy : y ∈ B.getD i []) (hz : z ∈ B.getD i []) (h1 : x ≠ y) (h2 : x ≠ z) (h3 : y ≠ z) (t : Nat) : t ∈ B.getD i [] ↔ t = x ∨ t = y ∨ t = z := by
  obtain ⟨a, b, c, e, _⟩ := h.at hi
  rw [e] at hx hy hz ⊢
  simp only [List.mem_cons, List.not_mem_nil, or_false] at hx hy hz ⊢
  omega
theorem Pk6.paq {v : Nat} {B : List (List Nat)} (h : Sys v B) {o x y c e f i j k l : Nat} (p : Pk6 B o x y c e f i j k l) : PaQ v B i j k l := by
  have d := nd6 p.nd
  have ji := h.just p.hi p.oi p.xi p.ci d.ox d.oc d.xc
  have jj := h.just p.hj p.oj p.yj p.ej d.oy d.oe d.ye
  have jk := h.just p.hk p.xk p.yk p.fk d.xy d.xf d.yf
  have jl := h.just p.hl p.cl p.el p.fl d.ce d.cf d.ef
  obtain ⟨h1, h2, h3, h4, h5, h6, h7, h8, h9, g1, g2, g3, g4, g5, g6⟩ := d
  refine ⟨⟨fun g => ?_, fun g => ?_, fun g => ?_, fun g => ?_, fun g => ?_, fun g => ?_⟩, fun z _ => ?_⟩
  · have := (ji y).1 (by rw [g]; exact p.yj); omega
  · have := (ji y).1 (by rw [g]; exact p.yk); omega
  · have := (ji e).1 (by rw [g]; exact p.el); omega
  · have := (jj x).1 (by rw [g]; exact p.xk); omega
  · have := (jj c).1 (by rw [g]; exact p.cl); omega
  · have := (jk c).1 (by rw [g]; exact p.cl); omega
  · unfold four
    simp only [ji, jj, jk, jl]
    by_cases a1 : z = o
    · subst a1; right; simp [*]
    · by_cases a2 : z = x
      · subst a2; right; simp [*]
      · by_cases a3 : z = y
        · subst a3; right; rw [if_neg (by omega), if_pos (by omega), if_pos (by omega), if_neg (by omega)]
        · by_cases a4 : z = c
          · subst a4; right; rw [if_pos (by omega), if_neg (by omega), if_neg (by omega), if_pos (by omega)]
          · by_cases a5 : z = e
            · subst a5; right; rw [if_neg (by omega), if_pos (by omega), if_neg (by omega), if_pos (by omega)]
            · by_cases a6 : z = f
              · subst a6; right; rw [if_neg (by omega), if_neg (by omega), if_pos (by omega), if_pos (by omega)]
              · left; rw [if_neg (by omega), if_neg (by omega), if_neg (by omega), if_neg (by omega)]
/-- A block each of whose points lies in one of three others meets each of them. -/
theorem meet_one {v : Nat} {B : List (List Nat)} (h : Sys v B) {i j k l : Nat} (hi : i < B.length) (hk : k < B.length) (hl : l < B.length) (ik : i ≠ k) (il : i ≠ l) (ha : ∀ z ∈ B.getD i [], z ∈ B.getD j [] ∨ z ∈ B.getD k [] ∨ z ∈ B.getD l []) : ∃ z, z ∈ B.getD i [] ∧ z ∈ B.getD j [] := by
  obtain ⟨a, b, c, e, _, _, _, h1, h2, h3⟩ := h.at hi
  refine Classical.byContradiction fun hn => ?_
  have hn : ∀ z ∈ B.getD i [], z ∉ B.getD j [] := fun z g1 g2 => hn ⟨z, g1, g2⟩
  have ma : a ∈ B.getD i [] := by rw [e]; simp
  have mb : b ∈ B.getD i [] := by rw [e]; simp
  have mc : c ∈ B.getD i [] := by rw [e]; simp
  have two : ∀ {s t : Nat}, s ∈ B.getD i [] → t ∈ B.getD i [] → s ≠ t → (s ∈ B.getD k [] → t ∈ B.getD k [] → False) ∧ (s ∈ B.getD l [] → t ∈ B.getD l [] → False) := fun ms mt st => ⟨fun g1 g2 => ik (h.one hi hk st ms mt g1 g2), fun g1 g2 => il (h.one hi hl st ms mt g1 g2)⟩
  have kl : ∀ z ∈ B.getD i [], z ∈ B.getD k [] ∨ z ∈ B.getD l [] := fun z g => by rcases ha z g with g' | g'; exact (hn z g g').elim; exact g'
  rcases kl a ma with a1 | a1
  · have b1 := (kl b mb).resolve_left fun g => (two ma mb h1).1 a1 g
    have c1 := (kl c mc).resolve_left fun g => (two ma mc h2).1 a1 g
    exact (two mb mc h3).2 b1 c1
  · have b1 := (kl b mb).resolve_right fun g => (two ma mb h1).2 a1 g
    have c1 := (kl c mc).resolve_right fun g => (two ma mc h2).2 a1 g
    exact (two mb mc h3).1 b1 c1
theorem four_pos {B : List (List Nat)} {i j k l z : Nat} (h : four B i j k l z = 0 ∨ four B i j k l z = 2) :
    (z ∈ B.getD i [] → z ∈ B.getD j [] ∨ z ∈ B.getD k [] ∨ z ∈ B.getD l []) ∧ (z ∈ B.getD j [] → z ∈ B.getD i [] ∨ z ∈ B.getD k [] ∨ z ∈ B.getD l []) ∧ (z ∈ B.getD k [] → z ∈ B.getD i [] ∨ z ∈ B.getD j [] ∨ z ∈ B.getD l []) ∧
    ¬ (z ∈ B.getD i [] ∧ z ∈ B.getD j [] ∧ z ∈ B.getD k []) ∧ ¬ (z ∈ B.getD i [] ∧ z ∈ B.getD j [] ∧ z ∈ B.getD l []) ∧ ¬ (z ∈ B.getD i [] ∧ z ∈ B.getD k [] ∧ z ∈ B.getD l []) ∧ ¬ (z ∈ B.getD j [] ∧ z ∈ B.getD k [] ∧ z ∈ B.getD l []) := by
  unfold four at h
  by_cases a1 : z ∈ B.getD i [] <;> by_cases a2 : z ∈ B.getD j [] <;> by_cases a3 : z ∈ B.getD k [] <;> by_cases a4 : z ∈ B.getD l [] <;> simp only [a1, a2, a3, a4, if_true, if_false] at h ⊢ <;> simp at h ⊢
theorem pk_of_paq {v : Nat} {B : List (List Nat)} (h : Sys v B) {i j k l : Nat} (hi : i < B.length) (hj : j < B.length) (hk : k < B.length) (hl : l < B.length) (hq : PaQ v B i j k l) : ∃ o x y c e f, Pk6 B o x y c e f i j k l := by
  obtain ⟨⟨ij, ik, il, jk, jl, kl⟩, hq⟩ := hq
  have fp := fun {q z} (hq' : q < B.length) (hz : z ∈ B.getD q []) => four_pos (hq z (h.lt hq' hz))
  obtain ⟨o, oi, oj⟩ := meet_one h (j := j) hi hk hl ik il fun z hz => (fp hi hz).1 hz
  obtain ⟨x, xi, xk⟩ := meet_one h (j := k) hi hj hl ij il fun z hz => by rcases (fp hi hz).1 hz with g | g | g; exact .inr (.inl g); exact .inl g; exact .inr (.inr g)
  obtain ⟨c, ci, cl⟩ := meet_one h (j := l) hi hj hk ij ik fun z hz => by rcases (fp hi hz).1 hz with g | g | g; exact .inr (.inl g); exact .inr (.inr g); exact .inl g
  obtain ⟨y, yj, yk⟩ := meet_one h (j := k) hj hi hl ij.symm jl fun z hz => by rcases (fp hj hz).2.1 hz with g | g | g; exact .inr (.inl g); exact .inl g; exact .inr (.inr g)
  obtain ⟨e, ej, el⟩ := meet_one h (j := l) hj hi hk ij.symm jk fun z hz => by rcases (fp hj hz).2.1 hz with g | g | g; exact .inr (.inl g); exact .inr (.inr g); exact .inl g
  obtain ⟨f, fk, fl⟩ := meet_one h (j := l) hk hi hj ik.symm jk.symm fun z hz => by rcases (fp hk hz).2.2.1 hz with g | g | g; exact .inr (.inl g); exact .inr (.inr g); exact .inl g
  have n1 := fun {z} (g1 : z ∈ B.getD i []) (g2 : z ∈ B.getD j []) (g3 : z ∈ B.getD k []) => (fp hi g1).2.2.2.1 ⟨g1, g2, g3⟩
  have n2 := fun {z} (g1 : z ∈ B.getD i []) (g2 : z ∈ B.getD j []) (g3 : z ∈ B.getD l []) => (fp hi g1).2.2.2.2.1 ⟨g1, g2, g3⟩
  have n3 := fun {z} (g1 : z ∈ B.getD i []) (g2 : z ∈ B.getD k []) (g3 : z ∈ B.getD l []) => (fp hi g1).2.2.2.2.2.1 ⟨g1, g2, g3⟩
  have n4 := fun {z} (g1 : z ∈ B.getD j []) (g2 : z ∈ B.getD k []) (g3 : z ∈ B.getD l []) => (fp hj g1).2.2.2.2.2.2 ⟨g1, g2, g3⟩
  refine ⟨o, x, y, c, e, f, of_nd6 ⟨fun g => ?_, fun g => ?_, fun g => ?_, fun g => ?_, fun g => ?_, fun g => ?_, fun g => ?_, fun g => ?_, fun g => ?_, fun g => ?_, fun g => ?_, fun g => ?_, fun g => ?_, fun g => ?_, fun g => ?_⟩, hi, hj, hk, hl, oi, xi, ci, oj, yj, ej, xk, yk, fk, cl, el, fl⟩ <;> subst g
  · exact n1 oi oj xk
  · exact n1 oi oj yk
  · exact n2 oi oj cl
  · exact n2 oi oj el
  · exact n1 oi oj fk
  · exact n1 xi yj xk
  · exact n3 xi xk cl
  · exact n1 xi ej xk
  · exact n3 xi xk fl
  · exact n1 ci yj yk
  · exact n4 yj yk el
  · exact n4 yj yk fl
  · exact n2 ci ej cl
  · exact n3 ci fk cl
  · exact n4 ej fk el

instance (v : Nat) (B : List (List Nat)) (i j k l : Nat) : Decidable (PaQ v B i j k l) := by unfold PaQ; infer_instance
/-- Both count the same. -/
theorem met_four {v : Nat} {B : List (List Nat)} (h : Sys v B) {th : Nat → Nat → Nat} (ht : IsTh B th) :
    (sm v fun o => sm v fun x => (List.range v).countP fun y => metT th o x y) = sm B.length fun i => sm B.length fun j => sm B.length fun k => (List.range B.length).countP fun l => decide (PaQ v B i j k l) := by
  have e1 : ((pr2 (List.range v) (pr2 (List.range v) (List.range v))).filter fun t => metT th t.1 t.2.1 t.2.2).length = sm v fun o => sm v fun x => (List.range v).countP fun y => metT th o x y := by
    rw [← List.countP_eq_length_filter, countP_pr2]
    exact dS_congr fun o _ => by rw [countP_pr2]; rfl
  have e2 : ((pr2 (List.range B.length) (pr2 (List.range B.length) (pr2 (List.range B.length) (List.range B.length)))).filter fun t => decide (PaQ v B t.1 t.2.1 t.2.2.1 t.2.2.2)).length = sm B.length fun i => sm B.length fun j => sm B.length fun k => (List.range B.length).countP fun l => decide (PaQ v B i j k l) := by
    rw [← List.countP_eq_length_filter, countP_pr2]
    exact dS_congr fun i _ => by rw [countP_pr2]; exact dS_congr fun j _ => by rw [countP_pr2]; rfl
  rw [← e1, ← e2]
  refine bij_len (R := fun t q => ∃ c e f, Pk6 B t.1 t.2.1 t.2.2 c e f q.1 q.2.1 q.2.2.1 q.2.2.2) ((nodup_pr2 List.nodup_range (nodup_pr2 List.nodup_range List.nodup_range)).filter _) ((nodup_pr2 List.nodup_range (nodup_pr2 List.nodup_range (nodup_pr2 List.nodup_range List.nodup_range))).filter _) ?_ ?_ ?_ ?_
  · rintro ⟨o, x, y⟩ ht'
    obtain ⟨m1, m2⟩ := List.mem_filter.1 ht'
    simp only [mem_pr2, List.mem_range] at m1
    obtain ⟨i, j, k, l, hp⟩ := pk_of_met h ht m1.1 m1.2.1 m1.2.2 m2
    refine ⟨(i, j, k, l), List.mem_filter.2 ⟨?_, decide_eq_true (hp.paq h)⟩, _, _, _, hp⟩
    simp only [mem_pr2, List.mem_range]; exact ⟨hp.hi, hp.hj, hp.hk, hp.hl⟩
  · rintro ⟨i, j, k, l⟩ ht'
    obtain ⟨m1, m2⟩ := List.mem_filter.1 ht'
    simp only [mem_pr2, List.mem_range] at m1
    obtain ⟨o, x, y, c, e, f, hp⟩ := pk_of_paq h m1.1 m1.2.1 m1.2.2.1 m1.2.2.2 (of_decide_eq_true m2)
    refine ⟨(o, x, y), List.mem_filter.2 ⟨?_, (hp.met h ht).1⟩, c, e, f, hp⟩
    simp only [mem_pr2, List.mem_range]; exact ⟨h.lt hp.hi hp.oi, h.lt hp.hi hp.xi, h.lt hp.hj hp.yj⟩
  · rintro ⟨o, x, y⟩ ⟨i, j, k, l⟩ ⟨i', j', k', l'⟩ ⟨c, e, f, p⟩ ⟨c', e', f', p'⟩
    obtain ⟨_, rfl, rfl, rfl⟩ := p.met h ht
    obtain ⟨_, rfl, rfl, rfl⟩ := p'.met h ht
    have d := nd6 p.nd
    simp only [Prod.mk.injEq]
    exact ⟨h.one p.hi p'.hi d.ox p.oi p.xi p'.oi p'.xi, h.one p.hj p'.hj d.oy p.oj p.yj p'.oj p'.yj, h.one p.hk p'.hk d.xy p.xk p.yk p'.xk p'.yk, h.one p.hl p'.hl d.ce p.cl p.el p'.cl p'.el⟩
  · rintro ⟨o, x, y⟩ ⟨o', x', y'⟩ ⟨i, j, k, l⟩ ⟨c, e, f, p⟩ ⟨c', e', f', p'⟩
    obtain ⟨⟨ij, ik, il, jk, jl, kl⟩, _⟩ := p.paq h
    simp only [Prod.mk.injEq]
    refine ⟨Classical.byContradiction fun g => ij ?_, Classical.byContradiction fun g => ik ?_, Classical.byContradiction fun g => jk ?_⟩
    · exact h.one p.hi p.hj g p.oi p'.oi p.oj p'.oj
    · exact h.one p.hi p.hk g p.xi p'.xi p.xk p'.xk
    · exact h.one p.hj p.hk g p.yj p'.yj p.yk p'.yk

end Go.Proofs.YtdeofjmgjhfkcabDoor

namespace Go.Proofs.YtdeofjmgjhfkcabDoor

def paI (v : Nat) (B : List (List Nat)) (i j k l : Nat) : Nat := if PaQ v B i j k l then 1 else 0
theorem paI_congr {v : Nat} {B : List (List Nat)} {i j k l i' j' k' l' : Nat} (h : PaQ v B i j k l ↔ PaQ v B i' j' k' l') : paI v B i j k l = paI v B i' j' k' l' := by
  unfold paI
  by_cases e : PaQ v B i j k l
  · rw [if_pos e, if_pos (h.1 e)]
  · rw [if_neg e, if_neg fun g => e (h.2 g)]
theorem four_12 (B : List (List Nat)) (i j k l z : Nat) : four B i j k l z = four B j i k l z := by unfold four; omega
theorem four_23 (B : List (List Nat)) (i j k l z : Nat) : four B i j k l z = four B i k j l z := by unfold four; omega
theorem four_34 (B : List (List Nat)) (i j k l z : Nat) : four B i j k l z = four B i j l k z := by unfold four; omega
/-- What the program has met is 24 times the sets of four. -/
theorem met_24 {v : Nat} {B : List (List Nat)} (h : Sys v B) {th : Nat → Nat → Nat} (ht : IsTh B th) :
    (sm v fun o => sm v fun x => (List.range v).countP fun y => metT th o x y) = 24 * T4 B.length (paI v B) (fun i j k l => decide (i < j ∧ j < k ∧ k < l)) := by
  rw [met_four h ht, ← four_sym (q := paI v B)]
  · refine sm_congr fun i _ => sm_congr fun j _ => sm_congr fun k _ => ?_
    unfold sm
    rw [← dS_count]
    exact dS_congr fun l _ => by unfold paI; simp only [decide_eq_true_eq]
  · exact fun i j k l => paI_congr ⟨fun ⟨g, f⟩ => ⟨by omega, fun z hz => by rw [four_12]; exact f z hz⟩, fun ⟨g, f⟩ => ⟨by omega, fun z hz => by rw [four_12]; exact f z hz⟩⟩
  · exact fun i j k l => paI_congr ⟨fun ⟨g, f⟩ => ⟨by omega, fun z hz => by rw [four_23]; exact f z hz⟩, fun ⟨g, f⟩ => ⟨by omega, fun z hz => by rw [four_23]; exact f z hz⟩⟩
  · exact fun i j k l => paI_congr ⟨fun ⟨g, f⟩ => ⟨by omega, fun z hz => by rw [four_34]; exact f z hz⟩, fun ⟨g, f⟩ => ⟨by omega, fun z hz => by rw [four_34]; exact f z hz⟩⟩
  · exact fun i j k => if_neg fun ⟨⟨_, _, _, _, _, g⟩, _⟩ => g rfl
/-- How often a point lies in four blocks. -/
theorem four_count {v : Nat} {B : List (List Nat)} (h : Sys v B) {i j k l : Nat} (hi : i < B.length) (hj : j < B.length) (hk : k < B.length) (hl : l < B.length) (z : Nat) :
    (B.getD i [] ++ B.getD j [] ++ B.getD k [] ++ B.getD l []).count z = four B i j k l z := by
  have one : ∀ q, q < B.length → (B.getD q []).count z = if z ∈ B.getD q [] then 1 else 0 := fun q hq => by
    have hn : (B.getD q []).Nodup := (h.bl _ (mem_at hq)).1
    by_cases e : z ∈ B.getD q []
    · rw [if_pos e]; exact hn.count.trans (if_pos e)
    · rw [if_neg e]; exact List.count_eq_zero.2 e
  unfold four
  rw [List.count_append, List.count_append, List.count_append, one i hi, one j hj, one k hk, one l hl]
/-- The document's own sum. -/
def paB (v : Nat) (B : List (List Nat)) (i j k l : Nat) : Bool := (List.range v).all fun z => (B.getD i [] ++ B.getD j [] ++ B.getD k [] ++ B.getD l []).count z == 0 || (B.getD i [] ++ B.getD j [] ++ B.getD k [] ++ B.getD l []).count z == 2
def pD3 (v : Nat) (B : List (List Nat)) (i j k m : Nat) : Nat := sm m fun l => if k < l ∧ paB v B i j k l = true then 1 else 0
def pD2 (v : Nat) (B : List (List Nat)) (i j m : Nat) : Nat := sm m fun k => if j < k ∧ mt (B.getD i []) (B.getD k []) = 1 ∧ mt (B.getD j []) (B.getD k []) = 1 then pD3 v B i j k B.length else 0
def pD1 (v : Nat) (B : List (List Nat)) (i m : Nat) : Nat := sm m fun j => if i < j ∧ mt (B.getD i []) (B.getD j []) = 1 then pD2 v B i j B.length else 0
def pD0 (v : Nat) (B : List (List Nat)) (m : Nat) : Nat := sm m fun i => pD1 v B i B.length
theorem meet_mt {v : Nat} {B : List (List Nat)} (h : Sys v B) {i j z : Nat} (hi : i < B.length) (hj : j < B.length) (hn : i ≠ j) (h1 : z ∈ B.getD i []) (h2 : z ∈ B.getD j []) : mt (B.getD i []) (B.getD j []) = 1 := by
  have hp := h.bl _ (mem_at hi)
  unfold mt
  have e := countP_pts hp fun x => (B.getD j []).contains x
  rw [← e]
  refine count_one (a := z) (h.lt hi h1) fun x hx => ?_
  rw [Bool.and_eq_true, List.contains_iff_mem, List.contains_iff_mem]
  exact ⟨fun ⟨g1, g2⟩ => Classical.byContradiction fun g => hn (h.one hi hj g g1 h1 g2 h2), fun g => by rw [g]; exact ⟨h1, h2⟩⟩
theorem sm_zero {n : Nat} {f : Nat → Nat} (h : ∀ i, i < n → f i = 0) : sm n f = 0 := by
  rw [sm_congr (g := fun _ => 0) h]
  unfold sm
  rw [dS_const]; omega
theorem pasch_sum {v : Nat} {B : List (List Nat)} (h : Sys v B) : pD0 v B B.length = T4 B.length (paI v B) (fun i j k l => decide (i < j ∧ j < k ∧ k < l)) := by
  unfold pD0 T4
  refine sm_congr fun i hi => ?_
  unfold pD1
  refine sm_congr fun j hj => ?_
  have key : ∀ k l, k < B.length → l < B.length → i < j → j < k → k < l → (paB v B i j k l = true ↔ PaQ v B i j k l) := fun k l hk hl h1 h2 h3 => by
    unfold paB PaQ
    rw [List.all_eq_true]
    constructor
    · intro g
      refine ⟨by omega, fun z hz => ?_⟩
      have := g z (List.mem_range.2 hz)
      rw [Bool.or_eq_true, beq_iff_eq, beq_iff_eq, four_count h hi hj hk hl] at this
      exact this
    · intro g z hz
      rw [Bool.or_eq_true, beq_iff_eq, beq_iff_eq, four_count h hi hj hk hl]
      exact g.2 z (List.mem_range.1 hz)
  have mts : ∀ k l, k < B.length → l < B.length → PaQ v B i j k l → mt (B.getD i []) (B.getD j []) = 1 ∧ mt (B.getD i []) (B.getD k []) = 1 ∧ mt (B.getD j []) (B.getD k []) = 1 := fun k l hk hl hq => by
    obtain ⟨o, x, y, c, e, f, p⟩ := pk_of_paq h hi hj hk hl hq
    obtain ⟨⟨ij, ik, _, jk, _, _⟩, _⟩ := hq
    exact ⟨meet_mt h hi hj ij p.oi p.oj, meet_mt h hi hk ik p.xi p.xk, meet_mt h hj hk jk p.yj p.yk⟩
  have zero : ∀ k l, k < B.length → l < B.length → ¬ (mt (B.getD i []) (B.getD j []) = 1 ∧ mt (B.getD i []) (B.getD k []) = 1 ∧ mt (B.getD j []) (B.getD k []) = 1) → paI v B i j k l = 0 := fun k l hk hl hn => if_neg fun g => hn (mts k l hk hl g)
  by_cases c1 : i < j ∧ mt (B.getD i []) (B.getD j []) = 1
  · rw [if_pos c1]
    unfold pD2
    refine sm_congr fun k hk => ?_
    by_cases c2 : j < k ∧ mt (B.getD i []) (B.getD k []) = 1 ∧ mt (B.getD j []) (B.getD k []) = 1
    · rw [if_pos c2]
      unfold pD3
      refine sm_congr fun l hl => ?_
      by_cases c3 : k < l
      · simp only [c3, true_and, decide_eq_true_eq, c1.1, c2.1]
        unfold paI
        by_cases c4 : PaQ v B i j k l
        · rw [if_pos ((key k l hk hl c1.1 c2.1 c3).2 c4), if_pos trivial, if_pos c4]
        · rw [if_neg fun g => c4 ((key k l hk hl c1.1 c2.1 c3).1 g), if_pos trivial, if_neg c4]
      · rw [if_neg fun g => c3 g.1, if_neg fun g => c3 (of_decide_eq_true g).2.2]
    · rw [if_neg c2]
      refine (sm_zero fun l hl => ?_).symm
      by_cases c3 : j < k
      · rw [zero k l hk hl fun g => c2 ⟨c3, g.2⟩]; simp
      · rw [if_neg fun g => c3 (of_decide_eq_true g).2.1]
  · rw [if_neg c1]
    refine (sm_zero fun k hk => sm_zero fun l hl => ?_).symm
    by_cases c3 : i < j
    · rw [zero k l hk hl fun g => c1 ⟨c3, g.1⟩]; simp
    · rw [if_neg fun g => c3 (of_decide_eq_true g).1]
/-- So both answer the same. -/
theorem met_doc {v : Nat} {B : List (List Nat)} (h : Sys v B) {th : Nat → Nat → Nat} (ht : IsTh B th) :
    (sm v fun o => sm v fun x => (List.range v).countP fun y => metT th o x y) = 24 * pD0 v B B.length := by rw [met_24 h ht, pasch_sum h]

end Go.Proofs.YtdeofjmgjhfkcabDoor
