/- The walk of run: the first n numbers of a row. -/
import Derived.Test.YtglomemadcdagabR42
import Derived.Test.YtglomemadcdagabR39
import Derived.Maps.AppendAt
namespace Go.Proofs.Ytglomemadcdagab
open Go.RowKit Go.Shelf

attribute [local go_sem] Oper.semAt_some

/-- An append onto a row of the call's own, as one step of a region that draws its order, inside a fence. -/
theorem stepIn_append_own {F : Fence} {n : Nat} {P : Program} {ops : Array Oper} {o : Oper} {a : Act} {w : World} {K : Act → World → Prop} {Q : Exit → Act → World → Prop} {E : Prop}
    (hg : o.guard = none) (s x : Operand) (t : TypeId) (hop : o.op = Op.call { callee := Callee.builtin Builtin.append, args := #[s, x], argTypes := #[t, t] })
    (base : Nat) (e : TypeId) (i : TypeInfo) (z : Value) (size bytes : Nat) (h1 : P.underlying t = some (.slice e)) (h2 : P.info? e = some i) (h3 : i.zero = some z) (h4 : i.size = size) (h5 : i.bytes = bytes) (h6 : z.cells.size = size) (h7 : 0 < size)
    (v : Value) (k : Nat) (xs : List Value) (hs : a.eval s = v) (hown : w.ownsRow base e size v k xs) (ad : Addr) (m c : Nat) (news : List Value) (hx : a.eval x = .slice (some ad) m c) (hn : news.length = m * size)
    (hc : ∀ j u, news[j]? = some u → w.cell? (ad.add j) = some u) (h1c : ∀ u ∈ news, u.oneCell' = true) (b1 : k + m ≤ maxLen) (b2 : (k + m) * bytes ≤ 140737488355328) (b3 : base ≤ w.heap.size)
    (hK : ∀ v' w', w'.ownsRow base e size v' (k + m) (xs ++ news) → w.grownBy w' v.ownBlock → K (a.put o.dst v') w') :
    if Region.wanted o (yielded ops a.tmps) = true then Oper.wpIn F n P o a w K Q else E := by
  have hw : Region.wanted o (yielded ops a.tmps) = true := by simp [Region.wanted, hg]
  rw [if_pos hw]
  obtain ⟨v', w', hrun, r1, r2, _⟩ := run_append_own (P := P) w base t o.type e i z size bytes h1 h2 h3 h4 h5 h6 h7 v k xs hown ad m c news hn hc h1c b1 b2 b3
  unfold Oper.wpIn
  refine ⟨?_, ?_⟩
  · simp [Oper.about, hop, resolve, Target.leads, Sem.run_pure]
  · rw [Oper.semAt_plain F _ _ (by rw [hop]; intro c hc'; cases hc')]
    simp [execOp, hop, resolve, invoke, builtin, hs, hx, hrun, Result.andThen]
    exact hK _ _ r1 r2

theorem boxBelow {W W' : World} {B : Nat} {t : TypeId} {v : Value} (h : Boxed W B t v) (hb : Below W.heap.size W W') : Boxed W' B t v := (hb.block B h.lt).trans h
theorem boxSame {S : Nat → Prop} {W W' : World} {B : Nat} {t : TypeId} {v : Value} (h : Boxed W B t v) (hs : Same S W W') (hB : S B) : Boxed W' B t v := (hs B hB).trans h
theorem RB.same {S : Nat → Prop} {w w' : World} {g : Nat} {p : Int} {v : Value} (h : RB w g p v) (hs : Same S w w') (hB : S g) : RB w' g p v := (hs g hB).trans h
theorem ownFrom_same {β : Type} {S : Nat → Prop} {w : World} (hS : ∀ b, S b → b < w.heap.size) : OwnFrom w.heap.size (fun (_ : β) W => Same S w W) := by
  intro s W W' row hs hg hr b hb
  have hlt := hS b hb
  have hw : W.heap[b]? = some w.heap[b] := (hs b hb).trans (Array.getElem?_eq_getElem hlt)
  refine (hg.block b (Array.getElem?_eq_some_iff.1 hw).1 (fun e => ?_)).trans (hs b hb)
  have := (hr b e.symm).1
  omega
/-- In a round operations that defer nothing are carried out as everywhere. -/
theorem wpAnyIn_round {F : Fence} {n : Nat} {P : Program} {md : Region.Mode} {ops : Array Oper} {Q : Exit → Act → World → Prop} (l : Nat) (hd : ∀ (i : Nat) (o : Oper), ops[i]? = some o → ∀ c, o.op ≠ .defer c) :
    ∀ (fuel : Nat) (listed : Array Bool) (a : Act) (w : World), F.round = none → wpAnyIn F n P md ops Q fuel listed a w → wpAnyIn (F.inRound l) n P md ops Q fuel listed a w := by
  intro fuel
  induction fuel with
  | zero => intro listed a w _ h; exact h
  | succ fuel ih =>
    intro listed a w hro h
    refine ⟨h.1, fun i hi => ?_⟩
    have h2 := h.2 i hi
    unfold wpOpIn at h2 ⊢
    cases ho : ops[i]? with
    | none => rw [ho] at h2; exact ih _ _ _ hro h2
    | some o =>
      rw [ho] at h2
      simp only at h2 ⊢
      by_cases hw : Region.wanted o (yielded ops a.tmps) = true
      · rw [if_pos hw] at h2 ⊢
        have h3 := Oper.wpIn_mono (fun a w h => ih _ a w hro h) h2
        refine ⟨h3.1, ?_⟩
        have h4 := h3.2
        rw [Oper.semAt_eq _ _ _ (hd i o ho)] at h4 ⊢
        exact h4
      · rw [if_neg hw] at h2 ⊢
        exact ⟨h2.1, ih _ _ _ hro h2.2⟩

theorem ownFrom_size {β : Type} {B n : Nat} : OwnFrom B (fun (_ : β) (W : World) => n ≤ W.heap.size) := fun _ _ _ _ h hg _ => Nat.le_trans h hg.size
theorem ownsRow_base {w : World} {b b' : Nat} {e : TypeId} {size : Nat} {v : Value} {n : Nat} {xs : List Value} (h : w.ownsRow b' e size v n xs) (hb : b ≤ b') : w.ownsRow b e size v n xs := by
  obtain ⟨h1, h2 | ⟨g, cap, cur, e1, e2, e3⟩⟩ := h
  · exact ⟨h1, .inl h2⟩
  · exact ⟨h1, .inr ⟨g, cap, cur, e1, by omega, e3⟩⟩
theorem ownFrom_le {B n : Nat} : OwnFrom B (fun (i : Nat) (_ : World) => i ≤ n) := fun _ _ _ _ h _ _ => h

theorem grown_undrew {A B : World} {row : Option Nat} (h : A.drew.grownBy B row) : A.grownBy B row := ⟨h.os, h.tape, h.output, h.size, h.block⟩
/-- What an append of one number to the row in the box leaves. -/
theorem appFacts {S : Nat → Prop} {W w1 w2 w : World} {ob : Nat} {u v' : Value} {k : Nat} {xs ys : List Value} {tmp : Obj} (hu : Boxed W ob 22 u) (hrow : W.ownsRow w1.heap.size 3 1 u k xs)
    (hSlt : ∀ b, S b → b < w1.heap.size) (hSo : ¬ S ob) (hsz : w1.heap.size ≤ W.heap.size) (hob : w.heap.size ≤ ob ∧ w.heap.size ≤ w1.heap.size) (hown' : w2.ownsRow w1.heap.size 3 1 v' (k + 1) ys) (hgrow0 : (W.alloc tmp).drew.grownBy w2 u.ownBlock) :
    Boxed w2 ob 22 u ∧ Boxed (w2.setCell ⟨ob, 0, none⟩ v') ob 22 v' ∧ (w2.setCell ⟨ob, 0, none⟩ v').ownsRow w1.heap.size 3 1 v' (k + 1) ys ∧ KeepsOthers W (w2.setCell ⟨ob, 0, none⟩ v') ∧ Same S W (w2.setCell ⟨ob, 0, none⟩ v') ∧ Below w.heap.size W (w2.setCell ⟨ob, 0, none⟩ v') := by
  have hgrow := grown_undrew hgrow0
  obtain ⟨h1, h2, _, h4, _⟩ := Boxed.appended hu (by decide) (ownsRow_base hrow (Nat.zero_le _)) (Nat.zero_le _) (Nat.zero_le _) (ownsRow_base hown' (Nat.zero_le _)) hgrow
  have hblk : ∀ b, b < w1.heap.size → b ≠ ob → (w2.setCell ⟨ob, 0, none⟩ v').heap[b]? = W.heap[b]? := by
    intro b hb hne
    refine (heap_setCell_other w2 ⟨ob, 0, none⟩ b v' hne).trans ((hgrow.block b (by simp; omega) (fun e => ?_)).trans (Below.heap_alloc W tmp b (by omega)))
    rcases hrow.2 with ⟨rfl, _⟩ | ⟨g, cap, cur, rfl, hg, _⟩
    · simp [Value.ownBlock] at e
    · simp [Value.ownBlock] at e
      omega
  refine ⟨h1, h2, hown'.kept (grownBy_setCell' w2 ob v') (.inr (h1.not_row (by decide) hown').symm), h4, fun b hb => hblk b (hSlt b hb) (fun e => hSo (e ▸ hb)), ?_⟩
  refine ⟨hgrow.os, hgrow.tape, hgrow.output, ?_, fun b hb => hblk b (by omega) (by omega)⟩
  have := hgrow.size
  simp at this ⊢
  omega

set_option maxRecDepth 100000 in
set_option maxHeartbeats 4000000 in
theorem run_any (P n : Nat) (taps seed : List Int) (v : Value) (w : World) (hp : 2 ≤ P) (hp' : P ≤ 7) (hk1 : 1 ≤ taps.length) (hk : taps.length ≤ 8) (hbt : belB P taps = true) (hsl : seed.length = taps.length) (hbs : belB P seed = true)
    (hl : Sl w v taps) (hn : n ≤ 5000) :
    Calls Try.prog 9 #[.agg #[.int .i64 P, v], .int .i64 (winN P taps seed 0), .int .i64 n] w fun e w' => ∃ u, e = .returned u ∧ w'.ownsRow w.heap.size 3 1 u n ((rowL P taps seed n).map (Value.int .i64)) ∧ Below w.heap.size w w' := by
  obtain ⟨i3, hi, hz0, hz1, hz2⟩ := info3
  refine (callsIn_wide (n := 4)).1 ?_
  obtain ⟨a, cap, rfl, hlc⟩ := id hl
  obtain ⟨k, Hk⟩ : ∃ k : Nat, Hid (taps.length = k) := ⟨_, rfl⟩
  obtain ⟨x0, Hx0⟩ : ∃ x : Int, Hid (x = winN P taps seed 0) := ⟨_, rfl⟩
  have hk1' : 1 ≤ k := by rw [← Hk.out]; exact hk1
  have hk' : k ≤ 8 := by rw [← Hk.out]; exact hk
  rw [Hk.out] at hl ⊢
  rw [← Hx0.out]
  have hB3 : Below w.heap.size w (((w.alloc (.cells #[.int .i64 P, .slice a k cap] 32)).alloc (.cells #[.int .i64 n] 3)).alloc (.cells #[.slice none 0 0] 22)) := ((balloc w _).alloc (by simp) _).alloc (by simp; omega) _
  obtain ⟨w3, Hw3⟩ : ∃ w3, Hid (w3 = ((w.alloc (.cells #[.int .i64 P, .slice a k cap] 32)).alloc (.cells #[.int .i64 n] 3)).alloc (.cells #[.slice none 0 0] 22)) := ⟨_, rfl⟩
  refine callsIn_of_wp_marks Try.func9 rfl trivial ?_ rfl
  simp only [Try.ntmps9, List.size_toArray, List.length_cons, List.length_nil, Nat.reduceAdd, Nat.reduceSub, Array.replicate_succ, Array.replicate_zero, List.push_toArray, List.append_toArray, List.nil_append, List.cons_append]
  have hs3 : w3.heap.size = w.heap.size + 3 := by rw [Hw3.out]; simp
  have RS : RB w3 w.heap.size P (.slice a k cap) := by rw [Hw3.out]; exact ((RB.made w P (.slice a k cap)).below (balloc _ _)).below (balloc _ _)
  have NS : Boxed w3 (w.heap.size + 1) 3 (.int .i64 n) := by
    rw [Hw3.out]
    have h := Boxed.new (w.alloc (.cells #[.int .i64 P, .slice a k cap] 32)) 3 (.int .i64 n)
    rw [World.size_alloc] at h
    exact h.alloc _
  have OS : Boxed w3 (w.heap.size + 1 + 1) 22 (.slice none 0 0) := by
    rw [Hw3.out]
    have h := Boxed.new ((w.alloc (.cells #[.int .i64 P, .slice a k cap] 32)).alloc (.cells #[.int .i64 n] 3)) 22 (.slice none 0 0)
    rw [World.size_alloc, World.size_alloc] at h
    exact h
  rw [← Hw3.out] at hB3
  gi_wp2_with (refine ⟨trivial, (callsIn_wide.2 (windows_any P k x0 a cap _ hp hp' hk1' hk')).mono ?_⟩; rw [← Hw3.out]; rintro e w1 ⟨B0, B1, B2, rfl, hB0, hB1, hB2, hR0, hc1, hc2, hb1⟩)
  have hbw1 : Below w.heap.size w w1 := hB3.trans (hb1.mono hB3.size)
  have hS1 := hb1.size
  obtain ⟨S, HS⟩ : ∃ S : Nat → Prop, Hid (S = fun b => b < w1.heap.size ∧ b ≠ w.heap.size + 1 + 1) := ⟨_, rfl⟩
  have hSlt : ∀ b, S b → b < w1.heap.size := fun b h => by rw [HS.out] at h; exact h.1
  have hSs : ∀ b, b < w.heap.size + 2 → S b := fun b h => by rw [HS.out]; exact ⟨by omega, by omega⟩
  have hWin : WinAt S B0 B2 P ((P : Int) ^ (taps.length - 1)) (.slice a k cap) taps w1 := by
    refine ⟨hR0, by rw [Hk.out]; exact hc2, hl.below hbw1, ?_, ?_, fun b off m c e => ?_⟩
    · rw [HS.out]; exact ⟨hR0.lt, by omega⟩
    · rw [HS.out]; exact ⟨block_lt_of_cell hc2, by omega⟩
    · obtain ⟨b', off', e', hc'⟩ := hlc 0 (by omega)
      rw [e'] at e
      simp only [Value.slice.injEq, Option.some.injEq, Addr.mk.injEq] at e
      rw [← e.1.1]
      exact hSs _ (by have : b' < w.heap.size := block_lt_of_cell hc'; omega)
  rw [Hx0.out] at hc1
  refine wpIn_goes (N := n + 1) (S := S) (gf := 19) (lb := #[.pointer (some ⟨B1, 0, none⟩), .pointer (some ⟨B0, 0, none⟩), .pointer (some ⟨B2, 0, none⟩)]) rfl (enters_of Try.func19 (by kernel_rfl) rfl)
    hSlt (win_goes 3 P (n + 1) taps seed (.slice a k cap) B0 B1 B2 S w1 hp hp' hk1 hk hbt hsl hbs hc1 hWin) (fun _ => rfl)
    (fun i W => i ≤ n ∧ (∃ u, Boxed W (w.heap.size + 1 + 1) 22 u ∧ W.ownsRow w1.heap.size 3 1 u i ((rowL P taps seed i).map (Value.int .i64)) ∧ True) ∧ Same S w1 W ∧ w1.heap.size ≤ W.heap.size ∧ Below w.heap.size w W)
    (fun c i W => (c = .exit 0 ∧ i = n) ∧ (∃ u, Boxed W (w.heap.size + 1 + 1) 22 u ∧ W.ownsRow w1.heap.size 3 1 u i ((rowL P taps seed i).map (Value.int .i64)) ∧ True) ∧ Below w.heap.size w W)
    (OwnFrom.and ownFrom_le (OwnFrom.and (Own.from (holdsRow_own w1.heap.size (w.heap.size + 1 + 1) 22 3 1 (fun i => i) (fun i => (rowL P taps seed i).map (Value.int .i64)) (fun _ _ => True)) _) (OwnFrom.and (ownFrom_same hSlt) (OwnFrom.and ownFrom_size (ownFrom_below (Nat.le_refl _) (by omega))))))
    (fun c => OwnFrom.and (fun _ _ _ _ h _ _ => h) (OwnFrom.and (Own.from (holdsRow_own w1.heap.size (w.heap.size + 1 + 1) 22 3 1 (fun i => i) (fun i => (rowL P taps seed i).map (Value.int .i64)) (fun _ _ => True)) _) (ownFrom_below (Nat.le_refl _) (by omega))))
    (fun i W h => by have := h.1; omega)
    ⟨by omega, ⟨_, boxBelow OS hb1, World.ownsRow_nil _ _ _ _, trivial⟩, Same.refl _ _, Nat.le_refl _, hbw1⟩
    (fun i => { tmps := #[.agg #[.int .i64 P, .slice a k cap], .int .i64 x0, .int .i64 n, .pointer (some ⟨w.heap.size, 0, none⟩), undef, .pointer (some ⟨w.heap.size + 1, 0, none⟩), .slice none 0 0, .pointer (some ⟨w.heap.size + 1 + 1, 0, none⟩), .int .i64 (winN P taps seed i), .agg #[.int .i64 P, .slice a k cap], .int .i64 x0, .func (.func 19) #[] #[.pointer (some ⟨B1, 0, none⟩), .pointer (some ⟨B0, 0, none⟩), .pointer (some ⟨B2, 0, none⟩)], .int .i64 (winN P taps seed i), undef, undef, undef, undef, undef, undef, undef, undef, undef, undef, undef, undef], defers := [] }) ?assign ?body ?stop
  case assign =>
    intro l i W K hK
    gi_wp2
    exact hK
  case body =>
    rintro l i W ⟨hin, ⟨u, hu, hrow, _⟩, hsm, hsz, hbw⟩
    obtain ⟨a', c', rfl⟩ : ∃ a' c', u = .slice a' i c' := by
      rcases hrow.2 with ⟨rfl, h0⟩ | ⟨g, c, cur, rfl, _⟩
      · exact ⟨none, 0, by rw [h0]⟩
      · exact ⟨_, c, rfl⟩
    have hoc := hu.cell
    have hnc := Boxed.cell (boxSame (boxBelow NS hb1) hsm (hSs _ (by omega)))
    have hrc := ((RS.below hb1).same hsm (hSs _ (by omega))).cells.1
    obtain ⟨x, Hx⟩ : ∃ x : Int, Hid (x = winN P taps seed i) := ⟨_, rfl⟩
    have hx0 := winN_bd (taps := taps) (seed := seed) (p := (P : Int)) (by omega) hbs i
    have hx1 := winN_mod (taps := taps) (seed := seed) (p := (P : Int)) (by omega) hbs hk1 i
    rw [← Hx.out] at hx0 hx1 ⊢
    have hxp : 0 ≤ x := hx0.1
    by_cases hne : i = n
    · subst hne
      have hd : ((i : Int) == (i : Int)) = true := by simp
      gi_wp2
      exact ⟨KeepsOthers.refl _, ⟨rfl, rfl⟩, ⟨_, hu, hrow, trivial⟩, hbw⟩
    · have hd : ((i : Int) == (n : Int)) = false := by simp; omega
      have hi5 : i < 5000 := by omega
      obtain ⟨r, Hr⟩ : ∃ r : Int, Hid (r = rowN P taps seed i) := ⟨_, rfl⟩
      rw [← Hr.out] at hx1
      have hu0 := hu.frozen
      have hu1 := (hu.alloc (.cells #[.int .i64 r] 3)).cell
      have hSo : ¬ S (w.heap.size + 1 + 1) := fun h => by rw [HS.out] at h; exact h.2 rfl
      have hnew : ∀ j u, ([Value.int .i64 r] : List Value)[j]? = some u → ((W.alloc (.cells #[.int .i64 r] 3)).drew).cell? ((⟨W.heap.size, 0, none⟩ : Addr).add j) = some u := by
        intro j u hj
        match j, hj with
        | 0, hj =>
          simp at hj
          subst hj
          exact (Boxed.new W 3 (.int .i64 r)).cell
      have hdr : ((W.alloc (.cells #[.int .i64 r] 3)).drew).ownsRow w1.heap.size 3 1 (.slice a' i c') i ((rowL P taps seed i).map (Value.int .i64)) := hrow.alloc _
      gi_wp2
      refine wpIn_region_any (by kernel_rfl) (wpAnyIn_round l (fun i o h c e => by revert h; revert i; intro i h; have hm := Array.mem_of_getElem? h; simp at hm; rcases hm with rfl | rfl | rfl | rfl | rfl | rfl | rfl | rfl <;> cases e) _ _ _ _ rfl ?_)
      try (change wpAnyIn _ _ _ _ _ _ _ _ _ (World.drew _))
      refine wpAnyIn_take (i := 1) (v := .int .i64 x) rfl rfl (by kernel_rfl) (by kernel_rfl) (by kernel_rfl) (fun _ _ _ h => h) ⟨Or.inl ⟨by rfl, fun w => by go_simp⟩, fun _ => rfl⟩ ?_
      refine wpAnyIn_take (i := 2) (v := .pointer (some ⟨w.heap.size, 0, none⟩)) rfl rfl (by kernel_rfl) (by kernel_rfl) (by kernel_rfl) (fun _ _ _ h => h) ⟨Or.inl ⟨by rfl, fun w => by go_simp⟩, fun _ => rfl⟩ ?_
      refine wpAnyIn_ready (rs := [0, 3]) (by kernel_rfl) (by simp) (AllReadyIn.cons rfl (fun K hK => ?_) (AllReadyIn.cons rfl (fun K hK => ?_) AllReadyIn.nil))
      · go_simp
        refine hK _ _ ?_
        clear hK K
        refine wpAnyIn_ready (rs := [3]) (by kernel_rfl) (by simp) (AllReadyIn.cons rfl (fun K hK => ?_) AllReadyIn.nil)
        go_simp
        refine hK _ _ ?_
        clear hK K
        refine wpAnyIn_ready (rs := [4]) (by kernel_rfl) (by simp) (AllReadyIn.cons rfl (fun K hK => ?_) AllReadyIn.nil)
        go_simp
        gi_wp2
        refine wpAnyIn_ready (rs := [5]) (by kernel_rfl) (by simp) (AllReadyIn.cons rfl (fun K hK => ?_) AllReadyIn.nil)
        go_simp
        refine hK _ _ ?_
        clear hK K
        refine wpAnyIn_ready (rs := [6]) (by kernel_rfl) (by simp) (AllReadyIn.cons rfl (fun K hK => ?_) AllReadyIn.nil)
        refine stepIn_append_own rfl (.tmp 17) (.tmp 22) 22 rfl w1.heap.size 3 i3 (.int .i64 0) 1 8 und22 hi hz0 hz1 hz2 rfl (by decide) (.slice a' i c') i ((rowL P taps seed i).map (Value.int .i64)) (by simp [Act.eval]) hdr ⟨W.heap.size, 0, none⟩ 1 1 [.int .i64 r] (by simp [Act.eval]) rfl hnew (by simp [Value.oneCell']) (by unfold maxLen; omega) (by omega) (by simp; omega) ?_
        intro v' w2 hown' hgrow
        obtain ⟨g', cap', rfl⟩ := ownsRow_succ hown'
        obtain ⟨f1, f2, f3, f4, f5, f6⟩ := appFacts hu hrow hSlt hSo hsz ⟨by omega, hbw1.size⟩ hown' hgrow
        have f1c := f1.cell
        have f1f := f1.frozen
        refine hK _ _ ?_
        clear hK K
        refine wpAnyIn_ready (rs := [7]) (by kernel_rfl) (by simp) (AllReadyIn.cons rfl (fun K hK => ?_) AllReadyIn.nil)
        go_simp
        refine hK _ _ ?_
        clear hK K
        refine wpAnyIn_done (by kernel_rfl) ?_ _
        gi_wp2
        exact ⟨f4, f5, by omega, ⟨_, f2, by rw [rowL_succ, List.map_append, ← Hr.out]; exact f3, trivial⟩, hsm.trans f5, Nat.le_trans hsz f6.size, hbw.trans f6⟩
      · go_simp
        refine hK _ _ ?_
        clear hK K
        refine wpAnyIn_ready (rs := [0, 4]) (by kernel_rfl) (by simp) (AllReadyIn.cons rfl (fun K hK => ?_) (AllReadyIn.cons rfl (fun K hK => ?_) AllReadyIn.nil))
        · go_simp
          refine hK _ _ ?_
          clear hK K
          refine wpAnyIn_ready (rs := [4]) (by kernel_rfl) (by simp) (AllReadyIn.cons rfl (fun K hK => ?_) AllReadyIn.nil)
          go_simp
          gi_wp2
          refine wpAnyIn_ready (rs := [5]) (by kernel_rfl) (by simp) (AllReadyIn.cons rfl (fun K hK => ?_) AllReadyIn.nil)
          go_simp
          refine hK _ _ ?_
          clear hK K
          refine wpAnyIn_ready (rs := [6]) (by kernel_rfl) (by simp) (AllReadyIn.cons rfl (fun K hK => ?_) AllReadyIn.nil)
          refine stepIn_append_own rfl (.tmp 17) (.tmp 22) 22 rfl w1.heap.size 3 i3 (.int .i64 0) 1 8 und22 hi hz0 hz1 hz2 rfl (by decide) (.slice a' i c') i ((rowL P taps seed i).map (Value.int .i64)) (by simp [Act.eval]) hdr ⟨W.heap.size, 0, none⟩ 1 1 [.int .i64 r] (by simp [Act.eval]) rfl hnew (by simp [Value.oneCell']) (by unfold maxLen; omega) (by omega) (by simp; omega) ?_
          intro v' w2 hown' hgrow
          obtain ⟨g', cap', rfl⟩ := ownsRow_succ hown'
          obtain ⟨f1, f2, f3, f4, f5, f6⟩ := appFacts hu hrow hSlt hSo hsz ⟨by omega, hbw1.size⟩ hown' hgrow
          have f1c := f1.cell
          have f1f := f1.frozen
          refine hK _ _ ?_
          clear hK K
          refine wpAnyIn_ready (rs := [7]) (by kernel_rfl) (by simp) (AllReadyIn.cons rfl (fun K hK => ?_) AllReadyIn.nil)
          go_simp
          refine hK _ _ ?_
          clear hK K
          refine wpAnyIn_done (by kernel_rfl) ?_ _
          gi_wp2
          exact ⟨f4, f5, by omega, ⟨_, f2, by rw [rowL_succ, List.map_append, ← Hr.out]; exact f3, trivial⟩, hsm.trans f5, Nat.le_trans hsz f6.size, hbw.trans f6⟩
        · go_simp
          gi_wp2
          refine wpAnyIn_ready (rs := [0, 5]) (by kernel_rfl) (by simp) (AllReadyIn.cons rfl (fun K hK => ?_) (AllReadyIn.cons rfl (fun K hK => ?_) AllReadyIn.nil))
          · go_simp
            refine hK _ _ ?_
            clear hK K
            refine wpAnyIn_ready (rs := [5]) (by kernel_rfl) (by simp) (AllReadyIn.cons rfl (fun K hK => ?_) AllReadyIn.nil)
            go_simp
            refine hK _ _ ?_
            clear hK K
            refine wpAnyIn_ready (rs := [6]) (by kernel_rfl) (by simp) (AllReadyIn.cons rfl (fun K hK => ?_) AllReadyIn.nil)
            refine stepIn_append_own rfl (.tmp 17) (.tmp 22) 22 rfl w1.heap.size 3 i3 (.int .i64 0) 1 8 und22 hi hz0 hz1 hz2 rfl (by decide) (.slice a' i c') i ((rowL P taps seed i).map (Value.int .i64)) (by simp [Act.eval]) hdr ⟨W.heap.size, 0, none⟩ 1 1 [.int .i64 r] (by simp [Act.eval]) rfl hnew (by simp [Value.oneCell']) (by unfold maxLen; omega) (by omega) (by simp; omega) ?_
            intro v' w2 hown' hgrow
            obtain ⟨g', cap', rfl⟩ := ownsRow_succ hown'
            obtain ⟨f1, f2, f3, f4, f5, f6⟩ := appFacts hu hrow hSlt hSo hsz ⟨by omega, hbw1.size⟩ hown' hgrow
            have f1c := f1.cell
            have f1f := f1.frozen
            refine hK _ _ ?_
            clear hK K
            refine wpAnyIn_ready (rs := [7]) (by kernel_rfl) (by simp) (AllReadyIn.cons rfl (fun K hK => ?_) AllReadyIn.nil)
            go_simp
            refine hK _ _ ?_
            clear hK K
            refine wpAnyIn_done (by kernel_rfl) ?_ _
            gi_wp2
            exact ⟨f4, f5, by omega, ⟨_, f2, by rw [rowL_succ, List.map_append, ← Hr.out]; exact f3, trivial⟩, hsm.trans f5, Nat.le_trans hsz f6.size, hbw.trans f6⟩
          · go_simp
            refine hK _ _ ?_
            clear hK K
            refine wpAnyIn_ready (rs := [0]) (by kernel_rfl) (by simp) (AllReadyIn.cons rfl (fun K hK => ?_) AllReadyIn.nil)
            go_simp
            refine hK _ _ ?_
            clear hK K
            refine wpAnyIn_ready (rs := [6]) (by kernel_rfl) (by simp) (AllReadyIn.cons rfl (fun K hK => ?_) AllReadyIn.nil)
            refine stepIn_append_own rfl (.tmp 17) (.tmp 22) 22 rfl w1.heap.size 3 i3 (.int .i64 0) 1 8 und22 hi hz0 hz1 hz2 rfl (by decide) (.slice a' i c') i ((rowL P taps seed i).map (Value.int .i64)) (by simp [Act.eval]) hdr ⟨W.heap.size, 0, none⟩ 1 1 [.int .i64 r] (by simp [Act.eval]) rfl hnew (by simp [Value.oneCell']) (by unfold maxLen; omega) (by omega) (by simp; omega) ?_
            intro v' w2 hown' hgrow
            obtain ⟨g', cap', rfl⟩ := ownsRow_succ hown'
            obtain ⟨f1, f2, f3, f4, f5, f6⟩ := appFacts hu hrow hSlt hSo hsz ⟨by omega, hbw1.size⟩ hown' hgrow
            have f1c := f1.cell
            have f1f := f1.frozen
            refine hK _ _ ?_
            clear hK K
            refine wpAnyIn_ready (rs := [7]) (by kernel_rfl) (by simp) (AllReadyIn.cons rfl (fun K hK => ?_) AllReadyIn.nil)
            go_simp
            refine hK _ _ ?_
            clear hK K
            refine wpAnyIn_done (by kernel_rfl) ?_ _
            gi_wp2
            exact ⟨f4, f5, by omega, ⟨_, f2, by rw [rowL_succ, List.map_append, ← Hr.out]; exact f3, trivial⟩, hsm.trans f5, Nat.le_trans hsz f6.size, hbw.trans f6⟩
  case stop =>
    rintro D c i W hD ⟨⟨rfl, rfl⟩, ⟨u, hu, hrow, _⟩, hbw⟩ hK
    have hc := hu.cell
    gi_wp2
    refine ⟨by simp, .inl ⟨_, _, rfl, run_takeDeferred hK, ?_⟩⟩
    exact ⟨_, results_tmp rfl _ _ _, u, rfl, ownsRow_putObj (ownsRow_base hrow hbw1.size) _ hK rfl, hbw.trans (belowK_b (w := w) (Nat.le_refl _) W D _ _ (by omega) hK rfl rfl)⟩

end Go.Proofs.Ytglomemadcdagab
