/- The walk of lengths. -/
import Derived.Test.YtmaplmgecohjbaaE3
import Derived.Test.YtmaplmgecohjbaaE4
import Derived.Test.YtmaplmgecohjbaaE1
import Derived.Maps.AppendAt
namespace Go.Proofs.Ytmaplmgecohjbaa
open Go.RowKit Go.Shelf

attribute [local go_sem] Oper.semAt_some

/-- An append onto a row of the call's own, as one step of a region that draws its order, inside a fence. -/
theorem stepIn_append_own {F : Fence} {n : Nat} {P : Program} {ops : Array Oper} {o : Oper} {a : Act} {w : World} {K : Act → World → Prop} {Q : Exit → Act → World → Prop} {E : Prop}
    (hg : o.guard = none) (s x : Operand) (t : TypeId) (hop : o.op = Op.call { callee := Callee.builtin Builtin.append, args := #[s, x], argTypes := #[t, t] })
    (base : Nat) (e : TypeId) (i : TypeInfo) (z : Value) (size bytes : Nat) (h1 : P.underlying t = some (.slice e)) (h2 : P.info? e = some i) (h3 : i.zero = some z) (h4 : i.size = size) (h5 : i.bytes = bytes) (h6 : z.cells.size = size) (h7 : 0 < size)
    (v : Value) (k : Nat) (xs : List Value) (hs : a.eval s = v) (hown : w.ownsRow base e size v k xs) (ad : Addr) (m c : Nat) (news : List Value) (hx : a.eval x = .slice (some ad) m c) (hn : news.length = m * size)
    (hc : ∀ j u, news[j]? = some u → w.cell? (ad.add j) = some u) (h1c : ∀ u ∈ news, u.oneCell' = true) (b1 : k + m ≤ maxLen) (b2 : (k + m) * bytes ≤ 140737488355328) (b3 : base ≤ w.heap.size)
    (hK : ∀ v' w', w'.ownsRow base e size v' (k + m) (xs ++ news) → w.grownBy w' v.ownBlock → K (a.put o.dst v') w') :
    if Region.wanted o (yielded ops a.tmps) = true then Oper.wpIn F n P o a w K Q else E := by
  have hw : Region.wanted o (yielded ops a.tmps) = true := by simp [Region.wanted, hg]
  rw [if_pos hw]
  obtain ⟨v', w', hrun, r1, r2, _⟩ := run_append_own (P := P) w base t o.type e i z size bytes h1 h2 h3 h4 h5 h6 h7 v k xs hown ad m c news hn hc h1c b1 b2 b3
  unfold Oper.wpIn
  refine ⟨?_, ?_⟩
  · simp [Oper.about, hop, resolve, Target.leads, Sem.run_pure]
  · rw [Oper.semAt_plain F _ _ (by rw [hop]; intro c hc'; cases hc')]
    simp [execOp, hop, resolve, invoke, builtin, hs, hx, hrun, Result.andThen]
    exact hK _ _ r1 r2

theorem boxBelow {W W' : World} {B : Nat} {t : TypeId} {v : Value} (h : Boxed W B t v) (hb : Below W.heap.size W W') : Boxed W' B t v := (hb.block B h.lt).trans h
theorem boxSame {S : Nat → Prop} {W W' : World} {B : Nat} {t : TypeId} {v : Value} (h : Boxed W B t v) (hs : Same S W W') (hB : S B) : Boxed W' B t v := (hs B hB).trans h
theorem ownFrom_same {β : Type} {S : Nat → Prop} {w : World} (hS : ∀ b, S b → b < w.heap.size) : OwnFrom w.heap.size (fun (_ : β) W => Same S w W) := by
  intro s W W' row hs hg hr b hb
  have hlt := hS b hb
  have hw : W.heap[b]? = some w.heap[b] := (hs b hb).trans (Array.getElem?_eq_getElem hlt)
  refine (hg.block b (Array.getElem?_eq_some_iff.1 hw).1 (fun e => ?_)).trans (hs b hb)
  have := (hr b e.symm).1
  omega
/-- In a round operations that defer nothing are carried out as everywhere. -/
theorem wpAnyIn_round {F : Fence} {n : Nat} {P : Program} {md : Region.Mode} {ops : Array Oper} {Q : Exit → Act → World → Prop} (l : Nat) (hd : ∀ (i : Nat) (o : Oper), ops[i]? = some o → ∀ c, o.op ≠ .defer c) :
    ∀ (fuel : Nat) (listed : Array Bool) (a : Act) (w : World), F.round = none → wpAnyIn F n P md ops Q fuel listed a w → wpAnyIn (F.inRound l) n P md ops Q fuel listed a w := by
  intro fuel
  induction fuel with
  | zero => intro listed a w _ h; exact h
  | succ fuel ih =>
    intro listed a w hro h
    refine ⟨h.1, fun i hi => ?_⟩
    have h2 := h.2 i hi
    unfold wpOpIn at h2 ⊢
    cases ho : ops[i]? with
    | none => rw [ho] at h2; exact ih _ _ _ hro h2
    | some o =>
      rw [ho] at h2
      simp only at h2 ⊢
      by_cases hw : Region.wanted o (yielded ops a.tmps) = true
      · rw [if_pos hw] at h2 ⊢
        have h3 := Oper.wpIn_mono (fun a w h => ih _ a w hro h) h2
        refine ⟨h3.1, ?_⟩
        have h4 := h3.2
        rw [Oper.semAt_eq _ _ _ (hd i o ho)] at h4 ⊢
        exact h4
      · rw [if_neg hw] at h2 ⊢
        exact ⟨h2.1, ih _ _ _ hro h2.2⟩

theorem ownFrom_size {β : Type} {B n : Nat} : OwnFrom B (fun (_ : β) (W : World) => n ≤ W.heap.size) := fun _ _ _ _ h hg _ => Nat.le_trans h hg.size
theorem ownsRow_base {w : World} {b b' : Nat} {e : TypeId} {size : Nat} {v : Value} {n : Nat} {xs : List Value} (h : w.ownsRow b' e size v n xs) (hb : b ≤ b') : w.ownsRow b e size v n xs := by
  obtain ⟨h1, h2 | ⟨g, cap, cur, e1, e2, e3⟩⟩ := h
  · exact ⟨h1, .inl h2⟩
  · exact ⟨h1, .inr ⟨g, cap, cur, e1, by omega, e3⟩⟩

theorem keepsOthers_below {A B : World} (h : Below A.heap.size A B) : KeepsOthers A B := ⟨h.size, fun k _ hk _ => (h.block k (Array.getElem?_eq_some_iff.1 hk).1).trans hk⟩
/-- What an append to the row in the box leaves. -/
theorem appFacts {S : Nat → Prop} {W W5 w2 : World} {ob lo base k m : Nat} {t e : TypeId} {size : Nat} {u v' : Value} {xs ys : List Value} (hte : t ≠ e) (hu : Boxed W ob t u) (hrow : W.ownsRow base e size u k xs) (h5 : Below W.heap.size W W5)
    (hSlt : ∀ b, S b → b < base) (hSo : ¬ S ob) (hsz : base ≤ W.heap.size) (hlo : lo ≤ ob ∧ lo ≤ base) (hown' : w2.ownsRow base e size v' m ys) (hgrow : W5.grownBy w2 u.ownBlock) :
    Boxed w2 ob t u ∧ Boxed (w2.setCell ⟨ob, 0, none⟩ v') ob t v' ∧ (w2.setCell ⟨ob, 0, none⟩ v').ownsRow base e size v' m ys ∧ KeepsOthers W (w2.setCell ⟨ob, 0, none⟩ v') ∧ Same S W (w2.setCell ⟨ob, 0, none⟩ v') ∧ Below lo W (w2.setCell ⟨ob, 0, none⟩ v') := by
  have hu5 := boxBelow hu h5
  have hrow5 : W5.ownsRow base e size u k xs := hrow.kept (grown_of_below h5) (by cases h : u.ownBlock <;> simp)
  have h1 : Boxed w2 ob t u := hu5.kept hgrow (hu.not_row hte hrow)
  have hblk : ∀ b, b < base → b ≠ ob → (w2.setCell ⟨ob, 0, none⟩ v').heap[b]? = W.heap[b]? := by
    intro b hb hne
    refine (heap_setCell_other w2 ⟨ob, 0, none⟩ b v' hne).trans ((hgrow.block b (by have := h5.size; omega) (fun e => ?_)).trans (h5.block b (by omega)))
    rcases hrow.2 with ⟨rfl, _⟩ | ⟨g, cap, cur, rfl, hg, _⟩
    · simp [Value.ownBlock] at e
    · simp [Value.ownBlock] at e
      omega
  refine ⟨h1, h1.set v', hown'.kept (grownBy_setCell' w2 ob v') (.inr (h1.not_row hte hown').symm), ?_, fun b hb => hblk b (hSlt b hb) (fun e => hSo (e ▸ hb)), ?_⟩
  · refine ((keepsOthers_below h5).trans (KeepsOthers.of_grownBy hgrow fun j o ej hj => ?_)).trans (KeepsOthers.setCell _ _ _)
    rcases hrow5.2 with ⟨rfl, _⟩ | ⟨g, cap, cur, rfl, _, hgb, _⟩
    · simp [Value.ownBlock] at ej
    · obtain rfl : g = j := by simpa [Value.ownBlock] using ej
      rw [hgb] at hj; cases hj; rfl
  · refine ⟨hgrow.os.trans h5.os, hgrow.tape.trans h5.tape, hgrow.output.trans h5.output, ?_, fun b hb => hblk b (by omega) (by omega)⟩
    have := hgrow.size
    have := h5.size
    simp
    omega

/-- What these pairs make. -/
def outB (l : List BP) : List Nat := l.flatMap fun p => List.replicate p.1.2 (p.1.1 + 1)
theorem outB_snoc (l : List BP) (p : BP) : outB (l ++ [p]) = outB l ++ List.replicate p.1.2 (p.1.1 + 1) := by simp [outB]
theorem outB_len (l : List BP) : (outB l).length ≤ 7 * l.length := by
  induction l with
  | nil => simp [outB]
  | cons p l ih =>
    have : outB (p :: l) = List.replicate p.1.2 (p.1.1 + 1) ++ outB l := by simp [outB]
    rw [this, List.length_append, List.length_replicate, List.length_cons]
    have := p.2.2
    omega
theorem outB_bpL (x : List Nat) (hx : SmK x) : ∀ m, m ≤ 7 → outB (bpL x hx m) ++ desc x (7 - m) = desc x 7
  | 0, _ => by simp [outB, bpL]
  | m + 1, h => by
    rw [bpL, outB_snoc, List.append_assoc, ← outB_bpL x hx m (by omega)]
    congr 1
    rw [show 7 - m = (6 - m) + 1 by omega, desc, show 7 - (m + 1) = 6 - m by omega]
theorem outB_all (x : List Nat) (hx : SmK x) : outB (bpL x hx 7) = desc x 7 := by
  have := outB_bpL x hx 7 (by omega)
  rwa [desc, List.append_nil] at this

theorem row_none (u : Value) : u.ownBlock = none ∨ u.ownBlock ≠ none := by cases h : u.ownBlock <;> simp
theorem ownsRow_slice {w : World} {base : Nat} {e : TypeId} {size n : Nat} {v : Value} {xs : List Value} (h : w.ownsRow base e size v n xs) : ∃ a l c, v = .slice a l c := by
  rcases h.2 with ⟨rfl, _⟩ | ⟨g, c, cur, rfl, _⟩
  · exact ⟨_, _, _, rfl⟩
  · exact ⟨_, _, _, rfl⟩
theorem new_rep {W : World} {g x c : Nat} (h : W.heap[g]? = some (.cells (repL x c c).toArray 3 (0, 0))) : ∀ j u, (List.replicate c (Value.int .i64 (x : Int)))[j]? = some u → W.cell? ((⟨g, 0, none⟩ : Addr).add j) = some u := by
  intro j u hj
  have hjc : j < c := by have := (List.getElem?_eq_some_iff.1 hj).1; rwa [List.length_replicate] at this
  rw [List.eq_of_mem_replicate (List.mem_of_getElem? hj)]
  have h2 := cell_of_row W g j _ _ _ h
  rw [List.getElem?_toArray, repL_at hjc] at h2
  rw [Addr.add_mid, Nat.zero_add]
  exact h2
def intL (l : List Nat) : List Value := l.map fun c : Nat => Value.int .i64 (c : Int)

set_option maxRecDepth 100000 in
set_option maxHeartbeats 4000000 in
theorem lengths_any (x : List Nat) (w : World) (hx : SmK x) :
    Calls Try.prog 69 #[mv x] w fun e w' => ∃ u, e = .returned u ∧ w'.ownsRow w.heap.size 3 1 u (desc x 7).length (intL (desc x 7)) ∧ Below w.heap.size w w' := by
  obtain ⟨i3, hi, hz0, hz1, hz2⟩ := info3
  refine (callsIn_wide (n := 4)).1 ?_
  rw [← outB_all x hx]
  unfold mv
  obtain ⟨F, HF⟩ : ∃ F : Nat → Int, Hid ((fun j => (x.getD j 0 : Int)) = F) := ⟨_, rfl⟩
  rw [HF.out]
  obtain ⟨w1, Hw1⟩ : ∃ w1, Hid (w1 = ((w.alloc (.cells (mrow F) 75)).alloc (.cells #[.slice none 0 0] 40)).alloc (.cells #[.slice (some ⟨w.heap.size, 0, none⟩) 7 7] 40)) := ⟨_, rfl⟩
  have hB1 : Below w.heap.size w w1 := by rw [Hw1.out]; exact ((balloc w _).alloc (by simp) _).alloc (by simp; omega) _
  have hs1 : w1.heap.size = w.heap.size + 3 := by rw [Hw1.out]; simp
  have hA : MRow 75 w1 w.heap.size F := by rw [Hw1.out]; exact ((MRow.made 75 w F).alloc _).alloc _
  have hob : Boxed w1 (w.heap.size + 1) 40 (.slice none 0 0) := by
    rw [Hw1.out]
    have h := Boxed.new (w.alloc (.cells (mrow F) 75)) 40 (.slice none 0 0)
    rw [World.size_alloc] at h
    exact h.alloc _
  have hBk : w1.heap[w.heap.size + 2]? = some (.cells #[.slice (some ⟨w.heap.size, 0, none⟩) 7 7] 40 (0, 0)) := by
    rw [Hw1.out]
    have h := World.alloc_heap_new ((w.alloc (.cells (mrow F) 75)).alloc (.cells #[.slice none 0 0] 40)) (.cells #[.slice (some ⟨w.heap.size, 0, none⟩) 7 7] 40)
    rw [World.size_alloc, World.size_alloc] at h
    exact h
  refine callsIn_of_wp_marks Try.func69 rfl trivial ?_ rfl
  simp only [Try.ntmps69, List.size_toArray, List.length_cons, List.length_nil, Nat.reduceAdd, Nat.reduceSub, Array.replicate_succ, Array.replicate_zero, List.push_toArray, List.append_toArray, List.nil_append, List.cons_append]
  gi_wp2_with (refine ⟨trivial, (callsIn_wide.2 (Backward_any (some ⟨w.heap.size, 0, none⟩) 7 7 _)).mono ?_⟩; rintro e w2 ⟨rfl, rfl⟩)
  rw [← Hw1.out]
  have hSlt : ∀ b, (b = w.heap.size ∨ b = w.heap.size + 1 + 1) → b < w1.heap.size := fun b h => by omega
  have hSo : ¬ (w.heap.size + 1 = w.heap.size ∨ w.heap.size + 1 = w.heap.size + 1 + 1) := by omega
  obtain ⟨S, HS⟩ : ∃ S : Nat → Prop, S = fun b => b = w.heap.size ∨ b = w.heap.size + 1 + 1 := ⟨_, rfl⟩
  replace hSlt : ∀ b, S b → b < w1.heap.size := by rw [HS]; exact hSlt
  replace hSo : ¬ S (w.heap.size + 1) := by rw [HS]; exact hSo
  have hsA : S w.heap.size := by rw [HS]; exact .inl rfl
  have hsB : S (w.heap.size + 1 + 1) := by rw [HS]; exact .inr rfl
  clear HS
  have HSQ := back_seq 3 w.heap.size (w.heap.size + 1 + 1) x hx S w1 (by rw [HF.out]; exact hA) hBk hsA hsB
  refine wpIn_rangeFunc_ownF rfl (by decide) (gf := 98) (lb := #[.pointer (some ⟨w.heap.size + 1 + 1, 0, none⟩)]) rfl trivial (enters_of Try.func98 (by kernel_rfl) rfl) HSQ Same.trans (fun W l o o' hl _ _ _ => Same.put hSlt W o' hl) (Below.refl _ _) (fun _ => rfl)
    (fun pre W => (∃ u, Boxed W (w.heap.size + 1) 40 u ∧ W.ownsRow w1.heap.size 3 1 u (outB pre).length (intL (outB pre)) ∧ True) ∧ Same S w1 W ∧ w1.heap.size ≤ W.heap.size ∧ Below w.heap.size w W)
    (fun _ _ _ => False)
    (OwnFrom.and (Own.from (holdsRow_own w1.heap.size (w.heap.size + 1) 40 3 1 (fun pre => (outB pre).length) (fun pre => intL (outB pre)) (fun _ _ => True)) _) (OwnFrom.and (ownFrom_same hSlt) (OwnFrom.and ownFrom_size (ownFrom_below (Nat.le_refl _) (by omega)))))
    (fun _ _ _ _ _ h _ _ => h)
    ⟨⟨_, hob, World.ownsRow_nil _ _ _ _, trivial⟩, Same.refl _ _, Nat.le_refl _, hB1⟩
    (fun p => { tmps := #[.agg (mrow F), .pointer (some ⟨w.heap.size, 0, none⟩), .slice none 0 0, .pointer (some ⟨w.heap.size + 1, 0, none⟩), .int .i64 (p.1.1 : Int), .int .i64 (p.1.2 : Int), .slice (some ⟨w.heap.size, 0, none⟩) 7 7, .func (.func 98) #[] #[.pointer (some ⟨w.heap.size + 1 + 1, 0, none⟩)], .int .i64 (p.1.1 : Int), .int .i64 (p.1.2 : Int), undef, undef, undef, undef, undef, undef, undef, undef], defers := [] }) ?assign ?body ?done ?stop
  case assign =>
    intro l p W K hK
    simp only [bpE]
    gi_wp2
    exact hK
  case stop => intro D c pre W _ _ h; exact h.elim
  case done =>
    rintro D xs W hD rfl ⟨⟨u, hu, hrow, _⟩, hsm, hsz, hbw⟩ hK
    have hc := hu.cell
    gi_wp2
    refine ⟨by simp, .inl ⟨_, _, rfl, run_takeDeferred hK, ?_⟩⟩
    exact ⟨_, results_tmp rfl _ _ _, u, rfl, ownsRow_putObj (ownsRow_base hrow hB1.size) _ hK rfl, hbw.trans (belowK_b (w := w) (Nat.le_refl _) W D _ _ (by omega) hK rfl rfl)⟩
  case body =>
    rintro l pre ⟨⟨i, c⟩, hi6, hc7⟩ W ⟨⟨u, hu, hrow, _⟩, hsm, hsz, hbw⟩ hlen
    obtain ⟨a', c', rfl⟩ : ∃ a' c', u = .slice a' (outB pre).length c' := by
      rcases hrow.2 with ⟨rfl, h0⟩ | ⟨g, c, cur, rfl, _⟩
      · exact ⟨none, 0, by rw [h0]⟩
      · exact ⟨_, c, rfl⟩
    have hoc := hu.cell
    have hol := outB_len pre
    obtain ⟨q, Hq⟩ : ∃ q : Nat, Hid (i + 1 = q) := ⟨_, rfl⟩
    have hqi : (i : Int) + 1 = (q : Int) := by have := Hq.out; omega
    have hq7 : q ≤ 7 := by have := Hq.out; have : i ≤ 6 := hi6; omega
    have hu3 := (hu.alloc (.cells #[.int .i64 (q : Int)] 3)).cell
    have HB3 : Hid (W.heap.size < (W.alloc (.cells #[.int .i64 (q : Int)] 3)).heap.size) := by show _ < _; simp
    have HC3 : Hid ((W.alloc (.cells #[.int .i64 (q : Int)] 3)).drew.cell? ⟨W.heap.size, 0, none⟩ = some (.int .i64 (q : Int))) := (Boxed.new W 3 (.int .i64 (q : Int))).cell
    have HB4 : Hid (Below W.heap.size W (W.alloc (.cells #[.int .i64 (q : Int)] 3)).drew) := (balloc W _).drew
    have C5 := fun (A : World) (h1 : W.heap.size < A.heap.size) (h2 : A.cell? ⟨W.heap.size, 0, none⟩ = some (.int .i64 (q : Int))) => Repeat_any q c W.heap.size A hc7 h1 h2
    gi_wp2
    refine wpIn_region_any (by kernel_rfl) (wpAnyIn_round l (fun i o h c e => by revert h; revert i; intro i h; have hm := Array.mem_of_getElem? h; simp at hm; rcases hm with rfl | rfl | rfl | rfl | rfl | rfl | rfl | rfl <;> cases e) _ _ _ _ rfl ?_)
    try (change wpAnyIn _ _ _ _ _ _ _ _ _ (World.drew _))
    refine wpAnyIn_take (i := 1) (v := .int .i64 (i : Int)) rfl rfl (by kernel_rfl) (by kernel_rfl) (by kernel_rfl) (fun _ _ _ h => h) ⟨Or.inl ⟨by rfl, fun w => by go_simp⟩, fun _ => rfl⟩ ?_
    refine wpAnyIn_take (i := 2) (v := .int .i64 (q : Int)) rfl rfl (by kernel_rfl) (by kernel_rfl) (by kernel_rfl) (fun _ _ _ h => h) ⟨Or.inl ⟨by rfl, fun w => by go_simp; (try rw [IntKind.wrap_i64]); (try omega)⟩, fun _ => rfl⟩ ?_
    refine wpAnyIn_take (i := 4) (v := .int .i64 (c : Int)) rfl rfl (by kernel_rfl) (by kernel_rfl) (by kernel_rfl) (fun _ _ _ h => h) ⟨Or.inl ⟨by rfl, fun w => by go_simp⟩, fun _ => rfl⟩ ?_
    refine wpAnyIn_ready (rs := [0, 3]) (by kernel_rfl) (by simp) (AllReadyIn.cons rfl (fun K hK => ?_) (AllReadyIn.cons rfl (fun K hK => ?_) AllReadyIn.nil))
    · go_simp
      refine hK _ _ ?_
      clear hK K
      refine wpAnyIn_ready (rs := [3]) (by kernel_rfl) (by simp) (AllReadyIn.cons rfl (fun K hK => ?_) AllReadyIn.nil)
      go_simp
      refine hK _ _ ?_
      clear hK K
      refine wpAnyIn_ready (rs := [5]) (by kernel_rfl) (by simp) (AllReadyIn.cons rfl (fun K hK => ?_) AllReadyIn.nil)
      go_simp
      refine ⟨trivial, (callsIn_wide.2 (C5 (W.alloc (.cells #[.int .i64 (q : Int)] 3)).drew HB3.out HC3.out)).mono ?_⟩
      rintro e W5 ⟨⟨g, rfl, hg, hG⟩, hb5⟩
      have hb5' : Below W.heap.size W W5 := HB4.out.trans (hb5.mono (by simp))
      have hu5 := boxBelow hu hb5'
      have hoc5 := hu5.cell
      have hrow5 := hrow.kept (grown_of_below hb5') (row_none _)
      refine hK _ _ ?_
      clear hK K
      refine wpAnyIn_ready (rs := [6]) (by kernel_rfl) (by simp) (AllReadyIn.cons rfl (fun K hK => ?_) AllReadyIn.nil)
      refine stepIn_append_own rfl (.tmp 10) (.tmp 15) 40 rfl w1.heap.size 3 i3 (.int .i64 0) 1 8 und22 hi hz0 hz1 hz2 rfl (by decide) (.slice a' (outB pre).length c') (outB pre).length (intL (outB pre)) (by simp [Act.eval]) hrow5 ⟨g, 0, none⟩ c c (List.replicate c (.int .i64 (q : Int))) (by simp [Act.eval]) (by simp) (new_rep hG) (by intro u hu; rw [List.eq_of_mem_replicate hu]; rfl) (by unfold maxLen; omega) (by omega) (by have := hb5'.size; omega) ?_
      intro v' w2 hown' hgrow
      obtain ⟨f1, f2, f3, f4, f5, f6⟩ := appFacts (lo := w.heap.size) (by decide) hu hrow hb5' hSlt hSo hsz ⟨by omega, hB1.size⟩ hown' hgrow
      have f1c := f1.cell
      have f1f := f1.frozen
      obtain ⟨a2, l2, c2, rfl⟩ : ∃ a2 l2 c2, v' = .slice a2 l2 c2 := ownsRow_slice hown'
      refine hK _ _ ?_
      clear hK K
      refine wpAnyIn_ready (rs := [7]) (by kernel_rfl) (by simp) (AllReadyIn.cons rfl (fun K hK => ?_) AllReadyIn.nil)
      go_simp
      refine hK _ _ ?_
      clear hK K
      refine wpAnyIn_done (by kernel_rfl) ?_ _
      gi_wp2
      exact ⟨f4, f5, ⟨_, f2, by rw [outB_snoc, List.length_append, List.length_replicate, intL, List.map_append, List.map_replicate, Hq.out]; exact f3, trivial⟩, hsm.trans f5, Nat.le_trans hsz f6.size, hbw.trans f6⟩
    · go_simp
      refine hK _ _ ?_
      clear hK K
      refine wpAnyIn_ready (rs := [0, 5]) (by kernel_rfl) (by simp) (AllReadyIn.cons rfl (fun K hK => ?_) (AllReadyIn.cons rfl (fun K hK => ?_) AllReadyIn.nil))
      · go_simp
        refine hK _ _ ?_
        clear hK K
        refine wpAnyIn_ready (rs := [5]) (by kernel_rfl) (by simp) (AllReadyIn.cons rfl (fun K hK => ?_) AllReadyIn.nil)
        go_simp
        refine ⟨trivial, (callsIn_wide.2 (C5 (W.alloc (.cells #[.int .i64 (q : Int)] 3)).drew HB3.out HC3.out)).mono ?_⟩
        rintro e W5 ⟨⟨g, rfl, hg, hG⟩, hb5⟩
        have hb5' : Below W.heap.size W W5 := HB4.out.trans (hb5.mono (by simp))
        have hu5 := boxBelow hu hb5'
        have hoc5 := hu5.cell
        have hrow5 := hrow.kept (grown_of_below hb5') (row_none _)
        refine hK _ _ ?_
        clear hK K
        refine wpAnyIn_ready (rs := [6]) (by kernel_rfl) (by simp) (AllReadyIn.cons rfl (fun K hK => ?_) AllReadyIn.nil)
        refine stepIn_append_own rfl (.tmp 10) (.tmp 15) 40 rfl w1.heap.size 3 i3 (.int .i64 0) 1 8 und22 hi hz0 hz1 hz2 rfl (by decide) (.slice a' (outB pre).length c') (outB pre).length (intL (outB pre)) (by simp [Act.eval]) hrow5 ⟨g, 0, none⟩ c c (List.replicate c (.int .i64 (q : Int))) (by simp [Act.eval]) (by simp) (new_rep hG) (by intro u hu; rw [List.eq_of_mem_replicate hu]; rfl) (by unfold maxLen; omega) (by omega) (by have := hb5'.size; omega) ?_
        intro v' w2 hown' hgrow
        obtain ⟨f1, f2, f3, f4, f5, f6⟩ := appFacts (lo := w.heap.size) (by decide) hu hrow hb5' hSlt hSo hsz ⟨by omega, hB1.size⟩ hown' hgrow
        have f1c := f1.cell
        have f1f := f1.frozen
        obtain ⟨a2, l2, c2, rfl⟩ : ∃ a2 l2 c2, v' = .slice a2 l2 c2 := ownsRow_slice hown'
        refine hK _ _ ?_
        clear hK K
        refine wpAnyIn_ready (rs := [7]) (by kernel_rfl) (by simp) (AllReadyIn.cons rfl (fun K hK => ?_) AllReadyIn.nil)
        go_simp
        refine hK _ _ ?_
        clear hK K
        refine wpAnyIn_done (by kernel_rfl) ?_ _
        gi_wp2
        exact ⟨f4, f5, ⟨_, f2, by rw [outB_snoc, List.length_append, List.length_replicate, intL, List.map_append, List.map_replicate, Hq.out]; exact f3, trivial⟩, hsm.trans f5, Nat.le_trans hsz f6.size, hbw.trans f6⟩
      · go_simp
        refine ⟨trivial, (callsIn_wide.2 (C5 (W.alloc (.cells #[.int .i64 (q : Int)] 3)).drew HB3.out HC3.out)).mono ?_⟩
        rintro e W5 ⟨⟨g, rfl, hg, hG⟩, hb5⟩
        have hb5' : Below W.heap.size W W5 := HB4.out.trans (hb5.mono (by simp))
        have hu5 := boxBelow hu hb5'
        have hoc5 := hu5.cell
        have hrow5 := hrow.kept (grown_of_below hb5') (row_none _)
        refine hK _ _ ?_
        clear hK K
        refine wpAnyIn_ready (rs := [0]) (by kernel_rfl) (by simp) (AllReadyIn.cons rfl (fun K hK => ?_) AllReadyIn.nil)
        go_simp
        refine hK _ _ ?_
        clear hK K
        refine wpAnyIn_ready (rs := [6]) (by kernel_rfl) (by simp) (AllReadyIn.cons rfl (fun K hK => ?_) AllReadyIn.nil)
        refine stepIn_append_own rfl (.tmp 10) (.tmp 15) 40 rfl w1.heap.size 3 i3 (.int .i64 0) 1 8 und22 hi hz0 hz1 hz2 rfl (by decide) (.slice a' (outB pre).length c') (outB pre).length (intL (outB pre)) (by simp [Act.eval]) hrow5 ⟨g, 0, none⟩ c c (List.replicate c (.int .i64 (q : Int))) (by simp [Act.eval]) (by simp) (new_rep hG) (by intro u hu; rw [List.eq_of_mem_replicate hu]; rfl) (by unfold maxLen; omega) (by omega) (by have := hb5'.size; omega) ?_
        intro v' w2 hown' hgrow
        obtain ⟨f1, f2, f3, f4, f5, f6⟩ := appFacts (lo := w.heap.size) (by decide) hu hrow hb5' hSlt hSo hsz ⟨by omega, hB1.size⟩ hown' hgrow
        have f1c := f1.cell
        have f1f := f1.frozen
        obtain ⟨a2, l2, c2, rfl⟩ : ∃ a2 l2 c2, v' = .slice a2 l2 c2 := ownsRow_slice hown'
        refine hK _ _ ?_
        clear hK K
        refine wpAnyIn_ready (rs := [7]) (by kernel_rfl) (by simp) (AllReadyIn.cons rfl (fun K hK => ?_) AllReadyIn.nil)
        go_simp
        refine hK _ _ ?_
        clear hK K
        refine wpAnyIn_done (by kernel_rfl) ?_ _
        gi_wp2
        exact ⟨f4, f5, ⟨_, f2, by rw [outB_snoc, List.length_append, List.length_replicate, intL, List.map_append, List.map_replicate, Hq.out]; exact f3, trivial⟩, hsm.trans f5, Nat.le_trans hsz f6.size, hbw.trans f6⟩

end Go.Proofs.Ytmaplmgecohjbaa
