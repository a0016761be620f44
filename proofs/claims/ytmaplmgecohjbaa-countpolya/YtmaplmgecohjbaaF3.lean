/- The walks of the library's AppendSeq and Collect, at kinds. -/
import Derived.Test.YtmaplmgecohjbaaE5
import Derived.Test.YtmaplmgecohjbaaC9
import Derived.Sort.MapsRangeIn
import Derived.Sort.KeysCollected
import Derived.RegionIn
import Derived.Test.YtmaplmgecohjbaaF2
import Derived.Test.YtmaplmgecohjbaaG57
/- The walks of the library's Keys, at kinds. -/
namespace Go.Proofs.Ytmaplmgecohjbaa
open Go.RowKit Go.Shelf Go.Maps Go.Sort

attribute [local go_sem] Oper.semAt_some

theorem wpListIn_load_row {F : Fence} {n : Nat} {P : Program} {ops : Array Oper} {rest : List Oper} {o : Oper} {a : Act} {w : World} {Q : Exit → Act → World → Prop} (hgd : o.guard = none) (ty : TypeId) (x : Operand) (ho : o.op = .load ty x)
    (g : Nat) (hx : a.eval x = .pointer (some ⟨g, 0, none⟩)) (t : TypeId) (cs : Array Value) (fr : Nat × Nat) (d : TypeDesc) (hg : w.heap[g]? = some (.cells cs t fr))
    (hu : P.underlying ty = some d) (hd : (match d with | .struct _ | .array _ _ => true | _ => false) = true) (hi : (P.info? ty).map (·.size) = some cs.size)
    (h : wpListIn F n P ops Q rest (a.put o.dst (.agg cs)) w) : wpListIn F n P ops Q (o :: rest) a w := by
  refine wpListIn_plain hgd fun K hK' => ?_
  unfold Oper.wpIn
  refine ⟨?_, ?_⟩
  · simp [Oper.about, ho]
  · rw [Oper.semAt_plain F _ _ (by rw [ho]; intro c hc'; cases hc')]
    unfold execOp
    simp only [ho, hx, Instr.loadAt, Instr.sureAddr, Sem.run_bind, Sem.run_pure, Result.andThen_ok, run_loadVar_row w g t ty cs fr d hg hu hd hi]
    exact hK' _ _ h
theorem wpListIn_store_row {F : Fence} {n : Nat} {P : Program} {ops : Array Oper} {rest : List Oper} {o : Oper} {a : Act} {w : World} {Q : Exit → Act → World → Prop} (hgd : o.guard = none) (ty : TypeId) (x y : Operand) (ho : o.op = .store ty x y)
    (g : Nat) (cells : Array Value) (hx : a.eval x = .pointer (some ⟨g, 0, none⟩)) (hy : a.eval y = .agg cells)
    (t : TypeId) (old : Array Value) (hg : w.heap[g]? = some (.cells old t (0, 0))) (hi : (P.info? ty).map (·.size) = some cells.size)
    (hold : old.size = cells.size) (h1 : cells.all (·.oneCell') = true)
    (h : wpListIn F n P ops Q rest (a.put o.dst undef) (w.setRow g cells)) : wpListIn F n P ops Q (o :: rest) a w := by
  refine wpListIn_plain hgd fun K hK' => ?_
  unfold Oper.wpIn
  refine ⟨?_, ?_⟩
  · simp [Oper.about, ho]
  · rw [Oper.semAt_plain F _ _ (by rw [ho]; intro c hc'; cases hc')]
    unfold execOp
    simp only [ho, hx, hy, Instr.storeAt, Instr.sureAddr, Sem.run_bind, Sem.run_pure, Result.andThen_ok, run_storeVar_row w g t ty old cells hg hi hold h1]
    exact hK' _ _ h

/-- A kind that is handed out. -/
abbrev KK := {x : List Nat // SmK x}
def kkE (x : KK) : Array Value := #[mv x.1]
def kkL (l : List KK) : List (List Nat) := l.map fun x => x.1
/-- What has come: each once, all of L that is no longer left. -/
def KColl (L : List (List Nat)) (left : Lit → Bool) (ss : List (List Nat)) : Prop := ss.Nodup ∧ ∀ y, y ∈ ss ↔ y ∈ L ∧ left (keyK y) = false
theorem KColl.start {D : DataW Unit} {L : List (List Nat)} (h : KindsIs D L) : KColl L (Maps.has D) [] := ⟨List.nodup_nil, fun y => ⟨fun q => absurd q (by simp), fun q => by rw [h.mem y q.1] at q; exact absurd q.2 (by simp)⟩⟩
theorem KColl.step {L : List (List Nat)} {left : Lit → Bool} {ss : List (List Nat)} (h : KColl L left ss) (hL : ∀ y ∈ L, SmK y) {x : List Nat} (hx : x ∈ L) (hl : left (keyK x) = true) : KColl L (fun z => left z && !z.sameKey (keyK x)) (ss ++ [x]) := by
  have hs : (keyK x).sameKey (keyK x) = true := WideAt.sameKey_self (keyK_lit (hL x hx))
  refine ⟨List.nodup_append.2 ⟨h.1, by simp, fun a ha b hb => ?_⟩, fun y => ?_⟩
  · obtain rfl : b = x := by simpa using hb
    rintro rfl
    have := ((h.2 a).1 ha).2
    rw [hl] at this; cases this
  · rw [List.mem_append, h.2 y, List.mem_singleton]
    by_cases e : y = x
    · subst e
      simp [hx, hl, hs]
    · constructor
      · rintro (⟨h1, h2⟩ | h1)
        · exact ⟨h1, by simp [h2]⟩
        · exact absurd h1 e
      · rintro ⟨h1, h2⟩
        have hne : (keyK y).sameKey (keyK x) = false := sameKey_ne fun e1 => e (keyK_inj (hL y h1) (hL x hx) e1)
        simp only [hne, Bool.not_false, Bool.and_true] at h2
        exact .inl ⟨h1, h2⟩

set_option maxRecDepth 100000 in
set_option maxHeartbeats 1000000 in
theorem Keys_any (B : Nat) (w : World) : Calls Try.prog 61 #[.map (some B)] w fun e w' => e = .returned (.func (.func 81) #[] #[.pointer (some ⟨w.heap.size, 0, none⟩)]) ∧ w' = w.alloc (.cells #[.map (some B)] 52) := by
  go_enter Try.func61, Try.ntmps61
  go_wp2
  go_ret
  exact ⟨rfl, rfl⟩

set_option maxRecDepth 100000 in
set_option maxHeartbeats 4000000 in
theorem keys_seq (n Bm B nn : Nat) (D : DataW Unit) (L : List (List Nat)) (w : World) (hm : w.cell? ⟨Bm, 0, none⟩ = some (.map (some B))) (hown : w.ownsMap Try.prog 75 (plainElem Try.prog 3) B nn D) (hD : KindsIs D L) (hL : ∀ y ∈ L, SmK y) :
    SeqStopsK Fence.wide n Try.prog 81 #[.pointer (some ⟨Bm, 0, none⟩)] kkE KeepsWalks (fun xs => KColl L (fun _ => false) (kkL xs)) (fun _ => True) (Maps.size D) w := by
  intro l J Jx W hbW hJ _ hY hJ0
  have hm1 : W.cell? ⟨Bm, 0, none⟩ = some (.map (some B)) := (hbW.cell (p := ⟨Bm, 0, none⟩) (block_lt_of_cell hm)).trans hm
  have hown1 := kinds_below hown hbW
  clear hm hown
  obtain ⟨S0, HS0⟩ : ∃ S0, Hid (Maps.size D = S0) := ⟨_, rfl⟩
  rw [HS0.out] at hY
  have HY : Hid (∀ pre x W1, J pre W1 → pre.length < S0 → YieldAt Fence.wide (n - 1) Try.prog l (kkE x) W1 fun e W' => (e = .returned (.bool true) ∧ J (pre ++ [x]) W' ∧ KeepsWalks W1 W') ∨ (e = .returned (.bool false) ∧ Jx (pre ++ [x]) W')) := hY
  have HJ : Hid (AbidesFrom W.heap.size J) := hJ
  have HL : Hid (∀ y ∈ L, SmK y) := hL
  have HD : Hid (KindsIs D L) := hD
  clear hY hJ hL hD
  refine callsIn_of_wp Try.func81 rfl trivial ?_ rfl
  simp only [Try.ntmps81, List.size_toArray, List.length_cons, List.length_nil, Nat.reduceAdd, Nat.reduceSub, Array.replicate_succ, Array.replicate_zero, List.push_toArray, List.append_toArray, List.nil_append, List.cons_append]
  gi_wp2_with (first
    | (gi_at_range; refine wpListIn_range_own _ rfl _ 52 rfl 75 3 keyed75 und52k _ B nn _ rfl hown1 ?_; intro w0 hrg0 hg0 hs0)
    | gi_in)
  go_frame
  rw [HS0.out] at hrg0
  gi_loopw [3] (fun _ wr => ∃ (left : Lit → Bool) (cnt : Nat) (ss : List KK), wr.ranges Try.prog 75 (plainElem Try.prog 3) B W.heap.size nn D left cnt ∧ ss.length + cnt ≤ S0 ∧ KColl L left (kkL ss) ∧ J ss wr)
    (fun _ wr => wr.rangeLeft B W.heap.size)
  case atStart =>
    exact ⟨_, _, [], hrg0, by simp, KColl.start HD.out, HJ.out [] W w0 none hJ0 hg0 (fun r e => by cases e)⟩
  case round =>
    clear hrg0 hg0 hs0 hJ0 hm1
    obtain ⟨left, cnt, ss, hrg, hcs, hC, hJs⟩ := hrel
    gi_wp2_with (first
      | (gi_at_next; refine wpListIn_next_ranges _ rfl _ rfl 75 keyed75 (plainElem Try.prog 3) (fun v : Value => v) id (fun key kl _ => ⟨key, rfl⟩) (fun v _ _ => ⟨v, rfl⟩) B W.heap.size nn _ _ _ rfl hrg ?_ ?_)
      | gi_in)
    · intro hc0 hl0
      have HC : Hid (KColl L (fun _ => false) (kkL ss)) := by
        have e : left = fun _ => false := funext hl0
        rw [e] at hC; exact hC
      clear hC hl0
      gi_wp2
      go_end0
      exact ⟨⟨_, rfl⟩, .inl ⟨ss, HC.out, hJs⟩⟩
    · intro key c kl yd yp w2 cnt2 hkey hlk hv hat hrg2 hlt hg2 hs2 hen
      obtain ⟨x, hxL, ekl⟩ := HD.out.has kl (has_true_of_atKey hat)
      subst ekl
      have hxs := HL.out x hxL
      have ek : key = mv x := keyed75.inj hkey (keyK_of hxs)
      subst ek
      have hJ2 : J ss w2 := HJ.out ss wr w2 (some W.heap.size) hJs hg2 (fun r e => by cases e; exact ⟨Nat.le_refl _, hrg.iter_walk⟩)
      have HC2 : Hid (KColl L (fun z => left z && !z.sameKey (keyK x)) (kkL (ss ++ [⟨x, hxs⟩]))) := by
        have := hC.step HL.out hxL hlk
        show KColl _ _ _
        unfold kkL at this ⊢
        rw [List.map_append]
        exact this
      clear hC
      have HYx := fun W1 (h : J ss W1) => HY.out ss ⟨x, hxs⟩ W1 h (by omega)
      unfold kkE at HYx
      unfold mv at hen HYx ⊢
      obtain ⟨G, HG⟩ : ∃ G : Nat → Int, Hid ((fun j => (x.getD j 0 : Int)) = G) := ⟨_, rfl⟩
      simp only [HG.out] at HYx
      rw [HG.out] at hen ⊢
      have hk0 := MRow.made 75 w2 (fun _ => 0)
      have hB0 := balloc w2 (.cells (mrow fun _ => 0) 75)
      have hk1 := hk0.whole G
      have hB1 : Below w2.heap.size w2 ((w2.alloc (.cells (mrow fun _ => 0) 75)).setRow w2.heap.size (mrow G)) := bsetRow hB0 (Nat.le_refl _) _
      have hJ3 : J ss ((w2.alloc (.cells (mrow fun _ => 0) 75)).setRow w2.heap.size (mrow G)) := HJ.out ss w2 _ none hJ2 (grown_of_below hB1) (fun r e => by cases e)
      have hrg3 := hrg2.kept (grown_of_below hB1) (by simp) (by simp)
      obtain ⟨fn, tmps, assign, body, hy, hR⟩ := HYx _ hJ3
      rw [← mrow_zero] at hk0
      have HR := hR
      clear hkey hv hat hxL hs2 HYx hR
      gi_wp2_with (first
        | (refine wpListIn_store_row rfl 75 _ _ rfl w2.heap.size _ rfl rfl 75 _ hk0 (inf75 _) (by simp) (mrow_one _) ?_; rw [mrow_zero])
        | (refine wpListIn_load_row rfl 75 _ rfl w2.heap.size rfl 75 _ (0, 0) _ hk1 und75 rfl (inf75 _) ?_)
        | gi_in)
      refine ⟨(fun h => by cases h), HR.mono ?_⟩
      rintro e W3 (⟨rfl, hJ4, hk4⟩ | ⟨rfl, hJx4⟩)
      · gi_wp2
        have hrg4 := hrg3.of_walks hk4
        go_roundw
        case rel => exact ⟨_, cnt2, _, hrg4, by simp; omega, HC2.out, hJ4⟩
        case measure => rw [hrg4.left_eq, hrg.left_eq]; exact hlt
      · gi_wp2
        refine bodyPost_ret (results_none rfl _ _ _) rfl ?_
        exact ⟨⟨_, rfl⟩, .inr ⟨_, trivial, hJx4⟩⟩

end Go.Proofs.Ytmaplmgecohjbaa

namespace Go.Proofs.Ytmaplmgecohjbaa
open Go.RowKit Go.Shelf Go.Maps Go.Sort

attribute [local go_sem] Oper.semAt_some

theorem und76s : Try.prog.underlying 76 = some (.slice 75) := by kernel_rfl
theorem info75 : ∃ i, Try.prog.info? 75 = some i ∧ i.zero = some (.agg (mrow fun _ => 0)) ∧ i.size = 7 ∧ i.bytes = 56 := by
  cases h : Try.prog.info? 75 with
  | none => exact absurd (show (Try.prog.info? 75).isSome = true by kernel_rfl) (by simp [h])
  | some i =>
    have h1 : (Try.prog.info? 75).bind (·.zero) = some (.agg (mrow fun _ => 0)) := by kernel_rfl
    have h2 : (Try.prog.info? 75).map (·.size) = some 7 := by kernel_rfl
    have h3 : (Try.prog.info? 75).map (·.bytes) = some 56 := by kernel_rfl
    rw [h] at h1 h2 h3
    exact ⟨i, rfl, by simpa using h1, by simpa using h2, by simpa using h3⟩
theorem kkL_snoc (l : List KK) (x : KK) : (kkL (l ++ [x])).flatMap mvL = (kkL l).flatMap mvL ++ mvL x.1 := by simp [kkL]

set_option maxRecDepth 100000 in
set_option maxHeartbeats 4000000 in
theorem AppendSeq_any (Bm B nn : Nat) (D : DataW Unit) (L : List (List Nat)) (w : World) (hm : w.cell? ⟨Bm, 0, none⟩ = some (.map (some B))) (hown : w.ownsMap Try.prog 75 (plainElem Try.prog 3) B nn D) (hD : KindsIs D L) (hL : ∀ y ∈ L, SmK y) (hnn : nn ≤ 6000) :
    Calls Try.prog 94 #[.slice none 0 0, .func (.func 81) #[] #[.pointer (some ⟨Bm, 0, none⟩)]] w fun e w' => ∃ u xs, e = .returned u ∧ KColl L (fun _ => false) xs ∧ w'.ownsRow w.heap.size 75 7 u xs.length (xs.flatMap mvL) ∧ Below w.heap.size w w' := by
  obtain ⟨i75, ti, tz0, tz1, tz2⟩ := info75
  have hsz := hown.size_le
  refine (callsIn_wide (n := 4)).1 ?_
  obtain ⟨w1, Hw1⟩ : ∃ w1, Hid (w1 = w.alloc (.cells #[.slice none 0 0] 76)) := ⟨_, rfl⟩
  have hB1 : Below w.heap.size w w1 := by rw [Hw1.out]; exact balloc w _
  have hs1 : w1.heap.size = w.heap.size + 1 := by rw [Hw1.out]; simp
  have hob : Boxed w1 w.heap.size 76 (.slice none 0 0) := by rw [Hw1.out]; exact Boxed.new w 76 (.slice none 0 0)
  have hm1 : w1.cell? ⟨Bm, 0, none⟩ = some (.map (some B)) := (hB1.cell (p := ⟨Bm, 0, none⟩) (block_lt_of_cell hm)).trans hm
  have HSQ := keys_seq 3 Bm B nn D L w1 hm1 (kinds_below hown hB1) hD hL
  refine callsIn_of_wp_marks Try.func94 rfl trivial ?_ rfl
  simp only [Try.ntmps94, List.size_toArray, List.length_cons, List.length_nil, Nat.reduceAdd, Nat.reduceSub, Array.replicate_succ, Array.replicate_zero, List.push_toArray, List.append_toArray, List.nil_append, List.cons_append]
  gi_wp2
  rw [← Hw1.out]
  refine wpIn_rangeFunc_asg (gf := 81) (lb := #[.pointer (some ⟨Bm, 0, none⟩)]) rfl (enters_of Try.func81 (by kernel_rfl) rfl) HSQ (fun _ => rfl) (fun h k => h.trans k) (fun W l o o' _ h _ hw => KeepsWalks.putObj _ h hw) (fun A B h => (keepsOthers_below h).walks)
    (fun pre W => (∃ u, Boxed W w.heap.size 76 u ∧ W.ownsRow w1.heap.size 75 7 u pre.length ((kkL pre).flatMap mvL) ∧ True) ∧ w1.heap.size ≤ W.heap.size ∧ Below w.heap.size w W)
    (OwnFrom.and (Own.from (holdsRow_own w1.heap.size w.heap.size 76 75 7 (fun pre => pre.length) (fun pre => (kkL pre).flatMap mvL) (fun _ _ => True)) _) (OwnFrom.and ownFrom_size (ownFrom_below (Nat.le_refl _) (by omega))))
    ⟨⟨_, hob, World.ownsRow_nil _ _ _ _, trivial⟩, Nat.le_refl _, hB1⟩
    (fun x b => { tmps := #[.slice none 0 0, .func (.func 81) #[] #[.pointer (some ⟨Bm, 0, none⟩)], .pointer (some ⟨w.heap.size, 0, none⟩), undef, .slice none 0 0, .pointer (some ⟨b, 0, none⟩), .func (.func 81) #[] #[.pointer (some ⟨Bm, 0, none⟩)], mv x.1, undef, undef, undef, undef, undef], defers := [] })
    (fun x b W => MRow 75 W b (fun j => (x.1.getD j 0 : Int))) ?he ?assign ?body ?done
  case he =>
    intro x b W l o o' h ho hc
    refine (World.putObj_heap_other (fun e => ?_)).trans h
    subst e
    have h' : W.heap[b]? = _ := h
    rw [h'] at ho
    cases ho
    cases hc
  case assign =>
    rintro l ⟨x, hx⟩ W K hK
    simp only [kkE]
    unfold mv at hK ⊢
    obtain ⟨G, HG⟩ : ∃ G : Nat → Int, Hid ((fun j => (x.getD j 0 : Int)) = G) := ⟨_, rfl⟩
    simp only [HG.out] at hK ⊢
    have hk0 := MRow.made 75 W (fun _ => 0)
    have hB0 := balloc W (.cells (mrow fun _ => 0) 75)
    have hk1 := hk0.whole G
    have hB2 : Below W.heap.size W ((W.alloc (.cells (mrow fun _ => 0) 75)).setRow W.heap.size (mrow G)) := bsetRow hB0 (Nat.le_refl _) _
    have HK := hK _ hB2 hk1
    rw [← mrow_zero] at hk0
    clear hK hk1 hB2 hB0 HSQ
    gi_wp2_with (first
      | (refine wpListIn_store_row rfl 75 _ _ rfl W.heap.size _ rfl rfl 75 _ hk0 (inf75 _) (by simp) (mrow_one _) ?_; rw [mrow_zero])
      | gi_in)
    exact HK
  case body =>
    rintro l pre ⟨x, hx⟩ b W ⟨⟨u, hu, hrow, _⟩, hsz1, hbw⟩ hlen hE
    obtain ⟨a', c', rfl⟩ : ∃ a' c', u = .slice a' pre.length c' := by
      rcases hrow.2 with ⟨rfl, h0⟩ | ⟨g, c, cur, rfl, _⟩
      · exact ⟨none, 0, by rw [h0]⟩
      · exact ⟨_, c, rfl⟩
    have hoc := hu.cell
    obtain ⟨X, HX⟩ : ∃ X, Hid (mvL x = X) := ⟨_, rfl⟩
    have hE' : W.heap[b]? = some (.cells (mvL x).toArray 75 (0, 0)) := hE
    have hX7 : X.length = 7 := by rw [← HX.out]; exact mvL_len x
    have hX1 : ∀ v ∈ X, v.oneCell' = true := by rw [← HX.out]; exact mvL_one x
    have hsn := kkL_snoc pre ⟨x, hx⟩
    simp only [mv_eq]
    simp only [HX.out] at hE' hsn ⊢
    have hi75 : (Try.prog.info? 75).map (·.size) = some X.toArray.size := by rw [List.size_toArray, hX7]; kernel_rfl
    obtain ⟨k, Hk⟩ : ∃ k, Hid (pre.length = k) := ⟨_, rfl⟩
    have hk6 : k < 6000 := by rw [← Hk.out]; omega
    rw [Hk.out] at hu hrow hoc
    have hb5 := balloc W (.cells X.toArray 75)
    have hrow5 := hrow.alloc (.cells X.toArray 75)
    have hnew : ∀ j v, X[j]? = some v → (W.alloc (.cells X.toArray 75)).cell? ((⟨W.heap.size, 0, none⟩ : Addr).add j) = some v := fun j v hv => by
      rw [Addr.add_mid, Nat.zero_add, cell_of_row _ _ _ _ _ _ (heap_alloc_new W (.cells X.toArray 75)), List.getElem?_toArray]
      exact hv
    clear hE hm hown hD hL HSQ
    gi_wp2_with (first
      | (refine wpListIn_load_row rfl 75 _ rfl b rfl 75 _ (0, 0) _ hE' und75 rfl hi75 ?_)
      | (rw [fill7 hX7])
      | (gi_at_builtin; refine wpListIn_append_own _ rfl _ _ 76 rfl w1.heap.size 75 i75 (.agg (mrow fun _ => 0)) 7 56 und76s ti tz0 tz1 tz2 (by simp [Value.cells]) (by omega) (.slice a' k c') k ((kkL pre).flatMap mvL) rfl hrow5 ⟨W.heap.size, 0, none⟩ 1 1 X rfl (by rw [hX7]) hnew hX1 (by unfold maxLen; omega) (by omega) (by simp; omega) ?_; intro v' w2 hown' hgrow _; obtain ⟨g2, cap2, rfl⟩ := ownsRow_succ hown'; obtain ⟨f1, f2, f3, f4, f5, f6⟩ := appFacts (S := fun _ => False) (lo := w.heap.size) (by decide) hu hrow hb5 (fun _ h => h.elim) (fun h => h) hsz1 ⟨Nat.le_refl _, hB1.size⟩ hown' hgrow; have f1c := f1.cell; have f1f := f1.frozen)
      | gi_in)
    refine ⟨f4.walks, ⟨_, f2, ?_⟩, ?_, hbw.trans f6⟩
    · rw [← hs1, Hk.out]
      exact f3
    · have h9 := Nat.le_trans hsz1 f4.size
      rw [hs1] at h9
      simpa using h9
  case done =>
    rintro D2 xs W hD2 hxs ⟨⟨u, hu, hrow, _⟩, hsz1, hbw⟩ hK
    have hc := hu.cell
    gi_wp2
    refine ⟨by simp, .inl ⟨_, _, rfl, run_takeDeferred hK, ?_⟩⟩
    refine ⟨_, results_tmp rfl _ _ _, u, kkL xs, rfl, hxs, ?_, hbw.trans (belowK_b (w := w) (Nat.le_refl _) W D2 _ _ (by omega) hK rfl rfl)⟩
    have := ownsRow_putObj (ownsRow_base hrow hB1.size) (.deferred none) hK rfl
    rw [show (kkL xs).length = xs.length by simp [kkL]]
    exact this

set_option maxRecDepth 100000 in
set_option maxHeartbeats 1000000 in
theorem Collect_any (Bm B nn : Nat) (D : DataW Unit) (L : List (List Nat)) (w : World) (hm : w.cell? ⟨Bm, 0, none⟩ = some (.map (some B))) (hown : w.ownsMap Try.prog 75 (plainElem Try.prog 3) B nn D) (hD : KindsIs D L) (hL : ∀ y ∈ L, SmK y) (hnn : nn ≤ 6000) :
    Calls Try.prog 79 #[.func (.func 81) #[] #[.pointer (some ⟨Bm, 0, none⟩)]] w fun e w' => ∃ u xs, e = .returned u ∧ KColl L (fun _ => false) xs ∧ w'.ownsRow w.heap.size 75 7 u xs.length (xs.flatMap mvL) ∧ Below w.heap.size w w' := by
  have C := AppendSeq_any Bm B nn D L w hm hown hD hL hnn
  clear hm hown hD hL
  go_enter Try.func79, Try.ntmps79
  go_wp2_with (go_at_call 94; refine C.mono ?_; rintro e w1 ⟨u, xs, rfl, h1, h2, b1⟩)
  go_ret
  exact ⟨_, xs, rfl, h1, h2, b1⟩

end Go.Proofs.Ytmaplmgecohjbaa
