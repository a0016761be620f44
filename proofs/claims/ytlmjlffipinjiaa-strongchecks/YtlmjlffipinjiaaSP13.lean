/- What Triangle tells. -/
import Derived.Test.YtlmjlffipinjiaaSP12
import Derived.Test.YtlmjlffipinjiaaRXQ
import Derived.Maps.AppendAt
namespace Go.Proofs.Ytlmjlffipinjiaa
open Go.RowKit Go.Shelf

attribute [local go_sem] Oper.semAt_some
/-- What Triangle keeps while pairs are gathered. -/
structure TgK (w : World) (l : List Nat) (v : Value) (A : World) : Prop where
  br : A.heap[w.heap.size]? = some (.cells #[.int .i64 0, .slice none 0 0] 24 (0, 0))
  bl : Boxed A (w.heap.size + 1) 65 v
  ow : A.ownsRow (w.heap.size + 4) 66 2 v l.length (vPr l)
  bw : Below w.heap.size w A
theorem TgK.mv {w A B : World} {l : List Nat} {v : Value} (h : TgK w l v A) (hb : Below A.heap.size A B) : TgK w l v B := by
  have h1 := h.bl.lt
  refine ⟨(hb.block _ (by omega)).trans h.br, boxB h.bl hb (by omega), ?_, Below.next h.bw hb⟩
  obtain ⟨h1, h2 | ⟨g, cap, cur, rfl, h3, h4, h5⟩⟩ := h.ow
  · exact ⟨h1, .inl h2⟩
  · exact ⟨h1, .inr ⟨g, cap, cur, rfl, h3, (hb.block g (Array.getElem?_eq_some_iff.1 h4).1).trans h4, h5⟩⟩
theorem TgK.putO {w A : World} {l : List Nat} {v : Value} (h : TgK w l v A) {d : Nat} (hd : w.heap.size + 2 ≤ d) (hd2 : d < w.heap.size + 4) (o : Obj) : TgK w l v (A.putObj d o) := by
  refine ⟨(World.putObj_heap_other (by omega)).trans h.br, (World.putObj_heap_other (by omega)).trans h.bl, ?_, h.bw.trans (bput A o (by omega))⟩
  obtain ⟨h1, h2 | ⟨g, cap, cur, rfl, h3, h4, h5⟩⟩ := h.ow
  · exact ⟨h1, .inl h2⟩
  · exact ⟨h1, .inr ⟨g, cap, cur, rfl, h3, (World.putObj_heap_other (by omega)).trans h4, h5⟩⟩
theorem own_slc {w : World} {base : Nat} {e : TypeId} {size n : Nat} {v : Value} {xs : List Value} (h : w.ownsRow base e size v n xs) : ∃ a c, v = .slice a n c := by
  obtain ⟨h1, ⟨rfl, hn⟩ | ⟨g, cap, cur, rfl, _⟩⟩ := h
  · subst hn; exact ⟨_, _, rfl⟩
  · exact ⟨_, _, rfl⟩
theorem own_ltT {w : World} {base : Nat} {e : TypeId} {size n : Nat} {v : Value} {xs : List Value} (h : w.ownsRow base e size v n xs) (g : Nat) (hg : v.ownBlock = some g) : g < w.heap.size ∧ base ≤ g := by
  obtain ⟨h1, ⟨rfl, hn⟩ | ⟨g', cap, cur, rfl, h3, h4, _⟩⟩ := h
  · cases hg
  · obtain rfl : g' = g := by simpa [Value.ownBlock] using hg
    exact ⟨(Array.getElem?_eq_some_iff.1 h4).1, h3⟩
theorem TgK.prw {w A : World} {l : List Nat} {v : Value} (h : TgK w l v A) (hl : 0 < l.length) : PrW A (w.heap.size + 1) l := by
  obtain ⟨h1, ⟨rfl, hn⟩ | ⟨g, cap, cur, rfl, h3, h4, h5, h6, h7, ht⟩⟩ := h.ow
  · omega
  · refine ⟨g, cap, h.bl, (Array.getElem?_eq_some_iff.1 h4).1, fun j hj => ?_⟩
    obtain ⟨e1, e2⟩ := vPr_at l j hj
    have key : ∀ i, i < l.length * 2 → A.cell? ⟨g, i, none⟩ = (vPr l)[i]? := fun i hi => by
      rw [cell_of_row A g i _ _ _ h4, ← Array.getElem?_toList, ← ht, List.getElem?_take, if_pos hi]
    exact ⟨(key _ (by omega)).trans e1, (key _ (by omega)).trans e2⟩

set_option maxRecDepth 100000 in
set_option maxHeartbeats 16000000 in
theorem tri_main (n : Nat) (w : World) (h2 : 2 ≤ n) (h7 : n ≤ 7) :
    Calls Try.prog 27 #[.int .i64 (n : Int)] w fun e w' => (∃ y, e = .returned (.tuple #[.agg #[.int .i64 (tS n), y], .int .i64 (tE n : Int)]) ∧ OwnS w' y (tL n)) ∧ Below w.heap.size w w' := by
  obtain ⟨i66, ti, tz0, tz1, tz2⟩ := info66
  have d1 : decide ((n : Int) < 2) = false := by simp; omega
  have d2 : decide (7 < (n : Int)) = false := by simp; omega
  obtain ⟨hlen, hlen21⟩ := tr_len ⟨n, by omega⟩
  simp only at hlen hlen21
  have hE : tE n = 0 := by unfold tE; rw [if_neg (by omega)]
  have HFIN : Hid (∀ (g : Nat) (w' : World), Own w' g ((prL n).length * (prL n).length) (drF (prL n).length (shL n) (prL (prL n).length).length) → OwnS w' (.slice (some ⟨g, 0, none⟩) ((prL n).length * (prL n).length) ((prL n).length * (prL n).length)) (tL n)) := fun g w' h => by
    have e : tL n = trC n := by unfold tL; rw [if_pos hE, Int.toNat_natCast]
    rw [e]
    refine ownS_of (by simp [trC, hlen]) h fun j hj => ?_
    unfold trC
    rw [hlen, rng_get _ _ hj]
    refine drF_all (f := trG n) (by omega) (fun a b hab hb => tr_sh ⟨n, by omega⟩ ⟨a, by omega⟩ ⟨b, by omega⟩ hab hb) (fun a b ha hb => (tr_gr n (prL n).length).sym a b ha hb) (fun a ha => (tr_gr n (prL n).length).diag a ha) hj
  have HS : Hid (tS n = ((prL n).length : Int)) := by
    show tS n = _
    unfold tS; rw [if_pos hE, Int.toNat_natCast, hlen]
  have hpos : 0 < (prL n).length := by
    have : (prL n)[prC n 0 + 0]? = _ := prL_at (n := n) (a := 0) (i := 0) (by omega) (by omega)
    have := prL_lt this
    omega
  refine (callsIn_wide (n := 9)).1 (callsIn_of_wp_marks Try.func27 rfl trivial (wpIn_wide.2 ?_) rfl)
  simp only [Try.ntmps27, List.size_toArray, List.length_cons, List.length_nil, Nat.reduceAdd, Nat.reduceSub, Array.replicate_succ, Array.replicate_zero, List.push_toArray, List.append_toArray, List.nil_append, List.cons_append]
  have hS : ((w.alloc (.cells #[.int .i64 0, .slice none 0 0] 24)).alloc (.cells #[.slice none 0 0] 65)).heap.size = w.heap.size + 2 := by simp
  have hK0 : TgK w [] (.slice none 0 0) ((w.alloc (.cells #[.int .i64 0, .slice none 0 0] 24)).alloc (.cells #[.slice none 0 0] 65)) := by
    have h := Boxed.new (w.alloc (.cells #[.int .i64 0, .slice none 0 0] 24)) 65 (.slice none 0 0)
    rw [World.size_alloc] at h
    exact ⟨(Below.heap_alloc _ _ _ (by simp)).trans (heap_alloc_new w _), h, ⟨rfl, .inl ⟨rfl, rfl⟩⟩, Below.next (balloc w _) (balloc _ _)⟩
  have HK0 : Hid (TgK w [] (.slice none 0 0) ((w.alloc (.cells #[.int .i64 0, .slice none 0 0] 24)).alloc (.cells #[.slice none 0 0] 65))) := hK0
  go_wp2
  obtain ⟨V, HV⟩ : ∃ V, Hid (V = (w.alloc (.cells #[.int .i64 0, .slice none 0 0] 24)).alloc (.cells #[.slice none 0 0] 65)) := ⟨_, rfl⟩
  rw [← HV.out] at hS HK0 ⊢
  clear hK0 HV
  have HBX : Hid (w.heap.size + 2 = V.heap.size) := hS.symm
  refine (wpIn_wide (n := 9)).1 (wpIn_pairs2 (N := n) (gf := 35) rfl (enters_of Try.func35 (by kernel_rfl) rfl) rfl (pairs_runs n _ (by omega))
    (fun i B => ∃ v, TgK w ((prL n).take i) v B) (fun _ => False)
    (fun i A o ⟨v, h⟩ => ⟨v, h.putO (by omega) (by omega) o⟩) (fun A o h => h) (fun V hb => ⟨_, by rw [List.take_zero]; exact HK0.out.mv hb⟩)
    ?a1 ?assign ?body ?done ?stop)
  case assign =>
    intro l x W K _ hK
    unfold encP
    gi_wp2
    exact hK
  case body =>
    rintro i x B hx ⟨v, hI⟩ hlt2
    obtain ⟨p1, p2⟩ := prL_at' (by omega) hx
    have hi := prL_lt hx
    have htk : (prL n).take (i + 1) = (prL n).take i ++ [x] := by rw [List.take_add_one, hx]; rfl
    have hk : ((prL n).take i).length = i := by rw [List.length_take]; omega
    obtain ⟨va, vc, rfl⟩ := own_slc hI.ow
    rw [hk] at hI
    have q1 := hI.bl.cell
    have HI : Hid (TgK w ((prL n).take i) (.slice va i vc) B) := hI
    obtain ⟨p, hp⟩ : ∃ p, x / 32 = p := ⟨_, rfl⟩
    obtain ⟨q, hq⟩ : ∃ q, x % 32 = q := ⟨_, rfl⟩
    have r1 : ((x : Int) / 32) = (p : Int) := by omega
    have r2 : ((x : Int) % 32) = (q : Int) := by omega
    have hrow := hI.ow
    rw [hk] at hrow
    have HXS : Hid (vPr ((prL n).take (i + 1)) = vPr ((prL n).take i) ++ [.int .i64 (p : Int), .int .i64 (q : Int)]) := by
      show _ = _
      rw [htk, vPr_snoc, hp, hq]
    have HKL : Hid (((prL n).take (i + 1)).length = i + 1) := by
      show _ = _
      rw [List.length_take]; omega
    have b1 := balloc B (.cells #[.int .i64 (p : Int), .int .i64 (q : Int)] 66)
    have hI1 := hI.mv b1
    have hrow1 := hI1.ow
    rw [hk] at hrow1
    have hnew := heap_alloc_new B (.cells #[.int .i64 (p : Int), .int .i64 (q : Int)] 66)
    have HLB : Hid (w.heap.size + 4 ≤ B.heap.size) := (by omega : w.heap.size + 4 ≤ B.heap.size)
    gi_wp2_with (first
      | (refine wpListIn_append_own _ rfl _ _ 65 rfl (w.heap.size + 4) 66 i66 (.agg #[.int .i64 0, .int .i64 0]) 2 16 Try.underlying65 ti tz0 tz1 tz2 rfl (by decide) (.slice va i vc) i _ rfl hrow1 ⟨B.heap.size, 0, none⟩ 1 1 [.int .i64 (p : Int), .int .i64 (q : Int)] rfl rfl ?hc ?h1c (by unfold maxLen; omega) (by omega) (by simp; omega) ?hKK))
    case hc =>
      intro j u hj
      rw [Addr.add_mid, cell_of_row _ _ _ _ _ _ hnew]
      match j, hj with
      | 0, hj => simpa using hj
      | 1, hj => simpa using hj
    case h1c =>
      intro u hu
      simp at hu
      rcases hu with rfl | rfl <;> rfl
    case hKK =>
      rintro v' w' hown hgrow _
      have hob : ∀ g, (Value.slice va i vc).ownBlock = some g → w.heap.size + 4 ≤ g := fun g hg => (own_ltT hrow g hg).2
      have hkeep : ∀ b, b < w.heap.size + 4 → w'.heap[b]? = B.heap[b]? := fun b hb => by
        have hl := HLB.out
        refine (hgrow.block b (by simp; omega) (fun e => ?_)).trans (b1.block b (by omega))
        have := hob b e.symm
        omega
      have hbl : Boxed w' (w.heap.size + 1) 65 (.slice va i vc) := (hkeep _ (by omega)).trans HI.out.bl
      have k1 := hbl.cell
      have k2 := hbl.frozen
      have hbW : Below w.heap.size w w' := by
        have h1 := Below.next HI.out.bw b1
        exact h1.grown hgrow h1.size (fun k e => by have := hob k e; omega)
      obtain ⟨na, nc, rfl⟩ := own_slc hown
      have HOW : Hid (w'.ownsRow (w.heap.size + 4) 66 2 (.slice na (i + 1) nc) (i + 1) (vPr ((prL n).take i) ++ [.int .i64 (p : Int), .int .i64 (q : Int)])) := hown
      clear hown hgrow hrow hrow1 hI1 q1 hnew b1
      gi_wp2
      have hne : (Value.slice na (i + 1) nc).ownBlock ≠ some (w.heap.size + 1) := fun e => by have := (own_ltT HOW.out _ e).2; omega
      have ko : ∀ b, b ≠ w.heap.size + 1 → (w'.setCell ⟨w.heap.size + 1, 0, none⟩ (.slice na (i + 1) nc)).heap[b]? = w'.heap[b]? := fun b hb => heap_setCell_other w' ⟨w.heap.size + 1, 0, none⟩ b _ hb
      have hs := HBX.out
      refine ⟨⟨(ko _ (by omega)).trans (hkeep _ (by omega)), (ko _ (by omega)).trans (hkeep _ (by omega))⟩, _, (ko _ (by omega)).trans ((hkeep _ (by omega)).trans HI.out.br), hbl.set _, ?_, hbW.setCell (p := ⟨w.heap.size + 1, 0, none⟩) (by show _ ≤ w.heap.size + 1; omega) _⟩
      rw [HKL.out, HXS.out]
      exact orow_other HOW.out ⟨w.heap.size + 1, 0, none⟩ _ hne
  case done =>
    rintro B ⟨v, hI⟩ hK
    rw [hS] at hK
    rw [List.take_length] at hI
    obtain ⟨va, vc, rfl⟩ := own_slc hI.ow
    have hPW := hI.prw hpos
    have q1 := hI.bl.cell
    obtain ⟨y0, y1, y2, y3⟩ := row2 hI.br
    have hbx := hI.bl.lt
    have CD : Calls Try.prog 20 #[.int .i64 ((prL n).length : Int), .func (.func 38) #[] #[.pointer (some ⟨w.heap.size + 1, 0, none⟩)]] B fun e w' => (∃ g, e = .returned (.agg #[.int .i64 ((prL n).length : Int), .slice (some ⟨g, 0, none⟩) ((prL n).length * (prL n).length) ((prL n).length * (prL n).length)]) ∧ Own w' g ((prL n).length * (prL n).length) (drF (prL n).length (shL n) (prL (prL n).length).length)) ∧ Below B.heap.size B w' :=
      drawn_any (prL n).length 38 #[] #[.pointer (some ⟨w.heap.size + 1, 0, none⟩)] (shL n) B (by omega) (enters_of Try.func38 (by kernel_rfl) rfl) fun a b W hab hb hB => tri1_any (prL n) _ a b W (hPW.below hB) (by omega) hb (by omega)
    have HI : Hid (TgK w (prL n) (.slice va (prL n).length vc) B) := hI
    have HK : Hid (B.heap[(w.heap.size + 2)]? = some (.deferred (some []))) := hK
    have HP : Hid (0 < (prL n).length) := hpos
    generalize (prL n).length = m at *
    obtain ⟨z, hz⟩ : ∃ z, m * m = z := ⟨_, rfl⟩
    rw [hz] at CD HFIN
    clear hI hK hPW hpos hlen
    go_wp2_with (go_at_call 20; refine CD.mono ?_; rintro e w4 ⟨⟨g, rfl, hg⟩, hb4⟩; clear CD; have hr4 := (hb4.block _ (by omega)).trans HI.out.br; have z0 := (row2 hr4).1; have z1 := (row2 hr4).2.1; have z2 := (row2 hr4).2.2.1; have z3 := (row2 hr4).2.2.2)
    have hrow := put2_row hr4 (.int .i64 (m : Int)) (.slice (some ⟨g, 0, none⟩) z z)
    have hgne := own_ne24 hg hr4
    have hown : Own ((w4.setCell ⟨w.heap.size, 0, none⟩ (.int .i64 (m : Int))).setCell ⟨w.heap.size, 1, none⟩ (.slice (some ⟨g, 0, none⟩) z z)) g z _ := (hg.other ⟨w.heap.size, 0, none⟩ _ hgne).other ⟨w.heap.size, 1, none⟩ _ hgne
    have hbw : Below w.heap.size w ((w4.setCell ⟨w.heap.size, 0, none⟩ (.int .i64 (m : Int))).setCell ⟨w.heap.size, 1, none⟩ (.slice (some ⟨g, 0, none⟩) z z)) := ((Below.next HI.out.bw hb4).setCell (p := ⟨w.heap.size, 0, none⟩) (Nat.le_refl _) _).setCell (p := ⟨w.heap.size, 1, none⟩) (Nat.le_refl _) _
    have hlt : (w.heap.size + 2) < B.heap.size := (Array.getElem?_eq_some_iff.1 HK.out).1
    have hK2 : ((w4.setCell ⟨w.heap.size, 0, none⟩ (.int .i64 (m : Int))).setCell ⟨w.heap.size, 1, none⟩ (.slice (some ⟨g, 0, none⟩) z z)).heap[(w.heap.size + 2)]? = some (.deferred (some [])) := (heap_setCell_other _ ⟨w.heap.size, 1, none⟩ _ _ (by show _ ≠ w.heap.size; omega)).trans ((heap_setCell_other w4 ⟨w.heap.size, 0, none⟩ _ _ (by show _ ≠ w.heap.size; omega)).trans ((hb4.block _ hlt).trans HK.out))
    have hgD : g ≠ (w.heap.size + 2) := by
      rintro rfl
      obtain ⟨cur, e, _⟩ := hown
      rw [hK2] at e
      cases e
    generalize (w4.setCell ⟨w.heap.size, 0, none⟩ (.int .i64 (m : Int))).setCell ⟨w.heap.size, 1, none⟩ (.slice (some ⟨g, 0, none⟩) z z) = C at *
    refine ⟨by simp, .inl ⟨_, _, rfl, run_takeDeferred hK2, ?_⟩⟩
    have bP := bput (n := (w.heap.size + 2)) C (.deferred none) (l := (w.heap.size + 2)) (Nat.le_refl _)
    have hrow2 := (bP.block w.heap.size (by omega)).trans hrow
    have hown2 : Own (C.putObj (w.heap.size + 2) (.deferred none)) g z (drF m (shL n) (prL m).length) := by
      obtain ⟨cur, q1, q2⟩ := hown
      exact ⟨cur, (World.putObj_heap_other hgD).trans q1, q2⟩
    refine ⟨.tuple #[.agg #[.int .i64 (m : Int), .slice (some ⟨g, 0, none⟩) z z], .int .i64 0], ?_, ⟨_, by rw [HS.out, hE]; rfl, HFIN.out g _ hown2⟩, hbw.trans (bP.mono (by omega))⟩
    refine (results_cell_tmp (p := 2) (u := 3) (ty := 24) rfl _ _ _).trans ?_
    show ((asAddr (.pointer (some ⟨w.heap.size, 0, none⟩))).run Try.prog _).andThen _ = _
    have h1 : (asAddr (.pointer (some ⟨w.heap.size, 0, none⟩))).run Try.prog (C.putObj (w.heap.size + 2) (.deferred none)) = .ok ⟨w.heap.size, 0, none⟩ (C.putObj (w.heap.size + 2) (.deferred none)) := by simp [asAddr]
    rw [h1]
    show ((loadVar 24 ⟨w.heap.size, 0, none⟩).run Try.prog _).andThen _ = _
    rw [run_loadVar_row _ w.heap.size 24 24 _ (0, 0) _ hrow2 Try.underlying24 rfl inf24]
    rfl
  case stop =>
    rintro B h
    exact h.elim
theorem ftri : FTri := by
  intro n W
  by_cases h : n < 2 ∨ 7 < n
  · have hE : tE n = 1 := by unfold tE; rw [if_pos h]
    have HF : Hid (tS n = 0 ∧ tL n = [] ∧ tE n = 1) := ⟨by unfold tS; rw [hE]; rfl, by unfold tL; rw [hE]; rfl, hE⟩
    have hbox := heap_alloc_new W (.cells #[.int .i64 0, .slice none 0 0] 24)
    obtain ⟨y0, y1, y2, y3⟩ := row2 hbox
    have b0 := balloc W (.cells #[.int .i64 0, .slice none 0 0] 24)
    by_cases h1 : n < 2
    · have d1 : decide (n < 2) = true := decide_eq_true h1
      clear h h1 hE
      go_enter Try.func27, Try.ntmps27
      go_wp2
      exact post_sq2 2 3 rfl rfl hbox rfl rfl ⟨⟨_, by rw [HF.out.1, HF.out.2.2]; rfl, by rw [HF.out.2.1]; exact OwnS.nil _⟩, b0⟩
    · have d1 : decide (n < 2) = false := decide_eq_false h1
      have d2 : decide (7 < n) = true := decide_eq_true (by omega)
      clear h h1 hE
      go_enter Try.func27, Try.ntmps27
      go_wp2
      exact post_sq2 2 3 rfl rfl hbox rfl rfl ⟨⟨_, by rw [HF.out.1, HF.out.2.2]; rfl, by rw [HF.out.2.1]; exact OwnS.nil _⟩, b0⟩
  · obtain ⟨m, rfl⟩ : ∃ m : Nat, n = m := ⟨n.toNat, by omega⟩
    exact tri_main m W (by omega) (by omega)
end Go.Proofs.Ytlmjlffipinjiaa
