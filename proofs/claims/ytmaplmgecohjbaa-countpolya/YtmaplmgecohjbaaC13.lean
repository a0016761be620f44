/- The walk of kindsOf. -/
import Derived.Test.YtmaplmgecohjbaaC11
import Derived.Test.YtmaplmgecohjbaaC12
namespace Go.Proofs.Ytmaplmgecohjbaa
open Go.RowKit Go.Maps

/-- What kindsOf answers: a map of the kinds of all members. -/
def KindsAns (w : World) (n : Nat) (ms : List (List Nat)) (e : Ending) (w' : World) : Prop :=
  ∃ (B m : Nat) (D : DataW Unit) (L : List (List Nat)), e = .returned (.map (some B)) ∧ w.heap.size ≤ B ∧ m ≤ 5040 ∧ w'.ownsMap Try.prog 75 (plainElem Try.prog 3) B m D ∧ KindsIs D L ∧ L.Perm ((els n (Gen n ms)).map (kd n)) ∧ Below w.heap.size w w'
theorem kd_sm {n : Nat} (a : List Nat) (hn : n ≤ 7) : SmK (kd n a) := ⟨kd_len n a, kd_small hn⟩
theorem splice_kd {n : Nat} {a : List Nat} (ha : IsP n a) (hn : n ≤ 7) :
    (splice ((List.range 7).map fun _ => Value.int .i64 (0 : Int)) 0 ((kdI n a).map (Value.int .i64))).toArray = (mvL (kd n a)).toArray := by
  apply Array.ext_getElem?
  intro j
  have hl : ((kdI n a).map (Value.int .i64)).length = n := by rw [List.length_map, kdI_len]
  by_cases hj : j < 7
  · have e2 : (mvL (kd n a)).toArray[j]? = some (.int .i64 ((lens n (fnL a)).count (j + 1) : Int)) := by
      simp only [mvL, List.getElem?_toArray]
      rw [List.getElem?_map, List.getElem?_range hj, Option.map_some, kd_at hj]
    rw [e2]
    simp only [splice, List.take_zero, List.nil_append, List.getElem?_toArray, Nat.zero_add, hl]
    by_cases hjk : j < n
    · rw [List.getElem?_append_left (by rw [hl]; exact hjk)]
      have hjl : j < (kdI n a).length := by rw [kdI_len]; exact hjk
      have := kdI_at (a := a) hjk
      simp [hjl] at this ⊢
      exact this
    · rw [List.getElem?_append_right (by rw [hl]; omega), hl]
      have hz : (lens n (fnL a)).count (j + 1) = 0 := List.count_eq_zero.2 fun h => by
        have := (ha.pm : Pm n (fnL a)).lens_mem h
        omega
      rw [hz]
      simp [show n + (j - n) = j by omega, hj]
  · rw [Array.getElem?_eq_none (by simp [splice, kdI_len]; omega), Array.getElem?_eq_none (by simp; omega)]

set_option maxRecDepth 100000 in
set_option maxHeartbeats 8000000 in
theorem kindsOf_any (n : Nat) (ms : List (List Nat)) (v : Value) (w : World) (h : Mk n ms v w) :
    Calls Try.prog 35 #[.int .i64 (n : Int), v] w fun e w' => KindsAns w n ms e w' := by
  have hmm := @run_makeMap Try.prog
  have hn1 := h.n1
  have hn7 := h.n7
  have HISP : Hid (∀ m ∈ ms, IsP n m) := h.isP
  have C0 := All_any n ms v w h
  clear h
  go_enter Try.func35, Try.ntmps35
  go_wp2_with (first
    | (go_at_call 58; refine C0.mono ?_; rintro e w1 ⟨y, A, rfl, hR, hp, b1⟩
       obtain ⟨vals, hv1, hv2⟩ := hR
       have hbd := gen_bound HISP.out hn7 (els_nodup n (Gen n ms)) (fun a => (gen_grp HISP.out).mem)
       have hAl : A.length = (els n (Gen n ms)).length := hp.length_eq
       obtain ⟨r, Hr⟩ : ∃ r, Hid (A.length = r) := ⟨_, rfl⟩
       have hr0 : 0 < r := by rw [← Hr.out]; omega
       have hr6 : r ≤ 5040 := by rw [← Hr.out]; omega
       rw [Hr.out] at hv1
       obtain ⟨g, cap, cur, ey, hgb, hgw, hcells⟩ : ∃ g cap cur, y = .slice (some ⟨g, 0, none⟩) r cap ∧ w.heap.size ≤ g ∧ w1.heap[g]? = some (.cells cur 40 (0, 0)) ∧ ∀ (j : Nat) (u : Value), vals[j]? = some u → w1.cell? ⟨g, 0 + j, none⟩ = some u := by
         obtain ⟨hvl, ⟨_, e0⟩ | ⟨g, cap, cur, e5, e6, e7, e8, e9, e10, ht⟩⟩ := id hv1
         · omega
         · refine ⟨g, cap, cur, e5, e6, e7, fun j u hu => ?_⟩
           have h := hv1.cells (g := g) (by rw [e5]; rfl) j u hu
           rw [Addr.add_mid] at h; exact h
       subst ey
       have hvl : vals.length = r := by have := hv1.1; omega
       have HROW : Hid (∀ (i : Nat) (u : Value) (l : List Nat), vals[i]? = some u → A[i]? = some l → RowIs w1 w.heap.size u l) := hv2
       have HP : Hid (A.Perm (els n (Gen n ms))) := hp
       have HC : Hid (∀ (j : Nat) (u : Value), vals[j]? = some u → w1.cell? ⟨g, 0 + j, none⟩ = some u) := hcells
       have HB1 : Hid (Below w.heap.size w w1) := b1
       have hs1 := b1.size
       have hgl : g < w1.heap.size := (Array.getElem?_eq_some_iff.1 hgw).1
       clear hv1 hv2 hp hbd hAl hcells b1 hgw C0))
  go_loopw [22] (fun i wr => ∃ (k : Nat) (D : DataW Unit), i = .int .i64 (k : Int) ∧ k ≤ r ∧ wr.ownsMap Try.prog 75 (plainElem Try.prog 3) w1.heap.size k D ∧ Hid (KindsIs D ((A.take k).map (kd n))) ∧ Below w1.heap.size w1 wr) (fun i _ => (r - intOf i).toNat)
  case atStart =>
    exact ⟨0, .map [], rfl, by omega, World.ownsMap_made _ _ _ _, (by simpa using KindsIs.empty : KindsIs (.map []) ((A.take 0).map (kd n))), balloc _ _⟩
  case round =>
    obtain ⟨k, D, rfl, hk, hown, HD, hB⟩ := hrel
    by_cases hlt : k < r
    · have hki : (k : Int) < r := by omega
      have hdec : decide ((k : Int) < r) = true := by simp; omega
      obtain ⟨u, hu⟩ : ∃ u, vals[k]? = some u := ⟨vals[k]'(by omega), by simp⟩
      obtain ⟨a, ha⟩ : ∃ a, A[k]? = some a := ⟨A[k]'(by have := Hr.out; omega), by simp⟩
      have hap : IsP n a := (mem_els.1 (HP.out.mem_iff.1 (List.mem_of_getElem? ha))).1
      have hcu := (hB.cell (p := ⟨g, 0 + k, none⟩) hgl).trans (HC.out k u hu)
      rw [Nat.zero_add] at hcu
      obtain ⟨gu, ucap, eu, _, hO⟩ := HROW.out k u a hu ha
      have hsl : Sl w1 u (a.map Int.ofNat) := by
        have h1 := hO.sl ucap
        have e1 : ((List.range a.length).map fun j => (a.getD j 0 : Int)) = a.map Int.ofNat := by
          have := pl_map (l := a) rfl
          unfold pl at this
          exact this
        rw [e1] at h1
        rw [eu]; exact h1
      have C := fun W (hb : Below w1.heap.size w1 W) => Kind_any n a u W (hsl.below hb) hap hn1 hn7
      have HTK : Hid ((A.take (k + 1)).map (kd n) = (A.take k).map (kd n) ++ [kd n a]) := by show _ = _; rw [List.take_add_one, ha, List.map_append]; rfl
      have hsz := hB.size
      have hoL := hown.lt
      have hspl := splice_kd hap hn7
      have hsm := kd_sm (n := n) a hn7
      have hkey := keyK_of hsm
      have HL : Hid (∀ y ∈ (A.take k).map (kd n), SmK y) := fun y hy => by
        obtain ⟨z, _, rfl⟩ := List.mem_map.1 hy
        exact kd_sm z hn7
      have HDL := HD
      obtain ⟨Lk, HLk⟩ : ∃ Lk, Hid ((A.take k).map (kd n) = Lk) := ⟨_, rfl⟩
      have hLkl : Lk.length ≤ 5040 := by rw [← HLk.out]; simp; omega
      rw [HLk.out] at HTK HL HD
      obtain ⟨x, Hx⟩ : ∃ x, Hid (kd n a = x) := ⟨_, rfl⟩
      rw [Hx.out] at HTK hspl hsm hkey
      rw [mv_eq] at hkey
      obtain ⟨X, HX⟩ : ∃ X, Hid (mvL x = X) := ⟨_, rfl⟩
      have hinf : (Try.prog.info? 75).map (·.size) = some X.length := by rw [← HX.out]; exact inf75L x
      have hXl : X.length = 7 := by rw [← HX.out]; exact mvL_len x
      rw [HX.out] at hspl hkey
      have HSM : Hid (SmK x) := hsm
      have HKEY : Hid (keyOf Try.prog 75 (.agg X.toArray) = some (keyK x)) := hkey
      clear hu ha hap hO hsl eu HDL hsm hkey
      go_wp2_with (first
        | (go_at_call 59; refine (C _ hB).mono ?_; rintro e w2 ⟨⟨y2, rfl, hy2⟩, b2⟩
           obtain ⟨sb, so, sc, ey2, hsbl, hsc⟩ := hy2.form (kdI_len n a) (by omega)
           subst ey2
           have hz := MRow.made0 75 w2
           have hB2 := Below.trans hB (b2.mono hsz)
           have hs2 := b2.size
           have HSC : Hid (∀ j, j < n → w2.cell? ⟨sb, so + j, none⟩ = some (.int .i64 ((kdI n a).getD j 0))) := hsc
           clear hy2 hsc)
        | (refine wpList_copy_splice rfl _ _ 40 40 rfl 3 und22 hsz3 (some ⟨w2.heap.size, 0, none⟩) (some ⟨sb, so, none⟩) 7 7 n sc rfl rfl w2.heap.size 0 ((List.range 7).map fun _ => Value.int .i64 (0 : Int)) 75 hz ((kdI n a).map (Value.int .i64)) ?c1 ?c2 ?c3 ?c4 w2.heap.size _ (Below.refl _ _) (Nat.le_refl _) ?_))
      case c1 => show _ = min n 7; rw [List.length_map, kdI_len]; omega
      case c2 =>
        intro _ j z hz
        have hjl : j < n := by have := (List.getElem?_eq_some_iff.1 hz).1; rwa [kdI_len] at this
        have hx := HSC.out j hjl
        have e : (kdI n a).getD j 0 = z := by simp [hz]
        rw [e] at hx
        exact hx
      case c3 => simp [kdI_len]; omega
      case c4 => intro v hv; obtain ⟨z, _, rfl⟩ := List.mem_map.1 hv; rfl
      intro w3 HG hb3
      go_wp2_with fail
      have hX3 : w3.rangeAt w2.heap.size 0 X := by
        have hG : w3.heap[w2.heap.size]? = some (.cells (splice ((List.range 7).map fun _ => Value.int .i64 (0 : Int)) 0 ((kdI n a).map (Value.int .i64))).toArray 75 (0, 0)) := HG.out
        rw [hspl] at hG
        intro j z hz
        rw [Nat.zero_add, cell_of_row w3 _ j _ _ _ hG]
        simpa using hz
      have hs3 := hb3.size
      rw [World.size_alloc] at hs3
      have b23 : Below w2.heap.size w2 w3 := (balloc w2 _).trans hb3
      have hB3 : Below w1.heap.size w1 w3 := hB2.trans (b23.mono (by omega))
      have hown3 : w3.ownsMap Try.prog 75 (plainElem Try.prog 3) w1.heap.size k D := kinds_below (kinds_below hown b2) b23
      have hDm := hown3.isMap
      obtain ⟨c, v0, st, w4, hat, hlook, hent, hlook2, hg4, hs4, hst⟩ := entry_any hown3.drew (by unfold maxLen; omega) HKEY.out
      have hcx := HD.out.look HL.out HSM.out hat
      have hcb : (Lk.count x : Int) ≤ 5040 := by have := List.count_le_length (a := x) (l := Lk); omega
      have hc0 : 0 ≤ c := by rw [hcx]; omega
      have hc1 : c ≤ 5040 := by rw [hcx]; exact hcb
      have HCX : Hid (c = (Lk.count x : Int)) := hcx
      obtain ⟨w5, hsto, hown5, hg5⟩ := hst (c + 1) (WalkArith.wf_i64 (by omega))
      rw [show goInt (st : Int) = Value.int .i64 (st : Int) from rfl] at hsto hent
      have hne : w2.heap.size ≠ w1.heap.size := by omega
      have hX4 : w4.rangeAt w2.heap.size 0 X := range_block (w := w3.drew) hX3 (hg4.block w2.heap.size (by show w2.heap.size < w3.heap.size; omega) (by simpa using hne))
      have hX5 : w5.rangeAt w2.heap.size 0 X := range_block (w := w3.drew) hX3 (hg5.block w2.heap.size (by show w2.heap.size < w3.heap.size; omega) (by simpa using hne))
      have hB5 : Below w1.heap.size w1 w5 := hB3.drew.grown hg5 (by show w1.heap.size ≤ w3.heap.size; omega) (fun j hj => by cases hj; exact Nat.le_refl _)
      have hadd : c + 1 ≤ 5041 := by omega
      clear hat hcx hst HG hb3 hz hown hown3 hB2 hB3 hg4 hg5 hspl C b2 b23
      refine wp_region_noPanic ?_
      refine wp_region_held_drew (S := fun w_ => w_.rangeAt w2.heap.size 0 X) (by kernel_rfl) (by exact hX3) (fun hSx => ?_)
      refine wpAnyH_take (i := 0) (v := .map (some w1.heap.size)) rfl (by kernel_rfl) (by kernel_rfl) (by kernel_rfl) (fun _ _ _ h => h) (Or.inl ⟨by rfl, fun w_ hSw => by (try dsimp only at hSw); go_simp⟩) hSx ?_
      try simp only [Act.put, List.setIfInBounds_toArray]
      refine wpAnyH_take (i := 1) (v := .agg X.toArray) rfl (by kernel_rfl) (by kernel_rfl) (by kernel_rfl) (fun _ _ _ h => h) (yieldsIf_load_mid (by rfl) 75 _ rfl w2.heap.size 0 rfl X _ (fun _ h => h) und75 rfl hinf) hSx ?_
      try simp only [Act.put]
      refine wpAnyH_ready (rs := [2, 4]) (by kernel_rfl) (by simp) ?_
      refine AllReadyH.cons rfl (fun J hJ => ?_) (AllReadyH.cons rfl (fun J hJ => ?_) AllReadyH.nil)
      · go_simp
        refine hJ.out _ _ hSx (fun hSy => ?_)
        clear hJ J
        try simp only [Act.put, List.setIfInBounds_toArray, List.set_cons_zero, List.set_cons_succ]
        refine wpAnyH_take (i := 3) (v := .int .i64 (c + 1)) rfl (by kernel_rfl) (by kernel_rfl) (by kernel_rfl) (fun _ _ _ h => h) (Or.inl ⟨by rfl, fun w_ hSw => by (try dsimp only at hSw); go_simp; rw [IntKind.wrap_i64]; omega⟩) hSy ?_
        try simp only [Act.put, List.setIfInBounds_toArray]
        refine wpAnyH_ready (rs := [4]) (by kernel_rfl) (by simp) ?_
        refine AllReadyH.cons rfl (fun J hJ => ?_) AllReadyH.nil
        go_simp
        refine hJ.out _ _ hX4 (fun hSz => ?_)
        clear hJ J
        try simp only [Act.put, List.setIfInBounds_toArray, List.set_cons_zero, List.set_cons_succ]
        refine wpAnyH_take (i := 5) (v := .int .i64 (st : Int)) rfl (by kernel_rfl) (by kernel_rfl) (by kernel_rfl) (fun _ _ _ h => h) (Or.inl ⟨by rfl, fun w_ hSw => by (try dsimp only at hSw); go_simp⟩) hSz ?_
        try simp only [Act.put, List.setIfInBounds_toArray]
        refine wpAnyH_ready (rs := [6]) (by kernel_rfl) (by simp) ?_
        refine AllReadyH.cons rfl (fun J hJ => ?_) AllReadyH.nil
        go_simp
        refine hJ.out _ _ hX5 (fun _ => ?_)
        clear hJ J
        refine wpAnyH_done (by kernel_rfl) ?_ _
        refine NoPanic.normal ?_
        clear hlook hent hlook2 hsto
        go_wp2
        go_roundw
        case rel =>
          refine ⟨k + 1, _, by go_num, by omega, hown5, ?_, hB5⟩
          show KindsIs _ _
          rw [HTK.out, HCX.out]
          exact HD.out.put hDm HL.out HSM.out
        case measure => simp [intOf]; omega
      · go_simp
        refine hJ.out _ _ hX4 (fun hSy => ?_)
        clear hJ J
        try simp only [Act.put, List.setIfInBounds_toArray, List.set_cons_zero, List.set_cons_succ]
        refine wpAnyH_take (i := 5) (v := .int .i64 (st : Int)) rfl (by kernel_rfl) (by kernel_rfl) (by kernel_rfl) (fun _ _ _ h => h) (Or.inl ⟨by rfl, fun w_ hSw => by (try dsimp only at hSw); go_simp⟩) hSy ?_
        try simp only [Act.put, List.setIfInBounds_toArray]
        refine wpAnyH_ready (rs := [2]) (by kernel_rfl) (by simp) ?_
        refine AllReadyH.cons rfl (fun J hJ => ?_) AllReadyH.nil
        go_simp
        refine hJ.out _ _ hX4 (fun hSz => ?_)
        clear hJ J
        try simp only [Act.put, List.setIfInBounds_toArray, List.set_cons_zero, List.set_cons_succ]
        refine wpAnyH_take (i := 3) (v := .int .i64 (c + 1)) rfl (by kernel_rfl) (by kernel_rfl) (by kernel_rfl) (fun _ _ _ h => h) (Or.inl ⟨by rfl, fun w_ hSw => by (try dsimp only at hSw); go_simp; rw [IntKind.wrap_i64]; omega⟩) hSz ?_
        try simp only [Act.put, List.setIfInBounds_toArray]
        refine wpAnyH_ready (rs := [6]) (by kernel_rfl) (by simp) ?_
        refine AllReadyH.cons rfl (fun J hJ => ?_) AllReadyH.nil
        go_simp
        refine hJ.out _ _ hX5 (fun _ => ?_)
        clear hJ J
        refine wpAnyH_done (by kernel_rfl) ?_ _
        refine NoPanic.normal ?_
        clear hlook hent hlook2 hsto
        go_wp2
        go_roundw
        case rel =>
          refine ⟨k + 1, _, by go_num, by omega, hown5, ?_, hB5⟩
          show KindsIs _ _
          rw [HTK.out, HCX.out]
          exact HD.out.put hDm HL.out HSM.out
        case measure => simp [intOf]; omega
    · have hdec : decide ((k : Int) < r) = false := by simp; omega
      obtain rfl : k = r := by omega
      go_wp2
      go_ret
      refine ⟨w1.heap.size, k, D, (A.take k).map (kd n), rfl, hs1, hr6, hown, HD.out, ?_, HB1.out.trans (hB.mono hs1)⟩
      rw [List.take_of_length_le (by have := Hr.out; omega)]
      exact HP.out.map _

end Go.Proofs.Ytmaplmgecohjbaa
