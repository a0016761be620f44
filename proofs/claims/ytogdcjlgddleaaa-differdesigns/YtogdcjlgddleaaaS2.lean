/- Maps of numbers; the walks of differences and Level. -/
import Derived.Test.YtogdcjlgddleaaaS1
import Derived.Test.YtogdcjlgddleaaaB1
import Derived.Maps.RangeWalk
import Derived.Maps.OwnSet
namespace Go.Proofs.Ytogdcjlgddleaaa
open Go.RowKit Go.Maps

theorem undM : Try.prog.underlying 45 = some (.map 3 3) := by kernel_rfl
theorem law3 : Keyed Try.prog 3 := int_keyed und3
theorem zero3 (w : World) : (zeroValue 3).run Try.prog w = .ok (.int .i64 0) w := by kernel_rfl

/-- What a map of numbers reads as: at c below N the number T c, where that is not nought. -/
structure TallyIs (D : DataW Unit) (T : Nat → Int) (N : Nat) : Prop where
  has : ∀ x : Int, Maps.has D (.int .i64 x) = true ↔ ∃ c : Nat, c < N ∧ x = c ∧ T c ≠ 0
  at_ : ∀ c, c < N → T c ≠ 0 → ∀ z, D.atKey (.int .i64 (c : Int)) z = .lit (.int .i64 (T c))
theorem TallyIs.empty (N : Nat) : TallyIs (.map []) (fun _ => 0) N := ⟨fun x => ⟨fun h => by simp [Maps.has] at h, fun ⟨_, _, _, h⟩ => absurd rfl h⟩, fun _ _ h => absurd rfl h⟩
theorem TallyIs.congr {D : DataW Unit} {T T' : Nat → Int} {N : Nat} (h : TallyIs D T N) (e : ∀ c, T c = T' c) : TallyIs D T' N := by
  have : T = T' := funext e
  rw [← this]; exact h
theorem TallyIs.look {D : DataW Unit} {T : Nat → Int} {N c : Nat} (h : TallyIs D T N) (hc : c < N) {x : Int} (hat : D.atKey (.int .i64 (c : Int)) (.lit (.int .i64 0)) = .lit (.int .i64 x)) : x = T c := by
  by_cases e : T c = 0
  · have hn : Maps.has D (.int .i64 (c : Int)) = false := by
      cases hh : Maps.has D (.int .i64 (c : Int)) with
      | false => rfl
      | true =>
        obtain ⟨c', _, e1, e2⟩ := (h.has _).1 hh
        obtain rfl : c = c' := by omega
        exact absurd e e2
    rw [atKey_of_not_has hn] at hat
    simp only [DataW.lit.injEq, Lit.int.injEq, true_and] at hat
    omega
  · rw [h.at_ c hc e] at hat
    simp only [DataW.lit.injEq, Lit.int.injEq, true_and] at hat
    omega
theorem TallyIs.put {D : DataW Unit} {T : Nat → Int} {N c : Nat} (h : TallyIs D T N) (hD : IsMap D) (hc : c < N) {v : Int} (hv : v ≠ 0) : TallyIs (D.put (.int .i64 (c : Int)) (.lit (.int .i64 v))) (upd T c v) N := by
  have hk : WideAt.IsKeyLit (.int .i64 (c : Int)) := trivial
  refine ⟨fun x => ?_, fun c' hc' hne z => ?_⟩
  · by_cases e : x = c
    · subst e
      rw [has_put_same hD hk]
      exact ⟨fun _ => ⟨c, hc, rfl, by simpa [upd] using hv⟩, fun _ => rfl⟩
    · rw [has_put_other (by simpa using e), h.has]
      refine ⟨fun ⟨c', h1, h2, h3⟩ => ⟨c', h1, h2, ?_⟩, fun ⟨c', h1, h2, h3⟩ => ⟨c', h1, h2, ?_⟩⟩
      · unfold upd; rw [if_neg (by omega)]; exact h3
      · unfold upd at h3; rw [if_neg (by omega)] at h3; exact h3
  · by_cases e : c' = c
    · subst e
      rw [atKey_put_same hD hk]
      simp [upd]
    · rw [atKey_put_other (by simp; omega)]
      unfold upd at hne ⊢
      rw [if_neg e] at hne ⊢
      exact h.at_ c' hc' hne z

theorem grown_of_below {A B : World} (h : Below A.heap.size A B) : A.grownBy B none := ⟨h.os, h.tape, h.output, h.size, fun k hk _ => h.block k hk⟩
theorem tally_below {w w' : World} {B n : Nat} {D : DataW Unit} (h : w.ownsMap Try.prog 3 (plainElem Try.prog 3) B n D) (hb : Below w.heap.size w w') : w'.ownsMap Try.prog 3 (plainElem Try.prog 3) B n D := h.kept (grown_of_below hb) (by simp)
/-- How often each has come. -/
def cntT (ks : List Nat) (c : Nat) : Int := (ks.count c : Int)
theorem cntT_put (ks : List Nat) (k c : Nat) : upd (cntT ks) k (cntT ks k + 1) c = cntT (ks ++ [k]) c := by
  unfold upd cntT
  rw [List.count_append, List.count_singleton]
  by_cases e : c = k
  · subst e; rw [if_pos rfl]; simp
  · rw [if_neg e, if_neg (by simpa using fun h => e h.symm)]; simp
theorem cntT_bd (ks : List Nat) (c : Nat) : 0 ≤ cntT ks c ∧ cntT ks c ≤ (ks.length : Int) := by
  unfold cntT
  have := List.count_le_length (a := c) (l := ks)
  omega
/-- The differences that have come when i rows and j more are done. -/
def dfP (v : Nat) (D : List Nat) (i j : Nat) : List Nat := dfL v D (D.take i) ++ (D.take j).map fun y => (D.getD i 0 + v - y) % v
theorem take_up {D : List Nat} {i : Nat} (h : i < D.length) : D.take (i + 1) = D.take i ++ [D.getD i 0] := by
  rw [List.take_add_one, List.getElem?_eq_getElem h, List.getD_eq_getElem?_getD, List.getElem?_eq_getElem h]; rfl
theorem dfP_zero (v : Nat) (D : List Nat) (i : Nat) : dfP v D i 0 = dfL v D (D.take i) := by simp [dfP]
theorem dfP_next {v : Nat} {D : List Nat} {i j : Nat} (h : j < D.length) : dfP v D i (j + 1) = dfP v D i j ++ [(D.getD i 0 + v - D.getD j 0) % v] := by
  unfold dfP
  rw [take_up h, List.map_append, List.append_assoc]
  rfl
theorem dfP_row {v : Nat} {D : List Nat} {i : Nat} (h : i < D.length) : dfP v D i D.length = dfP v D (i + 1) 0 := by
  rw [dfP_zero, take_up h]
  unfold dfP dfL
  rw [List.take_length, List.flatMap_append]
  simp
theorem dfP_len {v : Nat} {D : List Nat} {i j : Nat} (hi : i ≤ D.length) (hj : j ≤ D.length) : (dfP v D i j).length = i * D.length + j := by
  unfold dfP
  rw [List.length_append, dfL_len, List.length_map, List.length_take, List.length_take, Nat.min_eq_left hi, Nat.min_eq_left hj]
theorem dfP_full (v : Nat) (D : List Nat) : dfP v D D.length 0 = dfL v D D := by rw [dfP_zero, List.take_length]
theorem df_int {v x y : Nat} (hy : y < v) : ((x : Int) - (y : Int) + (v : Int)).tmod (v : Int) = (((x + v - y) % v : Nat) : Int) := by
  rw [show (x : Int) - (y : Int) + (v : Int) = ((x + v - y : Nat) : Int) by omega, Int.ofNat_tmod]
set_option maxRecDepth 100000 in
set_option maxHeartbeats 4000000 in
theorem differences_any (v : Nat) (D : List Nat) (u : Value) (w : World) (hG : GoodS v D) (hu : Sl w u (D.map Int.ofNat)) :
    Calls Try.prog 21 #[.int .i64 (v : Int), u] w fun e w' => ∃ (B m : Nat) (X : DataW Unit), e = .returned (.map (some B)) ∧ w.heap.size ≤ B ∧ w'.ownsMap Try.prog 3 (plainElem Try.prog 3) B m X ∧ TallyIs X (cntT (dfL v D D)) 61 ∧ Below w.heap.size w w' := by
  have hmm := @run_makeMap Try.prog
  obtain ⟨a, ca, rfl, hA⟩ := sl_at hu
  have h1 := hG.pos
  have h60 := hG.le
  have hlen := hG.len
  have HA : Hid (∀ i, i < D.length → ∃ b off, a = some ⟨b, off, none⟩ ∧ ∀ W, Below w.heap.size w W → W.cell? ⟨b, off + i, none⟩ = some (.int .i64 ((D.getD i 0 : Nat) : Int))) := fun i hi => by
    obtain ⟨b, o, e, hc⟩ := hA i hi
    exact ⟨b, o, e, fun W bW => (bW.cell (World.block_lt_of_cell? _ _ hc)).trans hc⟩
  have HV : Hid (∀ i, i < D.length → D.getD i 0 < v) := fun i hi => by
    rw [List.getD_eq_getElem?_getD, List.getElem?_eq_getElem hi]; exact hG.lt _ (List.getElem_mem hi)
  have HN : Hid (∀ i j, j < D.length → dfP v D i (j + 1) = dfP v D i j ++ [(D.getD i 0 + v - D.getD j 0) % v]) := fun i j h => dfP_next h
  have HRw : Hid (∀ i, i < D.length → dfP v D i D.length = dfP v D (i + 1) 0) := fun i h => dfP_row h
  have HL : Hid (∀ i j, i ≤ D.length → j ≤ D.length → (dfP v D i j).length = i * D.length + j) := fun i j h h' => dfP_len h h'
  have HE : Hid (dfP v D D.length 0 = dfL v D D) := dfP_full v D
  obtain ⟨Z, HZ⟩ : ∃ Z, Hid (dfL v D D = Z) := ⟨_, rfl⟩
  rw [HZ.out] at HE ⊢
  have HQ : Hid (∀ i, i ≤ D.length → i * D.length ≤ 60 * 60) := fun i hi => Nat.mul_le_mul (by omega) (by omega)
  generalize D.length = n at *
  have hv0 : (v : Int) ≠ 0 := by omega
  clear hu hA hG
  go_enter Try.func21, Try.ntmps21
  go_wp2
  go_loopw [13] (fun iv wr => ∃ (i : Nat) (X : DataW Unit), iv = .int .i64 (i : Int) ∧ i ≤ n ∧ wr.ownsMap Try.prog 3 (plainElem Try.prog 3) w.heap.size (dfP v D i 0).length X ∧ Hid (TallyIs X (cntT (dfP v D i 0)) 61) ∧ Below w.heap.size w wr) (fun iv _ => (n - intOf iv).toNat)
  case atStart =>
    exact ⟨0, .map [], rfl, by omega, World.ownsMap_made _ _ _ _, (show TallyIs _ _ _ from (TallyIs.empty _).congr (fun c => by simp [cntT, dfP, dfL])), balloc _ _⟩
  case round =>
    obtain ⟨i, X, rfl, hi, hown, HT, hB⟩ := hrel
    by_cases hlt : i < n
    · have hii : (i : Int) < n := by omega
      have hdec : decide ((i : Int) < n) = true := by simp; omega
      obtain ⟨b1, o1, rfl, c1⟩ := HA.out i hlt
      replace c1 := c1 _ hB
      have hxv := HV.out i hlt
      have HN1 := HN.out i
      have hil := HQ.out i (by omega)
      have HL1 : Hid (∀ j, j ≤ n → (dfP v D i j).length = i * n + j) := fun j hj => HL.out i j (by omega) hj
      have HR1 : Hid (dfP v D i n = dfP v D (i + 1) 0) := HRw.out i hlt
      obtain ⟨x, hx⟩ : ∃ x, D.getD i 0 = x := ⟨_, rfl⟩
      rw [hx] at c1 hxv HN1
      have HN2 : Hid (∀ j, j < n → dfP v D i (j + 1) = dfP v D i j ++ [(x + v - D.getD j 0) % v]) := HN1
      clear hx HN1 HE HQ HL HRw
      obtain ⟨q, Hq⟩ : ∃ q, Hid (i * n = q) := ⟨_, rfl⟩
      rw [Hq.out] at HL1 hil
      go_wp2
      go_loopw [19] (fun jv wr => ∃ (j : Nat) (X : DataW Unit), jv = .int .i64 (j : Int) ∧ j ≤ n ∧ wr.ownsMap Try.prog 3 (plainElem Try.prog 3) w.heap.size (dfP v D i j).length X ∧ Hid (TallyIs X (cntT (dfP v D i j)) 61) ∧ Below w.heap.size w wr) (fun jv _ => (n - intOf jv).toNat)
      case atStart => exact ⟨0, X, rfl, by omega, hown, HT, hB⟩
      case round =>
        clear hown HT hB c1
        obtain ⟨j, X, rfl, hj, hown, HT, hB⟩ := hrel
        by_cases hlj : j < n
        · have hjj : (j : Int) < n := by omega
          have hdej : decide ((j : Int) < n) = true := by simp; omega
          obtain ⟨b2, o2, e2, c2⟩ := HA.out j hlj
          obtain ⟨rfl, rfl⟩ : b1 = b2 ∧ o1 = o2 := by
            simp only [Option.some.injEq, Addr.mk.injEq] at e2
            exact ⟨e2.1, e2.2.1⟩
          replace c2 := c2 _ hB
          have hyv := HV.out j hlj
          have hN := HN2.out j hlj
          have hLl := HL1.out j (by omega)
          obtain ⟨y, hy⟩ : ∃ y, D.getD j 0 = y := ⟨_, rfl⟩
          rw [hy] at c2 hyv hN
          have hm := df_int (x := x) hyv
          obtain ⟨k, Hk⟩ : ∃ k, Hid ((x + v - y) % v = k) := ⟨_, rfl⟩
          have hkv : k < v := by rw [← Hk.out]; exact Nat.mod_lt _ (by omega)
          rw [Hk.out] at hm hN
          obtain ⟨ks, Hks⟩ : ∃ ks, Hid (dfP v D i j = ks) := ⟨_, rfl⟩
          rw [Hks.out] at hN hown HT hLl
          have HT' := HT.out
          have hbd := cntT_bd ks k
          have HNN : Hid (dfP v D i (j + 1) = ks ++ [k]) := hN
          have hkl : ks.length ≤ 60 * 60 + 60 := by omega
          have HP : Hid (∀ c, upd (cntT ks) k (cntT ks k + 1) c = cntT (ks ++ [k]) c) := fun c => cntT_put ks k c
          obtain ⟨t, Ht⟩ : ∃ t, Hid (cntT ks k = t) := ⟨_, rfl⟩
          rw [Ht.out] at hbd HP
          have HK : Hid (∀ c, D = D → TallyIs X (cntT ks) 61 → X.atKey (.int .i64 (k : Int)) (.lit (.int .i64 0)) = .lit (.int .i64 c) → c = t) := fun c _ h hat => by rw [← Ht.out]; exact h.look (by omega) hat
          clear hN hLl e2 hy HA HV HN HL1
          go_wp2_with (first
            | (at_lookup; refine wpList_lookup_own_int _ rfl _ _ 45 rfl 3 3 .i64 law3 undM und3 (zero3 _) w.heap.size ks.length _ rfl hown _ _ rfl (keyOf_int_mk und3 (WalkArith.wf_i64 (by omega))) ?_; intro c hat hwc; obtain rfl : c = t := HK.out c rfl HT' hat; clear hat hwc)
            | (at_mapUpdate; refine wpList_mapUpdate_own _ rfl _ _ _ 45 rfl 3 3 law3 undM _ w.heap.size _ _ rfl hown (by unfold maxLen; omega) _ _ _ rfl rfl (keyOf_int_mk und3 (WalkArith.wf_i64 (by omega))) _ [] (plainElem_int und3 (WalkArith.wf_i64 (by omega))) ?_; intro w2 hown2 hg2; go_frame)
            | go_in)
          go_roundw
          case rel =>
            rw [show ks.length + 1 = (dfP v D i (j + 1)).length by rw [HNN.out]; simp] at hown2
            have ht := (HT'.put (c := k) hown.isMap (by omega) (v := c + 1) (by omega)).congr fun c => HP.out c
            rw [← HNN.out] at ht
            exact ⟨j + 1, _, by go_num, by omega, hown2, ht, hB.grown hg2 (by have := hB.size; omega) (fun j hj => by cases hj; exact Nat.le_refl _)⟩
          case measure => simp [intOf]; omega
        · have hdej : decide ((j : Int) < n) = false := by simp; omega
          obtain rfl : j = n := by omega
          rw [HR1.out] at hown HT
          go_wp2
          go_roundw
          case rel => exact ⟨i + 1, X, by go_num, by omega, hown, HT, hB⟩
          case measure => simp [intOf]; omega
    · have hdec : decide ((i : Int) < n) = false := by simp; omega
      obtain rfl : i = n := by omega
      rw [HE.out] at hown HT
      go_wp2
      go_ret
      exact ⟨w.heap.size, _, X, rfl, Nat.le_refl _, hown, HT.out, hB⟩

end Go.Proofs.Ytogdcjlgddleaaa
