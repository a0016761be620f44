/- The walk of Level. -/
import Derived.Test.YtlmjlffipinjiabDoorS1
import Derived.Test.YtlmjlffipinjiabDoorB1
import Derived.Maps.RangeWalk
import Derived.Maps.OwnSet
/- Maps of numbers; the walks of differences and Level. -/
namespace Go.Proofs.YtlmjlffipinjiabDoor
open Go.RowKit Go.Maps

set_option maxRecDepth 100000 in
theorem undM : Tryd.prog.underlying 62 = some (.map 3 3) := by kernel_rfl
set_option maxRecDepth 100000 in
theorem law3 : Keyed Tryd.prog 3 := int_keyed und3
set_option maxRecDepth 100000 in
theorem zero3 (w : World) : (zeroValue 3).run Tryd.prog w = .ok (.int .i64 0) w := by kernel_rfl

/-- What a map of numbers reads as: at c below N the number T c, where that is not nought. -/
structure TallyIs (D : DataW Unit) (T : Nat → Int) (N : Nat) : Prop where
  has : ∀ x : Int, Maps.has D (.int .i64 x) = true ↔ ∃ c : Nat, c < N ∧ x = c ∧ T c ≠ 0
  at_ : ∀ c, c < N → T c ≠ 0 → ∀ z, D.atKey (.int .i64 (c : Int)) z = .lit (.int .i64 (T c))
theorem TallyIs.empty (N : Nat) : TallyIs (.map []) (fun _ => 0) N := ⟨fun x => ⟨fun h => by simp [Maps.has] at h, fun ⟨_, _, _, h⟩ => absurd rfl h⟩, fun _ _ h => absurd rfl h⟩
theorem TallyIs.congr {D : DataW Unit} {T T' : Nat → Int} {N : Nat} (h : TallyIs D T N) (e : ∀ c, T c = T' c) : TallyIs D T' N := by
  have : T = T' := funext e
  rw [← this]; exact h
theorem TallyIs.look {D : DataW Unit} {T : Nat → Int} {N c : Nat} (h : TallyIs D T N) (hc : c < N) {x : Int} (hat : D.atKey (.int .i64 (c : Int)) (.lit (.int .i64 0)) = .lit (.int .i64 x)) : x = T c := by
  by_cases e : T c = 0
  · have hn : Maps.has D (.int .i64 (c : Int)) = false := by
      cases hh : Maps.has D (.int .i64 (c : Int)) with
      | false => rfl
      | true =>
        obtain ⟨c', _, e1, e2⟩ := (h.has _).1 hh
        obtain rfl : c = c' := by omega
        exact absurd e e2
    rw [atKey_of_not_has hn] at hat
    simp only [DataW.lit.injEq, Lit.int.injEq, true_and] at hat
    omega
  · rw [h.at_ c hc e] at hat
    simp only [DataW.lit.injEq, Lit.int.injEq, true_and] at hat
    omega
theorem TallyIs.put {D : DataW Unit} {T : Nat → Int} {N c : Nat} (h : TallyIs D T N) (hD : IsMap D) (hc : c < N) {v : Int} (hv : v ≠ 0) : TallyIs (D.put (.int .i64 (c : Int)) (.lit (.int .i64 v))) (upd T c v) N := by
  have hk : WideAt.IsKeyLit (.int .i64 (c : Int)) := trivial
  refine ⟨fun x => ?_, fun c' hc' hne z => ?_⟩
  · by_cases e : x = c
    · subst e
      rw [has_put_same hD hk]
      exact ⟨fun _ => ⟨c, hc, rfl, by simpa [upd] using hv⟩, fun _ => rfl⟩
    · rw [has_put_other (by simpa using e), h.has]
      refine ⟨fun ⟨c', h1, h2, h3⟩ => ⟨c', h1, h2, ?_⟩, fun ⟨c', h1, h2, h3⟩ => ⟨c', h1, h2, ?_⟩⟩
      · unfold upd; rw [if_neg (by omega)]; exact h3
      · unfold upd at h3; rw [if_neg (by omega)] at h3; exact h3
  · by_cases e : c' = c
    · subst e
      rw [atKey_put_same hD hk]
      simp [upd]
    · rw [atKey_put_other (by simp; omega)]
      unfold upd at hne ⊢
      rw [if_neg e] at hne ⊢
      exact h.at_ c' hc' hne z

theorem grown_of_below {A B : World} (h : Below A.heap.size A B) : A.grownBy B none := ⟨h.os, h.tape, h.output, h.size, fun k hk _ => h.block k hk⟩
set_option maxRecDepth 100000 in
theorem tally_below {w w' : World} {B n : Nat} {D : DataW Unit} (h : w.ownsMap Tryd.prog 3 (plainElem Tryd.prog 3) B n D) (hb : Below w.heap.size w w') : w'.ownsMap Tryd.prog 3 (plainElem Tryd.prog 3) B n D := h.kept (grown_of_below hb) (by simp)
/-- How often each has come. -/
def cntT (ks : List Nat) (c : Nat) : Int := (ks.count c : Int)
theorem cntT_put (ks : List Nat) (k c : Nat) : upd (cntT ks) k (cntT ks k + 1) c = cntT (ks ++ [k]) c := by
  unfold upd cntT
  rw [List.count_append, List.count_singleton]
  by_cases e : c = k
  · subst e; rw [if_pos rfl]; simp
  · rw [if_neg e, if_neg (by simpa using fun h => e h.symm)]; simp
theorem cntT_bd (ks : List Nat) (c : Nat) : 0 ≤ cntT ks c ∧ cntT ks c ≤ (ks.length : Int) := by
  unfold cntT
  have := List.count_le_length (a := c) (l := ks)
  omega
/-- The differences that have come when i rows and j more are done. -/
def dfP (v : Nat) (D : List Nat) (i j : Nat) : List Nat := dfL v D (D.take i) ++ (D.take j).map fun y => (D.getD i 0 + v - y) % v
theorem take_up {D : List Nat} {i : Nat} (h : i < D.length) : D.take (i + 1) = D.take i ++ [D.getD i 0] := by
  rw [List.take_add_one, List.getElem?_eq_getElem h, List.getD_eq_getElem?_getD, List.getElem?_eq_getElem h]; rfl
theorem dfP_zero (v : Nat) (D : List Nat) (i : Nat) : dfP v D i 0 = dfL v D (D.take i) := by simp [dfP]
theorem dfP_next {v : Nat} {D : List Nat} {i j : Nat} (h : j < D.length) : dfP v D i (j + 1) = dfP v D i j ++ [(D.getD i 0 + v - D.getD j 0) % v] := by
  unfold dfP
  rw [take_up h, List.map_append, List.append_assoc]
  rfl
theorem dfP_row {v : Nat} {D : List Nat} {i : Nat} (h : i < D.length) : dfP v D i D.length = dfP v D (i + 1) 0 := by
  rw [dfP_zero, take_up h]
  unfold dfP dfL
  rw [List.take_length, List.flatMap_append]
  simp
theorem dfP_len {v : Nat} {D : List Nat} {i j : Nat} (hi : i ≤ D.length) (hj : j ≤ D.length) : (dfP v D i j).length = i * D.length + j := by
  unfold dfP
  rw [List.length_append, dfL_len, List.length_map, List.length_take, List.length_take, Nat.min_eq_left hi, Nat.min_eq_left hj]
theorem dfP_full (v : Nat) (D : List Nat) : dfP v D D.length 0 = dfL v D D := by rw [dfP_zero, List.take_length]
theorem df_int {v x y : Nat} (hy : y < v) : ((x : Int) - (y : Int) + (v : Int)).tmod (v : Int) = (((x + v - y) % v : Nat) : Int) := by
  rw [show (x : Int) - (y : Int) + (v : Int) = ((x + v - y : Nat) : Int) by omega, Int.ofNat_tmod]
set_option maxRecDepth 100000 in
set_option maxHeartbeats 4000000 in
theorem differences_any (v : Nat) (D : List Nat) (u : Value) (w : World) (hG : GoodS v D) (hu : Sl w u (D.map Int.ofNat)) :
    Calls Tryd.prog 22 #[.int .i64 (v : Int), u] w fun e w' => ∃ (B m : Nat) (X : DataW Unit), e = .returned (.map (some B)) ∧ w.heap.size ≤ B ∧ w'.ownsMap Tryd.prog 3 (plainElem Tryd.prog 3) B m X ∧ TallyIs X (cntT (dfL v D D)) 61 ∧ Below w.heap.size w w' := by
  have hmm := @run_makeMap Tryd.prog
  obtain ⟨a, ca, rfl, hA⟩ := sl_at hu
  have h1 := hG.pos
  have h60 := hG.le
  have hlen := hG.len
  have HA : Hid (∀ i, i < D.length → ∃ b off, a = some ⟨b, off, none⟩ ∧ ∀ W, Below w.heap.size w W → W.cell? ⟨b, off + i, none⟩ = some (.int .i64 ((D.getD i 0 : Nat) : Int))) := fun i hi => by
    obtain ⟨b, o, e, hc⟩ := hA i hi
    exact ⟨b, o, e, fun W bW => (bW.cell (World.block_lt_of_cell? _ _ hc)).trans hc⟩
  have HV : Hid (∀ i, i < D.length → D.getD i 0 < v) := fun i hi => by
    rw [List.getD_eq_getElem?_getD, List.getElem?_eq_getElem hi]; exact hG.lt _ (List.getElem_mem hi)
  have HN : Hid (∀ i j, j < D.length → dfP v D i (j + 1) = dfP v D i j ++ [(D.getD i 0 + v - D.getD j 0) % v]) := fun i j h => dfP_next h
  have HRw : Hid (∀ i, i < D.length → dfP v D i D.length = dfP v D (i + 1) 0) := fun i h => dfP_row h
  have HL : Hid (∀ i j, i ≤ D.length → j ≤ D.length → (dfP v D i j).length = i * D.length + j) := fun i j h h' => dfP_len h h'
  have HE : Hid (dfP v D D.length 0 = dfL v D D) := dfP_full v D
  obtain ⟨Z, HZ⟩ : ∃ Z, Hid (dfL v D D = Z) := ⟨_, rfl⟩
  rw [HZ.out] at HE ⊢
  have HQ : Hid (∀ i, i ≤ D.length → i * D.length ≤ 60 * 60) := fun i hi => Nat.mul_le_mul (by omega) (by omega)
  generalize D.length = n at *
  have hv0 : (v : Int) ≠ 0 := by omega
  clear hu hA hG
  go_enter Tryd.func22, Tryd.ntmps22
  go_wp2
  go_loopw [13] (fun iv wr => ∃ (i : Nat) (X : DataW Unit), iv = .int .i64 (i : Int) ∧ i ≤ n ∧ wr.ownsMap Tryd.prog 3 (plainElem Tryd.prog 3) w.heap.size (dfP v D i 0).length X ∧ Hid (TallyIs X (cntT (dfP v D i 0)) 61) ∧ Below w.heap.size w wr) (fun iv _ => (n - intOf iv).toNat)
  case atStart =>
    exact ⟨0, .map [], rfl, by omega, World.ownsMap_made _ _ _ _, (show TallyIs _ _ _ from (TallyIs.empty _).congr (fun c => by simp [cntT, dfP, dfL])), balloc _ _⟩
  case round =>
    obtain ⟨i, X, rfl, hi, hown, HT, hB⟩ := hrel
    by_cases hlt : i < n
    · have hii : (i : Int) < n := by omega
      have hdec : decide ((i : Int) < n) = true := by simp; omega
      obtain ⟨b1, o1, rfl, c1⟩ := HA.out i hlt
      replace c1 := c1 _ hB
      have hxv := HV.out i hlt
      have HN1 := HN.out i
      have hil := HQ.out i (by omega)
      have HL1 : Hid (∀ j, j ≤ n → (dfP v D i j).length = i * n + j) := fun j hj => HL.out i j (by omega) hj
      have HR1 : Hid (dfP v D i n = dfP v D (i + 1) 0) := HRw.out i hlt
      obtain ⟨x, hx⟩ : ∃ x, D.getD i 0 = x := ⟨_, rfl⟩
      rw [hx] at c1 hxv HN1
      have HN2 : Hid (∀ j, j < n → dfP v D i (j + 1) = dfP v D i j ++ [(x + v - D.getD j 0) % v]) := HN1
      clear hx HN1 HE HQ HL HRw
      obtain ⟨q, Hq⟩ : ∃ q, Hid (i * n = q) := ⟨_, rfl⟩
      rw [Hq.out] at HL1 hil
      go_wp2
      go_loopw [19] (fun jv wr => ∃ (j : Nat) (X : DataW Unit), jv = .int .i64 (j : Int) ∧ j ≤ n ∧ wr.ownsMap Tryd.prog 3 (plainElem Tryd.prog 3) w.heap.size (dfP v D i j).length X ∧ Hid (TallyIs X (cntT (dfP v D i j)) 61) ∧ Below w.heap.size w wr) (fun jv _ => (n - intOf jv).toNat)
      case atStart => exact ⟨0, X, rfl, by omega, hown, HT, hB⟩
      case round =>
        clear hown HT hB c1
        obtain ⟨j, X, rfl, hj, hown, HT, hB⟩ := hrel
        by_cases hlj : j < n
        · have hjj : (j : Int) < n := by omega
          have hdej : decide ((j : Int) < n) = true := by simp; omega
          obtain ⟨b2, o2, e2, c2⟩ := HA.out j hlj
          obtain ⟨rfl, rfl⟩ : b1 = b2 ∧ o1 = o2 := by
            simp only [Option.some.injEq, Addr.mk.injEq] at e2
            exact ⟨e2.1, e2.2.1⟩
          replace c2 := c2 _ hB
          have hyv := HV.out j hlj
          have hN := HN2.out j hlj
          have hLl := HL1.out j (by omega)
          obtain ⟨y, hy⟩ : ∃ y, D.getD j 0 = y := ⟨_, rfl⟩
          rw [hy] at c2 hyv hN
          have hm := df_int (x := x) hyv
          obtain ⟨k, Hk⟩ : ∃ k, Hid ((x + v - y) % v = k) := ⟨_, rfl⟩
          have hkv : k < v := by rw [← Hk.out]; exact Nat.mod_lt _ (by omega)
          rw [Hk.out] at hm hN
          obtain ⟨ks, Hks⟩ : ∃ ks, Hid (dfP v D i j = ks) := ⟨_, rfl⟩
          rw [Hks.out] at hN hown HT hLl
          have HT' := HT.out
          have hbd := cntT_bd ks k
          have HNN : Hid (dfP v D i (j + 1) = ks ++ [k]) := hN
          have hkl : ks.length ≤ 60 * 60 + 60 := by omega
          have HP : Hid (∀ c, upd (cntT ks) k (cntT ks k + 1) c = cntT (ks ++ [k]) c) := fun c => cntT_put ks k c
          obtain ⟨t, Ht⟩ : ∃ t, Hid (cntT ks k = t) := ⟨_, rfl⟩
          rw [Ht.out] at hbd HP
          have HK : Hid (∀ c, D = D → TallyIs X (cntT ks) 61 → X.atKey (.int .i64 (k : Int)) (.lit (.int .i64 0)) = .lit (.int .i64 c) → c = t) := fun c _ h hat => by rw [← Ht.out]; exact h.look (by omega) hat
          clear hN hLl e2 hy HA HV HN HL1
          go_wp2_with (first
            | (at_lookup; refine wpList_lookup_own_int _ rfl _ _ 62 rfl 3 3 .i64 law3 undM und3 (zero3 _) w.heap.size ks.length _ rfl hown _ _ rfl (keyOf_int_mk und3 (WalkArith.wf_i64 (by omega))) ?_; intro c hat hwc; obtain rfl : c = t := HK.out c rfl HT' hat; clear hat hwc)
            | (at_mapUpdate; refine wpList_mapUpdate_own _ rfl _ _ _ 62 rfl 3 3 law3 undM _ w.heap.size _ _ rfl hown (by unfold maxLen; omega) _ _ _ rfl rfl (keyOf_int_mk und3 (WalkArith.wf_i64 (by omega))) _ [] (plainElem_int und3 (WalkArith.wf_i64 (by omega))) ?_; intro w2 hown2 hg2; go_frame)
            | go_in)
          go_roundw
          case rel =>
            rw [show ks.length + 1 = (dfP v D i (j + 1)).length by rw [HNN.out]; simp] at hown2
            have ht := (HT'.put (c := k) hown.isMap (by omega) (v := c + 1) (by omega)).congr fun c => HP.out c
            rw [← HNN.out] at ht
            exact ⟨j + 1, _, by go_num, by omega, hown2, ht, hB.grown hg2 (by have := hB.size; omega) (fun j hj => by cases hj; exact Nat.le_refl _)⟩
          case measure => simp [intOf]; omega
        · have hdej : decide ((j : Int) < n) = false := by simp; omega
          obtain rfl : j = n := by omega
          rw [HR1.out] at hown HT
          go_wp2
          go_roundw
          case rel => exact ⟨i + 1, X, by go_num, by omega, hown, HT, hB⟩
          case measure => simp [intOf]; omega
    · have hdec : decide ((i : Int) < n) = false := by simp; omega
      obtain rfl : i = n := by omega
      rw [HE.out] at hown HT
      go_wp2
      go_ret
      exact ⟨w.heap.size, _, X, rfl, Nat.le_refl _, hown, HT.out, hB⟩

end Go.Proofs.YtlmjlffipinjiabDoor

namespace Go.Proofs.YtlmjlffipinjiabDoor
open Go.RowKit Go.Maps

theorem cntT_df (v : Nat) (D : List Nat) (c : Nat) : cntT (dfL v D D) c = (dfN v D c : Int) := rfl
/-- What Level tells of a set. -/
def lvL (v : Nat) (D : List Nat) : Nat := if lvB v D = true then dfN v D 1 else 0
def lvE (v : Nat) (D : List Nat) : Nat := if lvB v D = true then 0 else 4
theorem lv_no {v : Nat} {D : List Nat} {s : Nat} (h2 : 2 ≤ s) (hs : s < v) (h : dfN v D s ≠ dfN v D 1) : lvL v D = 0 ∧ lvE v D = 4 := by
  have : ¬ lvB v D = true := fun k => h (lvB_iff.1 k s h2 hs)
  exact ⟨if_neg this, if_neg this⟩
theorem lv_yes {v : Nat} {D : List Nat} (h : ∀ s, 2 ≤ s → s < v → dfN v D s = dfN v D 1) : lvL v D = dfN v D 1 ∧ lvE v D = 0 := by
  have := lvB_iff.2 h
  exact ⟨if_pos this, if_pos this⟩
theorem dfN_le {v : Nat} {D : List Nat} (hG : GoodS v D) (c : Nat) : dfN v D c ≤ 60 * 60 := by
  refine Nat.le_trans List.count_le_length ?_
  rw [dfL_len]
  have h1 := hG.len
  have h2 := hG.le
  exact Nat.mul_le_mul (by omega) (by omega)
set_option maxRecDepth 100000 in
set_option maxHeartbeats 4000000 in
theorem Level_bad' (p : Int) (b : List Int) (u : Value) (w : World) (z : Nat) (hz : z ≠ 0) (hu : ∃ a c, u = .slice a b.length c) (HC : Hid (Calls Tryd.prog 21 #[.int .i64 p, u] w fun e w' => e = .returned (.int .i64 (z : Int)) ∧ Below w.heap.size w w')) :
    Calls Tryd.prog 7 #[.int .i64 p, u] w fun e w' => e = .returned (.tuple #[.int .i64 0, .int .i64 (z : Int)]) ∧ Below w.heap.size w w' := by
  obtain ⟨a, c, rfl⟩ := hu
  have hz1 : ¬ (z : Int) = 0 := by omega
  have hz2 : ((z : Int) != 0) = true := by simpa using hz
  go_enter Tryd.func7, Tryd.ntmps7
  go_wp2_with (first
    | (go_at_call 21; refine HC.out.mono ?_; rintro e w1 ⟨rfl, hb⟩; clear HC)
    | go_in)
  go_ret2
  exact ⟨rfl, hb⟩
set_option maxRecDepth 100000 in
set_option maxHeartbeats 4000000 in
theorem Level_main' (v : Nat) (D : List Nat) (u : Value) (w : World) (hG : GoodS v D) (hu : Sl w u (D.map Int.ofNat)) :
    Calls Tryd.prog 7 #[.int .i64 (v : Int), u] w fun e w' => e = .returned (.tuple #[.int .i64 (lvL v D : Int), .int .i64 (lvE v D : Int)]) ∧ Below w.heap.size w w' := by
  have HC : Hid (Calls Tryd.prog 21 #[.int .i64 (v : Int), u] w fun e w' => e = .returned (.int .i64 0) ∧ Below w.heap.size w w') := by
    have := CheckS_any (v : Int) _ u w hu (by unfold maxLen; rw [List.length_map]; have := hG.len; have := hG.le; omega)
    rw [sF_of hG] at this
    exact this
  have HD : Hid (∀ W, Below w.heap.size w W → Calls Tryd.prog 22 #[.int .i64 (v : Int), u] W fun e w' => ∃ (B m : Nat) (X : DataW Unit), e = .returned (.map (some B)) ∧ W.heap.size ≤ B ∧ w'.ownsMap Tryd.prog 3 (plainElem Tryd.prog 3) B m X ∧ TallyIs X (cntT (dfL v D D)) 61 ∧ Below W.heap.size W w') := fun W b => differences_any v D u W hG (hu.below b)
  have HNo : Hid (∀ s, 2 ≤ s → s < v → dfN v D s ≠ dfN v D 1 → lvL v D = 0 ∧ lvE v D = 4) := fun s h1 h2 h3 => lv_no h1 h2 h3
  have HY : Hid ((∀ s, 2 ≤ s → s < v → dfN v D s = dfN v D 1) → lvL v D = dfN v D 1 ∧ lvE v D = 0) := lv_yes
  have HLe : Hid (∀ c, dfN v D c ≤ 60 * 60) := dfN_le hG
  have HLk : Hid (∀ (X : DataW Unit) (k : Nat) (c : Int), k < 61 → TallyIs X (cntT (dfL v D D)) 61 → X.atKey (.int .i64 (k : Int)) (.lit (.int .i64 0)) = .lit (.int .i64 c) → c = (dfN v D k : Int)) := fun X k c hk h hat => h.look hk hat
  obtain ⟨l, Hl⟩ : ∃ l, Hid (lvL v D = l) := ⟨_, rfl⟩
  obtain ⟨g, Hg⟩ : ∃ g, Hid (lvE v D = g) := ⟨_, rfl⟩
  rw [Hl.out, Hg.out] at HNo HY ⊢
  have h1 := hG.pos
  have h60 := hG.le
  obtain ⟨a, ca, rfl, _⟩ := sl_at hu
  obtain ⟨t1, Ht1⟩ : ∃ t1, Hid (dfN v D 1 = t1) := ⟨_, rfl⟩
  have ht1 := HLe.out 1
  rw [Ht1.out] at HNo HY ht1
  clear hu hG
  go_enter Tryd.func7, Tryd.ntmps7
  go_wp2_with (first
    | (go_at_call 21; refine HC.out.mono ?_; rintro e w1 ⟨rfl, hb1⟩; clear HC)
    | (go_at_call 22; refine (HD.out _ hb1).mono ?_; rintro e w2 ⟨B, m, X, rfl, hBB, hown0, HT, hb2⟩; clear HD)
    | go_in)
  have HB2 : Hid (Below w.heap.size w w2) := hb1.trans (hb2.mono hb1.size)
  have HTX : Hid (TallyIs X (cntT (dfL v D D)) 61) := HT
  have HK1 : Hid (∀ c, X.atKey (.int .i64 1) (.lit (.int .i64 0)) = .lit (.int .i64 c) → c = (t1 : Int)) := fun c hat => by rw [← Ht1.out]; exact HLk.out X 1 c (by omega) HTX.out hat
  clear HT hb1 hb2 hBB
  go_loopw [8] (fun dv wr => ∃ d : Nat, dv = .int .i64 (d : Int) ∧ 2 ≤ d ∧ (d ≤ v ∨ d = 2) ∧ Hid (∀ s, 2 ≤ s → s < d → s < v → dfN v D s = t1) ∧ wr = w2) (fun dv _ => (v - intOf dv).toNat)
  case atStart => exact ⟨2, rfl, by omega, .inr rfl, (show ∀ s, 2 ≤ s → s < 2 → s < v → _ from fun s h1 h2 => by omega), rfl⟩
  case round =>
    obtain ⟨d, rfl, hd2, hdv, HI, rfl⟩ := hrel
    by_cases hlt : d < v
    · have hdi : (d : Int) < (v : Int) := by omega
      have hdec : decide ((d : Int) < (v : Int)) = true := by simp; omega
      obtain ⟨td, Htd⟩ : ∃ td, Hid (dfN v D d = td) := ⟨_, rfl⟩
      have hHN := HNo.out d hd2 hlt
      rw [Htd.out] at hHN
      have htd := HLe.out d
      rw [Htd.out] at htd
      have HKd : Hid (∀ c, X.atKey (.int .i64 (d : Int)) (.lit (.int .i64 0)) = .lit (.int .i64 c) → c = (td : Int)) := fun c hat => by rw [← Htd.out]; exact HLk.out X d c (by omega) HTX.out hat
      by_cases e : td = t1
      · subst e
        have HI2 : Hid (∀ s, 2 ≤ s → s < d + 1 → s < v → dfN v D s = td) := fun s h1 h2 h3 => by
          by_cases e : s = d
          · subst e; exact Htd.out
          · exact HI.out s h1 (by omega) h3
        clear HI hHN HNo HY HLe HLk
        go_wp2_with (first
          | (at_lookup; refine wpList_lookup_own_int _ rfl _ _ 62 rfl 3 3 .i64 law3 undM und3 (zero3 _) B m _ rfl hown0 _ _ rfl (keyOf_int_mk und3 (WalkArith.wf_i64 (by omega))) ?_; intro c hat hwc; (first | (obtain rfl := HKd.out c hat; clear HKd hat hwc) | (obtain rfl := HK1.out c hat; clear hat hwc)))
          | go_in)
        go_roundw
        case rel => exact ⟨d + 1, by go_num, by omega, .inl (by omega), HI2, by first | rfl | trivial⟩
        case measure => simp [intOf]; omega
      · obtain ⟨rfl, rfl⟩ := hHN e
        have e1 : ¬ (td : Int) = (t1 : Int) := by omega
        have e2 : ((td : Int) != (t1 : Int)) = true := by simpa using e1
        clear HI HNo HY HLe HLk
        go_wp2_with (first
          | (at_lookup; refine wpList_lookup_own_int _ rfl _ _ 62 rfl 3 3 .i64 law3 undM und3 (zero3 _) B m _ rfl hown0 _ _ rfl (keyOf_int_mk und3 (WalkArith.wf_i64 (by omega))) ?_; intro c hat hwc; (first | (obtain rfl := HKd.out c hat; clear HKd hat hwc) | (obtain rfl := HK1.out c hat; clear hat hwc)))
          | go_in)
        go_ret2
        exact ⟨rfl, HB2.out⟩
    · have hdec : decide ((d : Int) < (v : Int)) = false := by simp; omega
      obtain ⟨rfl, rfl⟩ := HY.out fun s h2 h3 => HI.out s h2 (by omega) h3
      clear HI HNo HY HLe HLk
      go_wp2_with (first
        | (at_lookup; refine wpList_lookup_own_int _ rfl _ _ 62 rfl 3 3 .i64 law3 undM und3 (zero3 _) B m _ rfl hown0 _ _ rfl (keyOf_int_mk und3 (WalkArith.wf_i64 (by omega))) ?_; intro c hat hwc; (obtain rfl := HK1.out c hat; clear hat hwc))
        | go_in)
      go_ret2
      exact ⟨rfl, HB2.out⟩
/-- What Level answers at all. -/
theorem LevelS_any (p : Int) (b : List Int) (u : Value) (w : World) (hu : Sl w u b) (hbl : b.length ≤ maxLen) :
    Calls Tryd.prog 7 #[.int .i64 p, u] w fun e w' => ((sF p b ≠ 0 ∧ e = .returned (.tuple #[.int .i64 0, .int .i64 (sF p b : Int)])) ∨ ∃ (v : Nat) (D : List Nat), p = v ∧ b = D.map Int.ofNat ∧ GoodS v D ∧ e = .returned (.tuple #[.int .i64 (lvL v D : Int), .int .i64 (lvE v D : Int)])) ∧ Below w.heap.size w w' := by
  by_cases hz : sF p b = 0
  · obtain ⟨v, D, rfl, rfl, hG⟩ := sF_good hz
    refine (Level_main' v D u w hG hu).mono ?_
    rintro e w' ⟨rfl, hb⟩
    exact ⟨.inr ⟨v, D, rfl, rfl, hG, rfl⟩, hb⟩
  · have hform : ∃ a c, u = .slice a b.length c := by obtain ⟨a, c, rfl, _⟩ := hu; exact ⟨a, c, rfl⟩
    refine (Level_bad' p b u w _ hz hform (CheckS_any p b u w hu hbl)).mono ?_
    rintro e w' ⟨rfl, hb⟩
    exact ⟨.inl ⟨hz, rfl⟩, hb⟩

end Go.Proofs.YtlmjlffipinjiabDoor
