/- The walk of firstCut. -/
import Derived.Test.YtnnopfdckillpaaDoorH7
namespace Go.Proofs.YtnnopfdckillpaaDoor
open Go.RowKit Go.Shelf Go.Maps

theorem sb_zero {K : List Nat} : sb K = 0 ↔ K = [] := by
  constructor
  · intro h
    cases K with
    | nil => rfl
    | cons x K =>
      have := sb_bit (x :: K) x
      rw [h, Nat.zero_testBit] at this
      simp at this
  · rintro rfl; rfl
theorem fit_congr {v : Nat} {D E : Nat → Bool} {b : List Nat} (h : ∀ x, x < v → D x = E x) (hb : ∀ x ∈ b, x < v) : fitD D b = fitD E b := by
  rw [Bool.eq_iff_iff, fitD_iff, fitD_iff]
  exact ⟨fun ⟨h1, h2⟩ => ⟨h1, fun x hx => (h x (hb x hx)).symm.trans (h2 x hx)⟩, fun ⟨h1, h2⟩ => ⟨h1, fun x hx => (h x (hb x hx)).trans (h2 x hx)⟩⟩
theorem full_congr {v : Nat} {D E : Nat → Bool} (h : ∀ x, x < v → D x = E x) : fullD v D = fullD v E := by
  rw [Bool.eq_iff_iff, fullD_iff, fullD_iff]
  exact ⟨fun g x hx => (h x hx).symm.trans (g x hx), fun g x hx => (h x hx).trans (g x hx)⟩
theorem add_congr {v : Nat} {D E : Nat → Bool} (b : List Nat) (h : ∀ x, x < v → D x = E x) : ∀ x, x < v → addD D b x = addD E b x := fun x hx => by
  unfold addD; rw [h x hx]
theorem cc_congr {v : Nat} : ∀ {B : List (List Nat)} {D E : Nat → Bool}, Bls v B → (∀ x, x < v → D x = E x) → ccB v B D = ccB v B E
  | [], D, E, _, h => full_congr h
  | b :: B, D, E, hB, h => by
    have hB' : Bls v B := fun c hc => hB c (by simp [hc])
    show ((fitD D b && ccB v B (addD D b)) || ccB v B D) = ((fitD E b && ccB v B (addD E b)) || ccB v B E)
    rw [fit_congr h (hB b (by simp)).lt, cc_congr hB' (add_congr b h), cc_congr hB' h]
theorem fc_congr {v : Nat} : ∀ {B : List (List Nat)} {i : Nat} {D E : Nat → Bool}, Bls v B → (∀ x, x < v → D x = E x) → fcB v B i D = fcB v B i E
  | [], i, D, E, _, h => by unfold fcB; rw [full_congr h]
  | b :: B, i, D, E, hB, h => by
    have hB' : Bls v B := fun c hc => hB c (by simp [hc])
    show (if (fitD D b && ccB v B (addD D b)) = true then (fcB v B (i + 1) (addD D b)).map (i :: ·) else fcB v B (i + 1) D) = (if (fitD E b && ccB v B (addD E b)) = true then (fcB v B (i + 1) (addD E b)).map (i :: ·) else fcB v B (i + 1) E)
    rw [fit_congr h (hB b (by simp)).lt, cc_congr hB' (add_congr b h), fc_congr hB' (add_congr b h), fc_congr hB' h]
/-- Where the search stands. -/
def FcI (v : Nat) (B : List (List Nat)) (D0 : Nat → Bool) (i : Nat) (D : Nat → Bool) (l : List Nat) : Prop := NoUse v B i D ∧ fcB v B 0 D0 = (fcB v (B.drop i) i D).map (l ++ ·)
theorem FcI.zero (v : Nat) (B : List (List Nat)) (D0 : Nat → Bool) : FcI v B D0 0 D0 [] := ⟨NoUse.zero v B D0, by
  rw [List.drop_zero]
  cases fcB v B 0 D0 <;> rfl⟩
theorem FcI.take {v i : Nat} {B : List (List Nat)} {D0 D : Nat → Bool} {l : List Nat} (h : FcI v B D0 i D l) (hB : Bls v B) (hi : i < B.length) (hf : fitD D (B.getD i []) = true) (hc : ccB v B (addD D (B.getD i [])) = true) : FcI v B D0 (i + 1) (addD D (B.getD i [])) (l ++ [i]) := by
  refine ⟨h.1.take hB hi hf, ?_⟩
  rw [h.2, fc_step hB h.1 hi, if_pos (by rw [hf, hc]; rfl), Option.map_map]
  cases fcB v (B.drop (i + 1)) (i + 1) (addD D (B.getD i [])) with
  | none => rfl
  | some r => simp
theorem FcI.pass {v i : Nat} {B : List (List Nat)} {D0 D : Nat → Bool} {l : List Nat} (h : FcI v B D0 i D l) (hB : Bls v B) (hi : i < B.length) (hn : ¬ (fitD D (B.getD i []) = true ∧ ccB v B (addD D (B.getD i [])) = true)) : FcI v B D0 (i + 1) D l := by
  refine ⟨h.1.pass hn, ?_⟩
  rw [h.2, fc_step hB h.1 hi, if_neg (by rw [Bool.and_eq_true]; exact hn)]
theorem FcI.end {v : Nat} {B : List (List Nat)} {D0 D : Nat → Bool} {l : List Nat} (h : FcI v B D0 B.length D l) (hc : ccB v B D0 = true) : fcB v B 0 D0 = some l := by
  have h1 := h.2
  rw [List.drop_length] at h1
  have h2 : (fcB v B 0 D0).isSome = true := by rw [fcB_some]; exact hc
  rw [h1] at h2 ⊢
  unfold fcB at h2 ⊢
  by_cases e : fullD v D = true
  · rw [if_pos e]; simp
  · rw [if_neg e] at h2; simp at h2
theorem StI.grown {v mb n : Nat} {B : List (List Nat)} {D : DataW Unit} {w w' : World} {row : Option Nat} (h : StI v mb n B D w) (g : w.grownBy w' row) (hr : some mb ≠ row) : StI v mb n B D w' := ⟨h.own.kept g hr, h.cnt, h.stuck⟩

set_option maxRecDepth 100000 in
set_option maxHeartbeats 4000000 in
theorem firstCut_any (v : Nat) (B : List (List Nat)) (G : GoodD v B) (hv : v ≤ 15) (u : Value) (w : World) (hT : Tab w) (hu : SC w u (B.map sb)) :
    Calls Tryd.prog 36 #[.int .u64 ((2 ^ v - 1 : Nat) : Int), u] w fun e w' => ((fcB v B 0 (dn (2 ^ v - 1)) = none ∧ e = .returned (.tuple #[.slice none 0 0, .bool false])) ∨ ∃ l x, fcB v B 0 (dn (2 ^ v - 1)) = some l ∧ e = .returned (.tuple #[x, .bool true]) ∧ w'.ownsRow (w.heap.size + 2) 3 1 x l.length ((l.map Int.ofNat).map (Value.int .i64))) ∧ Below w.heap.size w w' := by
  have hp15 : (2 : Nat) ^ v ≤ 32768 := Nat.pow_le_pow_right (n := 2) (by decide) hv
  have hL : 2 ^ v - 1 < 2 ^ v := by have := Nat.pos_of_ne_zero (show 2 ^ v ≠ 0 by simp); omega
  obtain ⟨a, cap, rfl, hcap, hcm, hc⟩ := hu
  rw [List.length_map] at hc hcap ⊢
  have hmm := @run_makeMap Tryd.prog
  obtain ⟨i3, hi3, hz0, hz1, hz2⟩ := info3
  obtain ⟨w0, Hw0⟩ : ∃ w0, Hid (w0 = (w.alloc (.map #[] 0)).alloc (.cells #[.slice a B.length cap, .map (some w.heap.size)] 75)) := ⟨_, rfl⟩
  have hs0 : w0.heap.size = w.heap.size + 2 := by rw [Hw0.out]; simp
  have hb0 : Below w.heap.size w w0 := by rw [Hw0.out]; exact Below.next ((Below.refl _ _).alloc (Nat.le_refl _) _) (balloc _ _)
  have hX0 : CX B (w.heap.size + 1) w.heap.size a cap w0 := by
    refine ⟨hT.next hb0, by have := hT.pos; omega, by omega, ?_, fun j hj => ?_⟩
    · have := heap_alloc_new (w.alloc (.map #[] 0)) (.cells #[.slice a B.length cap, .map (some w.heap.size)] 75)
      rw [World.size_alloc] at this
      rw [Hw0.out]; exact this
    · obtain ⟨g, off, e, h⟩ := hc j hj
      have h1 := h w (Below.refl _ _)
      have hlt : g < w.heap.size := World.block_lt_of_cell? _ _ h1
      refine ⟨g, off, e, by omega, ?_⟩
      rw [h w0 hb0, List.getD_eq_getElem?_getD, List.getElem?_map, List.getElem?_eq_getElem hj, List.getD_eq_getElem?_getD, List.getElem?_eq_getElem hj]
      rfl
  have hS0 : StI v w.heap.size 0 B (.map []) w0 := by
    refine ⟨?_, Nat.zero_le _, fun m _ h => by simp [hasS, Maps.has] at h⟩
    rw [Hw0.out]
    exact (World.ownsMap_made w Tryd.prog 46 (unitElem (H := Unit))).alloc _
  have C1 := cuts_any v B G hv (w.heap.size + 1) w.heap.size a cap (2 ^ v - 1 + 1) (2 ^ v - 1) 0 (.map []) w0 (by omega) hL hX0 hS0
  have HX : Hid (∀ W, w0.grownBy W (some w.heap.size) → CX B (w.heap.size + 1) w.heap.size a cap W) := fun W hW => hX0.grown hW
  have HCU : Hid (∀ (L n : Nat) (D : DataW Unit) (W : World), L < 2 ^ v → CX B (w.heap.size + 1) w.heap.size a cap W → StI v w.heap.size n B D W → Calls Tryd.prog 46 #[.pointer (some ⟨w.heap.size + 1, 0, none⟩), .int .u64 (L : Int)] W fun e w' => e = .returned (.bool (ccB v B (dn L))) ∧ (∃ n' D', StI v w.heap.size n' B D' w' ∧ ∀ m, L < m → hasS D' m = hasS D m) ∧ W.grownBy w' (some w.heap.size)) := fun L n D W h1 h2 h3 => cuts_any v B G hv (w.heap.size + 1) w.heap.size a cap (L + 1) L n D W (by omega) h1 h2 h3
  have HBW : Hid (∀ W, w0.grownBy W (some w.heap.size) → Below w.heap.size w W) := fun W hW => ⟨hW.os.trans hb0.os, hW.tape.trans hb0.tape, hW.output.trans hb0.output, Nat.le_trans hb0.size hW.size, fun k hk => (hW.block k (by omega) (by simp; omega)).trans (hb0.block k hk)⟩
  have HBls : Hid (Bls v B) := G.bls
  have h200 := G.few
  have HB64 : Hid (∀ i, i < B.length → ∀ x ∈ B.getD i [], x < 64) := fun i hi x hx => by
    have hm : B.getD i [] ∈ B := by rw [List.getD_eq_getElem?_getD, List.getElem?_eq_getElem hi]; exact List.getElem_mem hi
    have := (G.bls _ hm).lt x hx
    omega
  have HSN : Hid ((fcB v B 0 (dn (2 ^ v - 1))).isSome = ccB v B (dn (2 ^ v - 1))) := fcB_some
  have HFE : Hid (∀ D l, FcI v B (dn (2 ^ v - 1)) B.length D l → ccB v B (dn (2 ^ v - 1)) = true → fcB v B 0 (dn (2 ^ v - 1)) = some l) := fun D l h1 h2 => h1.end h2
  have HF0 : Hid (FcI v B (dn (2 ^ v - 1)) 0 (dn (2 ^ v - 1)) []) := FcI.zero _ _ _
  have HSW : Hid (∀ i L, i < B.length → L < 2 ^ v → (an (sb (B.getD i [])) L = 0 ↔ ∀ x ∈ B.getD i [], dn L x = false) ∧ dn (an L (sb (B.getD i []))) = addD (dn L) (B.getD i []) ∧ (sb (B.getD i []) = 0 ↔ B.getD i [] = []) ∧ sb (B.getD i []) < 2 ^ 64) := fun i L hi hL => ⟨within_dn (by omega) (HB64.out i hi), dn_add (by omega) (HB64.out i hi), sb_zero, sb_lt (HB64.out i hi)⟩
  obtain ⟨D0, HD0⟩ : ∃ D0, Hid (dn (2 ^ v - 1) = D0) := ⟨_, rfl⟩
  rw [HD0.out] at C1 HSN HFE HF0 ⊢
  obtain ⟨F, HFF⟩ : ∃ F, Hid (fcB v B 0 D0 = F) := ⟨_, rfl⟩
  rw [HFF.out] at HSN HFE ⊢
  obtain ⟨r, Hr⟩ : ∃ r, Hid (ccB v B D0 = r) := ⟨_, rfl⟩
  rw [Hr.out] at C1 HSN HFE
  have HDL : Hid (D0 = dn (2 ^ v - 1)) := HD0.out.symm
  obtain ⟨L0, HL0⟩ : ∃ L0, Hid (2 ^ v - 1 = L0) := ⟨_, (rfl : 2 ^ v - 1 = 2 ^ v - 1)⟩
  rw [HL0.out] at C1 HDL hL ⊢
  have hS0' : Hid (w0.heap.size = w.heap.size + 2) := hs0
  rw [← hs0]
  generalize hBn : B.length = bn at *
  clear hX0 hS0 hc hb0 HB64 HD0 hcap hcm hs0
  cases r with
  | false =>
    have hFn : F = none := by have := HSN.out; cases F with | none => rfl | some x => simp at this
    go_enter Tryd.func36, Tryd.ntmps36
    go_wp2_with (go_at_call 46; rw [← Hw0.out]; refine C1.mono ?_; rintro e w1 ⟨rfl, _, hg⟩; clear C1)
    exact bodyPost_ret (v := .tuple #[.slice none 0 0, .bool false]) (by simp [results, Tryd.results36, go_sem]) rfl ⟨.inl ⟨hFn, rfl⟩, HBW.out _ hg⟩
  | true =>
    go_enter Tryd.func36, Tryd.ntmps36
    go_wp2_with (go_at_call 46; rw [← Hw0.out]; refine C1.mono ?_; rintro e w1 ⟨rfl, ⟨n1, D1, hS1, _⟩, hg1⟩; clear C1; have HS1 : Hid (StI v w.heap.size n1 B D1 w1) := hS1; clear hS1)
    go_loopw [0, 7, 20] (fun lv ov iv wr => ∃ (i L n' : Nat) (D' : DataW Unit) (l : List Nat), iv = .int .i64 (i : Int) ∧ lv = .int .u64 (L : Int) ∧ i ≤ bn ∧ L < 2 ^ v ∧ Hid (StI v w.heap.size n' B D' wr) ∧ wr.ownsRow w0.heap.size 3 1 ov l.length ((l.map Int.ofNat).map (Value.int .i64)) ∧ l.length ≤ i ∧ w0.grownBy wr (some w.heap.size) ∧ Hid (FcI v B D0 i (dn L) l)) (fun _ _ iv _ => (bn - intOf iv).toNat)
    case atStart => exact ⟨0, L0, n1, D1, [], rfl, rfl, by omega, hL, HS1, World.ownsRow_nil _ _ _ _, by simp, hg1, by show FcI _ _ _ _ _ _; rw [← HDL.out]; exact HF0.out⟩
    case round =>
      clear HS1 hg1
      obtain ⟨i, L, n', D', l, rfl, rfl, hi, hLv, HSI, hown, hll, hg, HFI⟩ := hrel
      have HXr := HX.out _ hg
      by_cases hlt : i < bn
      · have hd : decide ((i : Int) < (bn : Int)) = true := by simp; omega
        have hii : (i : Int) < (bn : Int) := by omega
        obtain ⟨gg, off, rfl, -, hci⟩ := HXr.bc i (by omega)
        obtain ⟨q1, q2, q3, q4⟩ := HSW.out i L hlt hLv
        have HXR : Hid (CX B (w.heap.size + 1) w.heap.size (some ⟨gg, off, none⟩) cap wr) := HXr
        clear HXr
        have hPass : ¬ (fitD (dn L) (B.getD i []) = true ∧ ccB v B (addD (dn L) (B.getD i [])) = true) → FcI v B D0 (i + 1) (dn L) l := fun h => HFI.out.pass HBls.out (by omega) h
        have HPA : Hid (¬ (fitD (dn L) (B.getD i []) = true ∧ ccB v B (addD (dn L) (B.getD i [])) = true) → FcI v B D0 (i + 1) (dn L) l) := hPass
        have HTA : Hid (fitD (dn L) (B.getD i []) = true → ccB v B (addD (dn L) (B.getD i [])) = true → FcI v B D0 (i + 1) (addD (dn L) (B.getD i [])) (l ++ [i])) := fun h1 h2 => HFI.out.take HBls.out (by omega) h1 h2
        obtain ⟨y, Hy⟩ : ∃ y, Hid (sb (B.getD i []) = y) := ⟨_, rfl⟩
        rw [Hy.out] at hci q1 q2 q3 q4
        have HQ1 : Hid (an y L = 0 ↔ ∀ x ∈ B.getD i [], dn L x = false) := q1
        have HQ3 : Hid (y = 0 ↔ B.getD i [] = []) := q3
        have hL64 : L < 2 ^ 64 := by omega
        clear q1 q3 hPass
        by_cases hy0 : y = 0
        · have hd0 : ((y : Int) != 0) = false := by simp [hy0]
          have HFI2 : Hid (FcI v B D0 (i + 1) (dn L) l) := HPA.out fun ⟨h1, _⟩ => (fitD_iff.1 h1).1 (HQ3.out.1 hy0)
          clear hy0 HFI q2
          go_wp2
          go_roundw
          case rel => exact ⟨i + 1, L, n', D', l, by go_num, rfl, by omega, hLv, HSI, hown, by omega, hg, HFI2⟩
          case measure => simp [intOf]; omega
        · have hd0 : ((y : Int) != 0) = true := by simp; omega
          by_cases hw0 : an y L = 0
          · have CWi := within_any y L true q4 hL64 (decide_eq_true hw0) wr
            have HWo : Hid (∀ W, Calls Tryd.prog 26 #[.int .u64 (L : Int), .int .u64 (y : Int)] W fun e w' => e = .returned (.int .u64 ((an L y : Nat) : Int)) ∧ w' = W) := fun W => without_any L y hL64 q4 W
            have hfit : fitD (dn L) (B.getD i []) = true := fitD_iff.2 ⟨fun e => hy0 (HQ3.out.2 e), HQ1.out.1 hw0⟩
            have hle := an_le L y
            have CR := HCU.out (an L y) n' D' wr (by omega) HXR.out HSI.out
            have hTk := HTA.out hfit
            have hPs : ccB v B (dn (an L y)) = false → FcI v B D0 (i + 1) (dn L) l := fun h => HPA.out fun ⟨_, h2⟩ => by rw [← q2] at h2; rw [h2] at h; cases h
            rw [← q2] at hTk
            obtain ⟨L', HL'⟩ : ∃ L', Hid (an L y = L') := ⟨_, rfl⟩
            rw [HL'.out] at CR HWo hTk hPs hle
            have hlv2 : L' < 2 ^ v := by omega
            cases hr : ccB v B (dn L') with
            | false =>
              rw [hr] at CR
              have HFI2 : Hid (FcI v B D0 (i + 1) (dn L) l) := hPs hr
              clear hr hTk hPs hw0 hy0 hfit q2
              go_wp2_with (first
                | (go_at_call 47; refine CWi.mono ?_; rintro e w4 ⟨rfl, hw4⟩; replace hw4 := hw4.symm; subst hw4; clear CWi)
                | (go_at_call 26; refine (HWo.out _).mono ?_; rintro e w4 ⟨rfl, hw4⟩; replace hw4 := hw4.symm; subst hw4)
                | (go_at_call 46; refine CR.mono ?_; rintro e w5 ⟨rfl, ⟨n5, D5, hS5, _⟩, hg5⟩; clear CR; have hown5 := own_keep hown fun b hb hb2 => hg5.block b hb2 (by have := hS0'.out; simp; omega)))
              go_roundw
              case rel => exact ⟨i + 1, L, n5, D5, l, by go_num, rfl, by omega, hLv, hS5, hown5, by omega, hg.trans hg5, HFI2⟩
              case measure => simp [intOf]; omega
            | true =>
              rw [hr] at CR
              have HFI2 : Hid (FcI v B D0 (i + 1) (dn L') (l ++ [i])) := hTk hr
              clear hr hTk hPs hw0 hy0 hfit q2
              obtain ⟨kl, Hk⟩ : ∃ kl, Hid (l.length = kl) := ⟨_, rfl⟩
              rw [Hk.out] at hown hll
              go_wp2_with (first
                | (go_at_call 47; refine CWi.mono ?_; rintro e w4 ⟨rfl, hw4⟩; replace hw4 := hw4.symm; subst hw4; clear CWi)
                | (go_at_call 26; refine (HWo.out _).mono ?_; rintro e w4 ⟨rfl, hw4⟩; replace hw4 := hw4.symm; subst hw4)
                | (go_at_call 46; refine CR.mono ?_; rintro e w5 ⟨rfl, ⟨n5, D5, hS5, _⟩, hg5⟩; clear CR; have hown5 := own_keep hown fun b hb hb2 => hg5.block b hb2 (by have := hS0'.out; simp; omega); have hsz5 := hg5.size; have hgg5 := hg.trans hg5; have hsz0 := hgg5.size)
                | (at_builtin; refine wpList_append_own _ rfl _ _ 33 rfl w0.heap.size 3 i3 (.int .i64 0) 1 8 und22 hi3 hz0 hz1 hz2 rfl (by decide) _ _ _ rfl (hown5.alloc _) ⟨w5.heap.size, 0, none⟩ 1 1 [.int .i64 (i : Int)] rfl rfl ?c1 ?c2 ?c3 ?c4 ?c5 ?_)
                | go_in)
              case c1 =>
                intro j u hj
                match j, hj with
                | 0, hj => simp at hj; subst hj; simp [Addr.add]
              case c2 => intro u hu; simp at hu; subst hu; rfl
              case c3 => unfold maxLen; omega
              case c4 => omega
              case c5 => simp; omega
              · intro v' w9 hown' hgrow _
                have hg9 : w0.grownBy w9 (some w.heap.size) := (grown_al hgg5 _).andThen hgrow (fun j hj => .inl (hown5.lt j hj).1)
                have hS9 : StI v w.heap.size n5 B D5 w9 := (hS5.grown (World.grownBy_alloc w5 _ none) (by simp)).grown hgrow (fun e => by have := (hown5.lt _ e.symm).1; have := hS0'.out; omega)
                have HS9 : Hid (StI v w.heap.size n5 B D5 w9) := hS9
                clear hS5 hS9 hown5
                go_wp2_with (go_at_call 26; refine (HWo.out _).mono ?_; rintro e w4 ⟨rfl, hw4⟩; replace hw4 := hw4.symm; subst hw4)
                go_roundw
                case rel => exact ⟨i + 1, L', n5, D5, l ++ [i], by go_num, rfl, by omega, hlv2, HS9, by simpa [Hk.out] using hown', by rw [List.length_append, Hk.out]; simp; omega, hg9, HFI2⟩
                case measure => simp [intOf]; omega
          · have CWi := within_any y L false q4 hL64 (decide_eq_false hw0) wr
            have HFI2 : Hid (FcI v B D0 (i + 1) (dn L) l) := HPA.out fun ⟨h1, _⟩ => hw0 (HQ1.out.2 (fitD_iff.1 h1).2)
            clear hw0 hy0 HFI q2
            go_wp2_with (go_at_call 47; refine CWi.mono ?_; rintro e w4 ⟨rfl, hw4⟩; replace hw4 := hw4.symm; subst hw4; clear CWi)
            go_roundw
            case rel => exact ⟨i + 1, L, n', D', l, by go_num, rfl, by omega, hLv, HSI, hown, by omega, hg, HFI2⟩
            case measure => simp [intOf]; omega
      · have hd : decide ((i : Int) < (bn : Int)) = false := by simp; omega
        obtain rfl : i = bn := by omega
        have hFs := HFE.out _ _ HFI.out (by first | rfl | trivial)
        obtain ⟨ra, rc, er⟩ := own_form hown
        subst er
        clear HFI HSI
        go_wp2
        exact bodyPost_ret (v := .tuple #[.slice ra l.length rc, .bool true]) (by simp [results, Tryd.results36, go_sem]) rfl ⟨.inr ⟨l, _, hFs, rfl, hown⟩, HBW.out _ hg⟩

end Go.Proofs.YtnnopfdckillpaaDoor
