/- The document's ChainsOf, walked. -/
import Derived.Test.YtmogmkdcplgfjaaV9
import Derived.Test.YtmogmkdcplgfjaaDLi
import Derived.Deep.LoopGhost
namespace Go.Proofs.Ytmogmkdcplgfjaa
open Go.RowKit

/-- What comes behind a set, while brackets are alone; none if it takes too long. -/
def chO (n : Nat) : Nat → Nat → Option (List Nat)
  | 0, t => match (alS t n).2 with
    | [] => some []
    | _ :: _ => none
  | f + 1, t => match (alS t n).2 with
    | [] => some []
    | a :: _ => if t + 2 ^ a < 2 ^ n then match chO n f (t + 2 ^ a) with
      | none => none
      | some R => some ((t + 2 ^ a) :: R)
      else none
theorem chO_nil {n f t : Nat} {R : List Nat} (h : chO n f t = some R) (e : (alS t n).2 = []) : R = [] := by
  cases f with
  | zero => unfold chO at h; rw [e] at h; exact (Option.some.inj h).symm
  | succ f => unfold chO at h; rw [e] at h; exact (Option.some.inj h).symm
theorem chO_more {n f t a : Nat} {O R : List Nat} (h : chO n f t = some R) (e : (alS t n).2 = a :: O) : ∃ g R', f = g + 1 ∧ t + 2 ^ a < 2 ^ n ∧ chO n g (t + 2 ^ a) = some R' ∧ R = (t + 2 ^ a) :: R' := by
  cases f with
  | zero => unfold chO at h; rw [e] at h; cases h
  | succ f =>
    unfold chO at h
    rw [e] at h
    by_cases hl : t + 2 ^ a < 2 ^ n
    · simp only [if_pos hl] at h
      cases hc : chO n f (t + 2 ^ a) with
      | none => simp only [hc] at h; cases h
      | some R' =>
        simp only [hc] at h
        exact ⟨f, R', rfl, hl, hc, (Option.some.inj h).symm⟩
    · simp only [if_neg hl] at h; cases h
theorem chO_len {n : Nat} : ∀ {f t : Nat} {R : List Nat}, chO n f t = some R → R.length ≤ f
  | f, t, R, h => by
    cases e : (alS t n).2 with
    | nil => rw [chO_nil h e]; exact Nat.zero_le _
    | cons a O =>
      obtain ⟨g, R', rfl, -, h1, rfl⟩ := chO_more h e
      exact Nat.succ_le_succ (chO_len h1)
termination_by f => f
/-- All chains from the sets below one. -/
def cnR (n : Nat) : Nat → List (List Nat)
  | 0 => []
  | s + 1 => if (alS s n).1 = 0 then cnR n s ++ [s :: (chO n n s).getD []] else cnR n s
theorem cnR_len (n : Nat) : ∀ s, (cnR n s).length ≤ s
  | 0 => Nat.le_refl _
  | s + 1 => by
    have := cnR_len n s
    unfold cnR
    split
    · rw [List.length_append]; exact Nat.succ_le_succ this
    · omega
set_option maxRecDepth 100000 in
theorem ch_all : (List.range 11).all (fun n => (List.range (2 ^ n)).all fun s => !((alS s n).1 == 0) || (chO n n s).isSome) = true := by decide +kernel
theorem ch_at {n s : Nat} (hn : n ≤ 10) (hs : s < 2 ^ n) (h : (alS s n).1 = 0) : ∃ R, chO n n s = some R := by
  have a := List.all_eq_true.1 (List.all_eq_true.1 ch_all n (List.mem_range.2 (by omega))) s (List.mem_range.2 hs)
  rw [h] at a
  exact Option.isSome_iff_exists.1 a
def chE (n : Int) : Nat := if n < 0 ∨ 10 < n then 1 else 0
def chR (n : Int) : List (List Nat) := if chE n = 0 then cnR n.toNat (2 ^ n.toNat) else []
theorem own_one (w : World) (s : Nat) : (w.alloc (.cells #[.int .i64 (s : Int)] 3)).ownsRow w.heap.size 3 1 (.slice (some ⟨w.heap.size, 0, none⟩) 1 1) 1 (nz [s]) :=
  ⟨rfl, .inr ⟨w.heap.size, 1, _, rfl, Nat.le_refl _, heap_alloc_new w _, Nat.le_refl _, by unfold maxLen; omega, rfl, rfl⟩⟩
set_option maxRecDepth 100000 in
set_option maxHeartbeats 16000000 in
theorem chains_in (n A : Nat) (w : World) (hn : n ≤ 10) (HA2 : Hid (2 ^ n = A)) :
    Calls Try.prog 28 #[.int .i64 (n : Int)] w fun e w' => (∃ y, e = .returned (.tuple #[y, .int .i64 0]) ∧ OR w' w.heap.size y (cnR n A)) ∧ Below w.heap.size w w' := by
  obtain ⟨i3, ki3, kz0, kz1, kz2⟩ := info3
  obtain ⟨i36, ji3, jz0, jz1, jz2⟩ := info36
  have eA : (1 : Int) * 2 ^ n = (A : Int) := by rw [Int.one_mul, ← HA2.out]; simp
  have hA12 : A ≤ 1024 := by rw [← HA2.out]; exact (Nat.pow_le_pow_right (by decide) hn : 2 ^ n ≤ 2 ^ 10)
  have hAw : IntKind.i64.wrap (A : Int) = (A : Int) := IntWalk.i64_in _ (by omega)
  have hd0 : decide ((n : Int) < 0) = false := by simp
  have hd1 : decide ((10 : Int) < (n : Int)) = false := by simp; omega
  have HAL : Hid (∀ (s : Nat) (W : World), s < 4096 → Calls Try.prog 48 #[.int .i64 (n : Int), .int .i64 (s : Int)] W fun e w' => (∃ y, e = .returned (.tuple #[.int .i64 ((alS s n).1 : Int), y]) ∧ Wd w' y (alS s n).2) ∧ Below W.heap.size W w') := fun s W hs => alone_any n s W (by omega) hs
  have HCH : Hid (∀ s, s < A → (alS s n).1 = 0 → ∃ R, chO n n s = some R) := fun s hs h => ch_at hn (by rw [HA2.out]; exact hs) h
  have HLE : Hid (∀ s, (cnR n s).length ≤ s) := cnR_len n
  have HMO : Hid (∀ f t a O R, chO n f t = some R → (alS t n).2 = a :: O → ∃ g R', f = g + 1 ∧ t + 2 ^ a < A ∧ chO n g (t + 2 ^ a) = some R' ∧ R = (t + 2 ^ a) :: R') := fun f t a O R h e => by
    rw [← HA2.out]; exact chO_more h e
  have HBL : Hid (∀ t a O, (alS t n).2 = a :: O → t + 2 ^ a < A → a ≤ 60) := fun t a O _ h => by
    rcases Nat.lt_or_ge 60 a with h2 | h2
    · have : 2 ^ 60 ≤ 2 ^ a := Nat.pow_le_pow_right (by decide) (by omega)
      omega
    · exact h2
  have HYE : Hid (∀ s R, (alS s n).1 = 0 → chO n n s = some R → cnR n (s + 1) = cnR n s ++ [s :: R]) := fun s R h1 h2 => by
    conv => lhs; unfold cnR
    rw [if_pos h1, h2]; rfl
  have HNO : Hid (∀ s, ¬ (alS s n).1 = 0 → cnR n (s + 1) = cnR n s) := fun s h => by
    conv => lhs; unfold cnR
    rw [if_neg h]
  go_enter Try.func28, Try.ntmps28
  go_wp2
  go_loopw [4, 5] (fun ov sv wr => ∃ (s k : Nat) (oa : Option Addr) (oc : Nat), sv = .int .i64 (s : Int) ∧ ov = .slice oa k oc ∧ Hid ((cnR n s).length = k) ∧ s ≤ A ∧ OR wr w.heap.size (.slice oa k oc) (cnR n s) ∧ Below w.heap.size w wr) (fun _ sv _ => (A - intOf sv).toNat)
  case atStart => exact ⟨0, 0, none, 0, rfl, rfl, rfl, by omega, OR.nil _ _, Below.refl _ _⟩
  case round =>
    obtain ⟨s, k, oa, oc, rfl, rfl, HK, hs, hO, hB⟩ := hrel
    by_cases hlt : s < A
    · have hds : decide (s < A) = true := by simpa using hlt
      have hds2 : decide ((s : Int) < (A : Int)) = true := by simp; omega
      have C := HAL.out s wr (by omega)
      have hno := HNO.out s
      have hks : k ≤ 1024 := by have := HK.out; have := HLE.out s; omega
      obtain ⟨c, hc⟩ : ∃ c, Hid ((alS s n).1 = c) := ⟨_, rfl⟩
      rw [hc.out] at C hno
      by_cases h0 : c = 0
      · subst h0
        obtain ⟨R, hR⟩ := HCH.out s hlt hc.out
        have HZ : Hid (cnR n (s + 1) = cnR n s ++ [s :: R]) := HYE.out s R hc.out hR
        have HR0 : Hid (chO n n s = some R) := hR
        have HRL : Hid (R.length ≤ 10) := Nat.le_trans (chO_len hR) hn
        clear hR hno
        go_wp2_with (go_at_call 48; refine C.mono ?_; rintro e wA ⟨⟨y, rfl, hy⟩, hbA⟩; clear C; have hOA := hO.below hbA; have hBA := Below.next hB hbA; have hcn := own_one wA s; have hbC := balloc wA (.cells #[.int .i64 (s : Int)] 3); have hy2 := hy.below hbC; obtain ⟨ya, ym, yc, rfl⟩ := hy.form)
        obtain ⟨gC, HgC⟩ : ∃ gC, Hid (wA.heap.size = gC) := ⟨_, rfl⟩
        have hgw : w.heap.size ≤ gC := by rw [← HgC.out]; exact hBA.size
        rw [HgC.out] at hcn hbC ⊢
        have HOA : Hid (∀ W, Below gC wA W → OR W w.heap.size (.slice oa k oc) (cnR n s)) := fun W b => hOA.below (by rw [HgC.out]; exact b)
        have HBA : Hid (∀ W, Below gC wA W → Below w.heap.size w W) := fun W b => Below.next hBA (by rw [HgC.out]; exact b)
        clear hO hB hOA hBA hbA hy
        go_loopg [7, 8, 9] n (fun f ov cv tv wr => ∃ (t : Nat) (O C R2 : List Nat) (ca : Option Addr) (cc : Nat), tv = .int .i64 (t : Int) ∧ cv = .slice ca C.length cc ∧ (∃ oa oc, ov = .slice oa O.length oc) ∧ Wd wr ov O ∧ Hid ((alS t n).2 = O) ∧ Hid (chO n f t = some R2) ∧ Hid (s :: R = C ++ R2) ∧ t < A ∧ wr.ownsRow gC 3 1 (.slice ca C.length cc) C.length (nz C) ∧ Below gC wA wr)
        case atStart => exact ⟨s, _, [s], R, some ⟨gC, 0, none⟩, 1, rfl, rfl, by obtain ⟨a', c', e', -⟩ := hy2; exact ⟨a', c', e'⟩, hy2, rfl, HR0.out, rfl, hlt, hcn, hbC⟩
        case round =>
          clear hcn hbC hy2
          obtain ⟨t, O, Cc, R2, ca, cc, rfl, rfl, ⟨pa, pc, rfl⟩, hW, HO, HR2, HZZ, ht, hown, hB⟩ := hrel
          have hCl : Cc.length ≤ 11 := by
            have := congrArg List.length HZZ.out
            rw [List.length_append, List.length_cons] at this
            have := HRL.out
            omega
          obtain ⟨kc, Hkc⟩ : ∃ kc, Hid (Cc.length = kc) := ⟨_, rfl⟩
          cases hOc : O with
          | nil =>
            subst hOc
            have HE : Hid (s :: R = Cc) := by show _ = _; rw [HZZ.out, chO_nil HR2.out HO.out, List.append_nil]
            rw [List.length_nil]
            have hO := HOA.out wr hB
            have hBw := HBA.out wr hB
            obtain ⟨vals, h1, h2'⟩ := hO
            have HH1 : Hid (wr.ownsRow w.heap.size 22 1 (.slice oa k oc) (cnR n s).length vals) := h1
            have HH2 : Hid (∀ (i_1 : Nat) (u : Value) (l : List Nat), vals[i_1]? = some u → (cnR n s)[i_1]? = some l → ORow wr w.heap.size u l) := h2'
            rw [HK.out] at h1
            have hrow : ORow wr w.heap.size (.slice ca Cc.length cc) Cc := own_up hown hgw
            have hbs := hBw.size
            rw [Hkc.out] at hrow hown hCl ⊢
            clear h2'
            go_wp2_with (first
              | (at_builtin; refine wpList_append_own _ rfl _ _ 41 rfl w.heap.size 22 i36 (.slice none 0 0) 1 24 undR ji3 jz0 jz1 jz2 rfl (by decide) _ _ _ rfl (h1.alloc _) ⟨wr.heap.size, 0, none⟩ 1 1 [.slice ca kc cc] rfl rfl ?c1 ?c2 ?c3 ?c4 ?c5 ?_)
              | go_in)
            case c1 =>
              intro j u hj
              match j, hj with
              | 0, hj => simp at hj; subst hj; simp [Addr.add]
            case c2 => intro u hu; simp at hu; subst hu; rfl
            case c3 => unfold maxLen; omega
            case c4 => omega
            case c5 => simp; omega
            intro v' w7 hown' hgrow _
            have hal := balloc wr (.cells #[.slice ca kc cc] 22)
            have hB2 : Below w.heap.size w w7 := (hBw.trans (hal.mono hbs)).grown hgrow (by simp; omega) (fun k hk => (h1.lt k hk).1)
            have hO2 : OR w7 w.heap.size v' (cnR n s ++ [Cc]) := OR.more (own_keep HH1.out fun b _ hb => hal.block b hb) (fun i_1 u l' e1 e2 => (HH2.out i_1 u l' e1 e2).below hal) (hrow.below hal) (by rw [HK.out]; exact hown') hgrow
            rw [← HE.out, ← HZ.out] at hO2
            obtain ⟨va, vc, rfl⟩ := own_form hown'
            have HK2 : Hid ((cnR n (s + 1)).length = k + 1) := by show _ = _; rw [HZ.out, List.length_append, HK.out]; rfl
            go_wp2
            go_roundw
            case rel => exact ⟨s + 1, k + 1, va, vc, by go_num, rfl, HK2, by omega, hO2, hB2⟩
            case measure => simp [intOf]; omega
          | cons a O' =>
            have hOa : (alS t n).2 = a :: O' := by rw [HO.out, hOc]
            obtain ⟨f, R3, hf, hlt3, hR3, hRe⟩ := HMO.out _ _ _ _ _ HR2.out hOa
            have ha60 := HBL.out t a O' hOa hlt3
            have HF : Hid (gk = f + 1) := hf
            obtain ⟨p, Hp⟩ : ∃ p, Hid ((2 ^ a : Nat) = p) := ⟨_, rfl⟩
            have ep : (1 : Int) * 2 ^ a = (p : Int) := by rw [Int.one_mul, ← Hp.out]; simp
            rw [Hp.out] at hlt3 hR3 hRe
            have HR3 : Hid (chO n f (t + p) = some R3) := hR3
            have HZ3 : Hid (s :: R = (Cc ++ [t + p]) ++ R3) := by show _ = _; rw [HZZ.out, hRe, List.append_assoc]; rfl
            subst hOc
            obtain ⟨pb, po, rfl, hcell⟩ : ∃ pb po, pa = some ⟨pb, po, none⟩ ∧ wr.cell? ⟨pb, po, none⟩ = some (.int .i64 (a : Int)) := by
              obtain ⟨a', c', e', -, hk'⟩ := hW
              obtain ⟨b', o', e2, e3⟩ := hk' 0 (Nat.succ_pos _)
              cases e'
              exact ⟨b', o', e2, by simpa using e3⟩
            have C2 := fun W => HAL.out (t + p) W (by omega)
            have hkO : ((a :: O').length : Int) = ((O'.length + 1 : Nat) : Int) := rfl
            obtain ⟨q, Hq⟩ : ∃ q, Hid ((a :: O').length = q) := ⟨_, rfl⟩
            have hq0 : 0 < q := by rw [← Hq.out]; exact Nat.succ_pos _
            have hdq : decide (0 < q) = true := by simpa using hq0
            have hqi : (0 : Int) < (q : Int) := by omega
            have hpw : IntKind.i64.wrap (p : Int) = (p : Int) := IntWalk.i64_in _ (by omega)
            have htw : IntKind.i64.wrap ((t : Int) + (p : Int)) = (t : Int) + (p : Int) := IntWalk.i64_in _ (by omega)
            have etp : ((t + p : Nat) : Int) = (t : Int) + (p : Int) := by omega
            rw [etp] at C2
            have hbs := hB.size
            have hpl : (Cc ++ [t + p]).length = kc + 1 := by rw [List.length_append, Hkc.out]; rfl
            rw [Hq.out]
            rw [Hkc.out] at hown hCl ⊢
            have hgcs : gC ≤ wr.heap.size := by have := HgC.out; omega
            clear hOa hf hR3 hRe hkO etp
            go_wp2_with (first
              | (at_builtin; refine wpList_append_own _ rfl _ _ 22 rfl gC 3 i3 (.int .i64 0) 1 8 und22 ki3 kz0 kz1 kz2 rfl (by decide) _ _ _ rfl (hown.alloc _) ⟨wr.heap.size, 0, none⟩ 1 1 [.int .i64 ((t : Int) + (p : Int))] rfl rfl ?c1 ?c2 ?c3 ?c4 ?c5 ?_)
              | go_in)
            case c1 =>
              intro j u hj
              match j, hj with
              | 0, hj => simp at hj; subst hj; simp [Addr.add]
            case c2 => intro u hu; simp at hu; subst hu; rfl
            case c3 => unfold maxLen; omega
            case c4 => omega
            case c5 => simp; omega
            intro v' w6 hown' hgrow _
            have hb6 : Below gC wA w6 := (hB.alloc hgcs _).grown hgrow (by simp; omega) (fun k hk => (hown.lt k hk).1)
            rw [show nz Cc ++ [Value.int .i64 ((t : Int) + (p : Int))] = nz (Cc ++ [t + p]) from (nz_more Cc (t + p)).symm] at hown'
            obtain ⟨xa, xc, rfl⟩ := own_form hown'
            go_wp2_with (go_at_call 48; refine (C2 _).mono ?_; rintro e w8 ⟨⟨y2, rfl, hy2⟩, hb8⟩; clear C2; have hown8 := own_keep hown' (fun b _ hb => hb8.block b hb); have hB8 : Below gC wA w8 := hb6.trans (hb8.mono (by have := hb6.size; have := HgC.out; omega)))
            go_roundg f
            case measure => have := HF.out; omega
            case rel => exact ⟨t + p, _, Cc ++ [t + p], R3, xa, xc, by go_num, by rw [hpl], by obtain ⟨a', c', e', -⟩ := hy2; exact ⟨a', c', e'⟩, hy2, rfl, HR3.out, HZ3.out, hlt3, by rw [hpl]; exact hown8, hB8⟩
      · have hdc : decide (0 < c) = true := by simp; omega
        have HZ := hno h0
        have HK2 : Hid ((cnR n (s + 1)).length = k) := by show _ = _; rw [HZ]; exact HK.out
        have HZ2 : Hid (cnR n (s + 1) = cnR n s) := HZ
        clear hno HZ
        go_wp2_with (go_at_call 48; refine C.mono ?_; rintro e wA ⟨⟨y, rfl, hy⟩, hbA⟩; clear C; have hOA := hO.below hbA; have hBA := Below.next hB hbA)
        go_roundw
        case rel => exact ⟨s + 1, k, oa, oc, by go_num, rfl, HK2, by omega, by rw [HZ2.out]; exact hOA, hBA⟩
        case measure => simp [intOf]; omega
    · have hds : decide (s < A) = false := by simpa using hlt
      have hds2 : decide ((s : Int) < (A : Int)) = false := by simp; omega
      obtain rfl : s = A := by omega
      go_wp2
      go_ret2
      exact ⟨⟨_, rfl, hO⟩, hB⟩
end Go.Proofs.Ytmogmkdcplgfjaa
