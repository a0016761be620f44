/- The walks of countCostas and Costases. -/
import Derived.Test.YtmiinhbffiodmaaDoorD5
import Derived.Test.YtmiinhbffiodmaaDoorG9
import Derived.Test.YtmiinhbffiodmaaDoorRuJ
import Derived.Test.YtmiinhbffiodmaaDoorRuK
/- The walk of the count of Costas permutations: what its closure does. -/
namespace Go.Proofs.YtmiinhbffiodmaaDoor
open Go.RowKit Go.Maps

theorem cC_le : ∀ (f n : Nat) (l : List Nat), n ≤ 7 → cC f n l ≤ 7 ^ f
  | 0, n, l, _ => by unfold cC; split <;> simp
  | f + 1, n, l, hn => by
    unfold cC
    split
    · exact Nat.pos_of_ne_zero (by simp)
    · have hk : ∀ k, ((List.range k).map fun x => if l.contains x then 0 else if cosQ (l ++ [x]) then cC f n (l ++ [x]) else 0).sum ≤ k * 7 ^ f := fun k => by
        induction k with
        | zero => simp
        | succ k ih =>
          rw [List.range_succ, List.map_append, List.sum_append, Nat.add_mul, Nat.one_mul]
          have hF : (if l.contains k then 0 else if cosQ (l ++ [k]) then cC f n (l ++ [k]) else 0) ≤ 7 ^ f := by
            split
            · exact Nat.zero_le _
            · split
              · exact cC_le f n (l ++ [k]) hn
              · exact Nat.zero_le _
          simp only [List.map_cons, List.map_nil, List.sum_cons, List.sum_nil]
          omega
      have h1 := hk n
      have h2 : n * 7 ^ f ≤ 7 * 7 ^ f := Nat.mul_le_mul_right _ hn
      rw [Nat.pow_succ, Nat.mul_comm (7 ^ f)]
      omega
/-- The sum over the first k. -/
def pS (f n : Nat) (l : List Nat) (k : Nat) : Nat := ((List.range k).map fun x => if l.contains x then 0 else if cosQ (l ++ [x]) then cC f n (l ++ [x]) else 0).sum
theorem pS_up (f n : Nat) (l : List Nat) (k : Nat) : pS f n l (k + 1) = pS f n l k + (if l.contains k then 0 else if cosQ (l ++ [k]) then cC f n (l ++ [k]) else 0) := by
  unfold pS
  rw [List.range_succ, List.map_append, List.sum_append]
  simp
theorem pS_bd (f n : Nat) (l : List Nat) (hn : n ≤ 7) (hf : f ≤ 6) : ∀ k, k ≤ 7 → pS f n l k ≤ k * 117649
  | 0, _ => by simp [pS]
  | k + 1, hk => by
    rw [pS_up]
    have ih := pS_bd f n l hn hf k (by omega)
    have hF : (if l.contains k then 0 else if cosQ (l ++ [k]) then cC f n (l ++ [k]) else 0) ≤ 117649 := by
      split
      · omega
      · split
        · have h1 := cC_le f n (l ++ [k]) hn
          have h2 : 7 ^ f ≤ 7 ^ 6 := Nat.pow_le_pow_right (by omega) hf
          omega
        · omega
    omega
/-- The variables that the count's closure holds. -/
structure CEnv (w : World) (base g br bn bw n : Nat) : Prop where
  hn : w.heap[bn]? = some (.cells #[.int .i64 (n : Int)] 3 (0, 0))
  hr : w.heap[br]? = some (.cells #[.pointer (some ⟨g, 0, none⟩)] 52 (0, 0))
  hw : w.heap[bw]? = some (.cells #[.func (.func 44) #[] #[.pointer (some ⟨br, 0, none⟩), .pointer (some ⟨bn, 0, none⟩), .pointer (some ⟨bw, 0, none⟩)]] 61 (0, 0))
  ln : bn < base
  nr : br ≠ g
  nw : bw ≠ g
theorem CEnv.kr {w w' : World} {base g br bn bw n : Nat} (h : CEnv w base g br bn bw n) (hk : Kr base g w w') : CEnv w' base g br bn bw n :=
  ⟨(hk.low bn h.ln).trans h.hn, (hk.cells br _ _ _ h.hr (by decide) h.nr).trans h.hr, (hk.cells bw _ _ _ h.hw (by decide) h.nw).trans h.hw, h.ln, h.nr, h.nw⟩
theorem CEnv.at {w : World} {base g br bn bw n : Nat} (h : CEnv w base g br bn bw n) : w.cell? ⟨bn, 0, none⟩ = some (.int .i64 (n : Int)) ∧ w.cell? ⟨br, 0, none⟩ = some (.pointer (some ⟨g, 0, none⟩)) ∧
    w.cell? ⟨bw, 0, none⟩ = some (.func (.func 44) #[] #[.pointer (some ⟨br, 0, none⟩), .pointer (some ⟨bn, 0, none⟩), .pointer (some ⟨bw, 0, none⟩)]) :=
  ⟨by rw [cell_of_row w bn 0 _ _ _ h.hn]; rfl, by rw [cell_of_row w br 0 _ _ _ h.hr]; rfl, by rw [cell_of_row w bw 0 _ _ _ h.hw]; rfl⟩
/-- A row of points. -/
def RB (w : World) (base g m : Nat) (l : List Nat) (c : Nat) : Prop := ∃ c', c' ≤ c ∧ RowS w base g m 22 (l.map Int.ofNat) (TG apB (l.map Int.ofNat)) c'
theorem RB.mono {w : World} {base g m : Nat} {l : List Nat} {c d : Nat} (h : RB w base g m l c) (hd : c ≤ d) : RB w base g m l d := by
  obtain ⟨c', h1, h2⟩ := h
  exact ⟨c', by omega, h2⟩
theorem RB.below {w w' : World} {base g m : Nat} {l : List Nat} {c : Nat} (h : RB w base g m l c) (hb : Below w.heap.size w w') : RB w' base g m l c := by
  obtain ⟨c', h1, h2⟩ := h
  exact ⟨c', h1, h2.below hb⟩
theorem RB.sl {w : World} {base g m : Nat} {l : List Nat} {c : Nat} (h : RB w base g m l c) : ∃ a cap, w.cell? ⟨g, 0, none⟩ = some (.slice a l.length cap) ∧ Sl w (.slice a l.length cap) (l.map Int.ofNat) := by
  obtain ⟨c', h1, h2⟩ := h
  obtain ⟨v, h3, h4⟩ := h2.box
  have hs := Sl.owned h4
  obtain ⟨a, cap, rfl⟩ := own_form h4
  rw [List.length_map] at hs h3
  refine ⟨a, cap, ?_, hs⟩
  rw [cell_of_row w g 0 _ _ _ h3]
  rfl
theorem contN (l : List Nat) (x : Nat) : (l.map Int.ofNat).contains (x : Int) = l.contains x := by
  rw [Bool.eq_iff_iff, List.contains_iff_mem, List.contains_iff_mem, List.mem_map]
  constructor
  · rintro ⟨y, hy, e⟩
    rwa [← Int.ofNat.inj e]
  · intro h
    exact ⟨x, h, rfl⟩
theorem put_pts (base g m c : Nat) (l : List Nat) (x : Nat) (w : World) (hR : RB w base g m l c) (hG : cosQ l = true) (hx : x ≤ 1000) (hl : ∀ y ∈ l, y ≤ 1000) (h7 : l.length ≤ 7) (hc : c ≤ 1000000000000000000) :
    Calls Tryd.prog 39 #[.pointer (some ⟨g, 0, none⟩), .int .i64 (x : Int)] w fun e w' => e = .returned (.bool (cosQ (l ++ [x]))) ∧ RB w' base g m (l ++ [x]) (c + 7) ∧ Kr base g w w' := by
  obtain ⟨c', h1, h2⟩ := hR
  have hG' : (gpL apB (l.map Int.ofNat)).Nodup := by
    have h := gp_cos l
    rw [show (cosB l.length fun i => l.getD i 0) = true from hG] at h
    exact of_decide_eq_true h
  have h := put_row apB base g m 22 c' (l.map Int.ofNat) (x : Int) w byBoth_ap h2 hG' (by omega) (of_bd hl) (by rw [List.length_map]; omega) (by omega)
  rw [← map_snoc, gp_cos] at h
  refine h.mono ?_
  rintro e w' ⟨rfl, h3, h4⟩
  exact ⟨rfl, ⟨_, by rw [List.length_map]; omega, h3⟩, h4⟩
theorem drop_pts (base g m c : Nat) (l : List Nat) (x : Nat) (w : World) (hR : RB w base g m (l ++ [x]) c) (hx : x ≤ 1000) (hl : ∀ y ∈ l, y ≤ 1000) (h7 : l.length ≤ 7) (hc : c ≤ 1000000000000000000) :
    Calls Tryd.prog 46 #[.pointer (some ⟨g, 0, none⟩)] w fun e w' => e = .returned (.tuple #[]) ∧ RB w' base g m l (c + 7) ∧ Kr base g w w' := by
  obtain ⟨c', h1, h2⟩ := hR
  rw [map_snoc] at h2
  refine (drop_row apB base g m 22 c' (l.map Int.ofNat) (x : Int) w byBoth_ap h2 (by omega) (of_bd hl) (by rw [List.length_map]; omega) (by omega)).mono ?_
  rintro e w' ⟨rfl, h3, h4⟩
  exact ⟨rfl, ⟨_, by rw [List.length_map]; omega, h3⟩, h4⟩
/-- What count answers, f points being left. -/
def CnP (base g m br bn bw n f : Nat) : Prop := ∀ (l : List Nat) (c : Nat) (w : World), l.length + f = n → cosQ l = true → (∀ y ∈ l, y ≤ 1000) → c + KB f ≤ 1000000000000000 → CEnv w base g br bn bw n → RB w base g m l c →
    Calls Tryd.prog 44 #[.pointer (some ⟨br, 0, none⟩), .pointer (some ⟨bn, 0, none⟩), .pointer (some ⟨bw, 0, none⟩)] w fun e w' =>
      e = .returned (.int .i64 (cC f n l : Int)) ∧ RB w' base g m l (c + KB f) ∧ Kr base g w w'
set_option maxRecDepth 100000 in
set_option maxHeartbeats 8000000 in
theorem count_full (base g m br bn bw n f : Nat) (l : List Nat) (c : Nat) (w : World) (he : l.length = n) (hE : CEnv w base g br bn bw n) (hR : RB w base g m l c) :
    Calls Tryd.prog 44 #[.pointer (some ⟨br, 0, none⟩), .pointer (some ⟨bn, 0, none⟩), .pointer (some ⟨bw, 0, none⟩)] w fun e w' =>
      e = .returned (.int .i64 (cC f n l : Int)) ∧ RB w' base g m l (c + KB f) ∧ Kr base g w w' := by
  have eg : cC f n l = 1 := by cases f <;> (unfold cC; rw [if_pos he])
  rw [eg]
  obtain ⟨a, cap, hc, _⟩ := hR.sl
  rw [he] at hc
  obtain ⟨e1, e3, e4⟩ := hE.at
  have HR : Hid (∀ k, RB (w.drewN k) base g m l (c + KB f) ∧ Kr base g w (w.drewN k)) := fun k => ⟨(hR.mono (Nat.le_add_right c (KB f))).below (bdrewN (Below.refl _ w) k), Kr.drewN base g w k⟩
  have hnn : ((n : Int) == (n : Int)) = true := by simp
  clear hR hE eg he
  go_enter Tryd.func44, Tryd.ntmps44
  go_wp2
  go_quiet (fail)
  go_wp2
  go_ret
  exact ⟨rfl, HR.out _⟩
set_option maxRecDepth 100000 in
set_option maxHeartbeats 8000000 in
theorem count_more (base g m br bn bw n f : Nat) (hIH : CnP base g m br bn bw n f) (h7 : n ≤ 7) (hf6 : f + 1 ≤ 7) : CnP base g m br bn bw n (f + 1) := by
  intro l c w he hg hl hc hE hR
  have hne : ¬ l.length = n := by omega
  have hKB := KB_6 (show f ≤ 6 by omega)
  have hl7 : l.length ≤ 7 := by omega
  have HPUT : Hid (∀ (x c' : Nat) (W : World), x ≤ 60 → c' ≤ 2000000000000000 → RB W base g m l c' → Calls Tryd.prog 39 #[.pointer (some ⟨g, 0, none⟩), .int .i64 (x : Int)] W fun e w' => e = .returned (.bool (cosQ (l ++ [x]))) ∧ RB w' base g m (l ++ [x]) (c' + 7) ∧ Kr base g W w') := fun x c' W hx hc' hW => put_pts base g m c' l x W hW hg (by omega) hl hl7 (by omega)
  have HDROP : Hid (∀ (x c' : Nat) (W : World), x ≤ 60 → c' ≤ 4000000000000000 → RB W base g m (l ++ [x]) c' → Calls Tryd.prog 46 #[.pointer (some ⟨g, 0, none⟩)] W fun e w' => e = .returned (.tuple #[]) ∧ RB w' base g m l (c' + 7) ∧ Kr base g W w') := fun x c' W hx hc' hW => drop_pts base g m c' l x W hW (by omega) hl hl7 (by omega)
  have HGR : Hid (∀ (x c' : Nat) (W : World), x ≤ 25 → c' + KB f ≤ 1000000000000000 → cosQ (l ++ [x]) = true → CEnv W base g br bn bw n → RB W base g m (l ++ [x]) c' → Calls Tryd.prog 44 #[.pointer (some ⟨br, 0, none⟩), .pointer (some ⟨bn, 0, none⟩), .pointer (some ⟨bw, 0, none⟩)] W fun e w' =>
      e = .returned (.int .i64 (cC f n (l ++ [x]) : Int)) ∧ RB w' base g m (l ++ [x]) (c' + KB f) ∧ Kr base g W w') := fun x c' W hx hc' hgx hW hRW => hIH (l ++ [x]) c' W (by rw [List.length_append]; simp; omega) hgx (fun y hy => by
      rcases List.mem_append.1 hy with h | h
      · exact hl y h
      · rw [List.mem_singleton.1 h]; omega) hc' hW hRW
  have HCT : Hid (∀ (x : Nat) (W : World) (v : Value), Sl W v (l.map Int.ofNat) → Calls Tryd.prog 45 #[v, .int .i64 (x : Int)] W fun e w' => e = .returned (.bool (l.contains x)) ∧ w' = W) := fun x W v hv => by
    have h := Contains_any _ (x : Int) v W hv (by rw [List.length_map]; omega)
    rw [contN] at h
    exact h
  have HPS : Hid (∀ k, pS f n l (k + 1) = pS f n l k + (if l.contains k then 0 else if cosQ (l ++ [k]) then cC f n (l ++ [k]) else 0)) := fun k => pS_up f n l k
  have HPB : Hid (∀ k, k ≤ 7 → pS f n l k ≤ k * 117649) := pS_bd f n l h7 (by omega)
  have HCB : Hid (∀ k, cC f n (l ++ [k]) ≤ 117649) := fun k => by
    have h1 := cC_le f n (l ++ [k]) h7
    have h2 : 7 ^ f ≤ 7 ^ 6 := Nat.pow_le_pow_right (by omega) (by omega)
    omega
  have HFU : Hid (cC (f + 1) n l = pS f n l n) := by
    show cC (f + 1) n l = _
    conv => lhs; unfold cC
    rw [if_neg hne]
    rfl
  rw [HFU.out]
  obtain ⟨ua, ucap, hcl, _⟩ := hR.sl
  obtain ⟨e1, e3, e4⟩ := hE.at
  have HE : Hid (CEnv w base g br bn bw n) := hE
  obtain ⟨KF, HKF⟩ : ∃ KF, Hid (KB f = KF) := ⟨_, rfl⟩
  have HKS : Hid (KB (f + 1) = 30 * (20 + KF)) := by show KB (f + 1) = _; rw [← HKF.out]; rfl
  rw [HKF.out] at hKB HGR
  rw [HKS.out] at hc
  have hR0 : ∀ k, RB (w.drewN k) base g m l c := fun k => hR.below (bdrewN (Below.refl _ w) k)
  have HR0 : Hid (∀ k, RB (w.drewN k) base g m l (c + 0 * (20 + KF))) := fun k => by simpa using hR0 k
  have hne' : ((l.length : Int) == (n : Int)) = false := by simp; omega
  have HKR : Hid (∀ k, Kr base g w (w.drewN k)) := fun k => Kr.drewN base g w k
  obtain ⟨ln, Hln⟩ : ∃ ln, Hid (l.length = ln) := ⟨_, rfl⟩
  rw [Hln.out] at hcl hne' hne
  have hne2 : ¬ (ln : Int) = (n : Int) := by omega
  have HP0 : Hid (pS f n l 0 = 0) := rfl
  obtain ⟨PS, HPSe⟩ : ∃ PS : Nat → Nat, Hid (pS f n l = PS) := ⟨_, rfl⟩
  rw [HPSe.out] at HPS HPB HP0 ⊢
  clear hR hR0 hE hIH hl he hg HFU
  go_enter Tryd.func44, Tryd.ntmps44
  go_wp2
  go_quiet (fail)
  go_wp2
  go_loopw [4, 14] (fun ov xv wr => ∃ x : Nat, xv = .int .i64 (x : Int) ∧ x ≤ n ∧ ov = .int .i64 ((PS x : Nat) : Int) ∧ Hid (RB wr base g m l (c + x * (20 + KF))) ∧ Hid (Kr base g w wr)) (fun _ xv _ => (n - intOf xv).toNat)
  case atStart => exact ⟨0, rfl, by omega, by rw [HP0.out]; rfl, HR0.out _, HKR.out _⟩
  case round =>
    clear HR0 HKR e1 e3 e4 hcl hne' hne hne2 HP0
    obtain ⟨x, rfl, hx1, rfl, HR, HK⟩ := hrel
    have hE2 := HE.out.kr HK.out
    have HE2 : Hid (CEnv wr base g br bn bw n) := hE2
    obtain ⟨e1, e3, e4⟩ := hE2.at
    obtain ⟨Q, HQ⟩ : ∃ Q, Hid (x * (20 + KF) = Q) := ⟨_, rfl⟩
    have hQ : Q ≤ 7 * (20 + KF) := by rw [← HQ.out]; exact Nat.mul_le_mul_right _ (by omega)
    have HQ1 : Hid ((x + 1) * (20 + KF) = Q + (20 + KF)) := by
      show (x + 1) * (20 + KF) = _
      rw [Nat.add_mul, Nat.one_mul, HQ.out]
    rw [HQ.out] at HR
    clear hE2
    by_cases hlt : x < n
    · have hdx : decide ((x : Int) < (n : Int)) = true := by simp; omega
      have hdx' : decide (x < n) = true := by simpa using hlt
      have hxi : (x : Int) < (n : Int) := by omega
      have hxb : x ≤ 25 := by omega
      obtain ⟨sa, scap, hsc, hsl⟩ := HR.out.sl
      have hps := HPS.out x
      have hpb := HPB.out x (by omega)
      have hcb := HCB.out x
      have CC := HCT.out x wr _ hsl
      have C1 := HPUT.out x (c + Q) wr (by omega) (by omega) HR.out
      obtain ⟨S, HSS⟩ : ∃ S, Hid (PS x = S) := ⟨_, rfl⟩
      rw [HSS.out] at hps hpb ⊢
      rw [Hln.out] at hsc CC
      obtain ⟨ct, Hct⟩ : ∃ ct, Hid (l.contains x = ct) := ⟨_, rfl⟩
      rw [Hct.out] at CC hps
      clear hsl
      cases ct
      · obtain ⟨gb, Hgb⟩ : ∃ gb, Hid (cosQ (l ++ [x]) = gb) := ⟨_, rfl⟩
        rw [Hgb.out] at C1 hps
        cases gb
        · have HPX : Hid (PS (x + 1) = S) := (show PS (x + 1) = S by rw [hps]; simp)
          have CD := fun W (h : RB W base g m (l ++ [x]) (c + Q + 7)) => HDROP.out x (c + Q + 7) W (by omega) (by omega) h
          clear hps hpb hcb HR
          go_wp2_with (first
            | (go_at_call 45; refine CC.mono ?_; rintro e w0 ⟨rfl, hw⟩; replace hw := hw.symm; subst hw; clear CC)
            | (go_at_call 39; refine C1.mono ?_; rintro e w1 ⟨rfl, hR1, hK1⟩; clear C1; have HR1 : Hid (RB w1 base g m (l ++ [x]) (c + Q + 7)) := hR1; have HE3 := HE2.out.kr hK1; have e3' := HE3.at.2.1; have HK2 : Hid (Kr base g w w1) := HK.out.trans hK1; clear hR1 hK1 HE3)
            | (go_at_call 46; refine (CD _ HR1.out).mono ?_; rintro e w2 ⟨rfl, hR2, hK2⟩; clear CD; have HR2 : Hid (RB w2 base g m l (c + Q + 7 + 7)) := hR2; have HK3 : Hid (Kr base g w w2) := HK2.out.trans hK2; clear hR2 hK2))
          go_roundw
          case rel => exact ⟨x + 1, by go_num, by omega, by rw [HPX.out], HR2.out.mono (by rw [HQ1.out]; omega), HK3⟩
          case measure => simp [intOf]; omega
        · have hGR := fun W (hW : CEnv W base g br bn bw n) (h : RB W base g m (l ++ [x]) (c + Q + 7)) => HGR.out x (c + Q + 7) W hxb (by omega) Hgb.out hW h
          have CD := fun W (h : RB W base g m (l ++ [x]) (c + Q + 7 + KF)) => HDROP.out x (c + Q + 7 + KF) W (by omega) (by omega) h
          obtain ⟨t, Ht⟩ : ∃ t, Hid (cC f n (l ++ [x]) = t) := ⟨_, rfl⟩
          rw [Ht.out] at hGR hps hcb
          have HPX : Hid (((PS (x + 1) : Nat) : Int) = (S : Int) + (t : Int)) := (show ((PS (x + 1) : Nat) : Int) = (S : Int) + (t : Int) by rw [hps]; simp)
          have hS8 : S ≤ 7 * 117649 := Nat.le_trans hpb (Nat.mul_le_mul_right _ (by omega))
          clear hps hpb HR
          go_wp2_with (first
            | (go_at_call 45; refine CC.mono ?_; rintro e w0 ⟨rfl, hw⟩; replace hw := hw.symm; subst hw; clear CC)
            | (go_at_call 39; refine C1.mono ?_; rintro e w1 ⟨rfl, hR1, hK1⟩; clear C1; have HR1 : Hid (RB w1 base g m (l ++ [x]) (c + Q + 7)) := hR1; have HE3 : Hid (CEnv w1 base g br bn bw n) := HE2.out.kr hK1; have e3' := HE3.out.at.2.1; have e4' := HE3.out.at.2.2; have HK2 : Hid (Kr base g w w1) := HK.out.trans hK1; clear hR1 hK1)
            | (go_at_call 44; refine (hGR _ HE3.out HR1.out).mono ?_; rintro e w2 ⟨rfl, hR2, hK2⟩; clear hGR; have HR2 : Hid (RB w2 base g m (l ++ [x]) (c + Q + 7 + KF)) := hR2; have HE4 := HE3.out.kr hK2; have e3'' := HE4.at.2.1; have HK3 : Hid (Kr base g w w2) := HK2.out.trans hK2; clear hR2 hK2 HE4)
            | (go_at_call 46; refine (CD _ HR2.out).mono ?_; rintro e w3 ⟨rfl, hR3, hK3⟩; clear CD; have HR3 : Hid (RB w3 base g m l (c + Q + 7 + KF + 7)) := hR3; have HK4 : Hid (Kr base g w w3) := HK3.out.trans hK3; clear hR3 hK3))
          go_roundw
          case rel => exact ⟨x + 1, by go_num, by omega, by rw [HPX.out], HR3.out.mono (by rw [HQ1.out]; omega), HK4⟩
          case measure => simp [intOf]; omega
      · have HPX : Hid (PS (x + 1) = S) := (show PS (x + 1) = S by rw [hps]; simp)
        clear hps hpb hcb C1
        go_wp2_with (go_at_call 45; refine CC.mono ?_; rintro e w0 ⟨rfl, hw⟩; replace hw := hw.symm; subst hw; clear CC)
        go_roundw
        case rel => exact ⟨x + 1, by go_num, by omega, by rw [HPX.out], HR.out.mono (by rw [HQ1.out]; omega), HK⟩
        case measure => simp [intOf]; omega
    · have hdx : decide ((x : Int) < (n : Int)) = false := by simp; omega
      have hdx' : decide (x < n) = false := by simpa using hlt
      have hxi : ¬ (x : Int) < (n : Int) := by omega
      obtain rfl : x = n := by omega
      have HFIN : Hid (RB wr base g m l (c + KB (f + 1))) := HR.out.mono (by rw [HKS.out]; omega)
      go_wp2
      go_ret
      exact ⟨rfl, HFIN.out, HK.out⟩

end Go.Proofs.YtmiinhbffiodmaaDoor

namespace Go.Proofs.YtmiinhbffiodmaaDoor
open Go.RowKit Go.Maps

theorem count_any (base g m br bn bw n : Nat) (h7 : n ≤ 7) : ∀ f, f ≤ 7 → CnP base g m br bn bw n f
  | 0, _ => fun l c w he _ _ _ hE hR => count_full base g m br bn bw n 0 l c w he hE hR
  | f + 1, hf => count_more base g m br bn bw n f (count_any base g m br bn bw n h7 f (by omega)) h7 hf
theorem cosQ_nil : cosQ [] = true := by decide +kernel
theorem newRow_pts (w : World) : Calls Tryd.prog 38 #[.func (.func 22) #[] #[]] w fun e w' => e = .returned (.pointer (some ⟨w.heap.size + 1, 0, none⟩)) ∧ RB w' w.heap.size (w.heap.size + 1) w.heap.size [] 0 ∧ Below w.heap.size w w' := by
  refine (newRow_any 22 w).mono ?_
  rintro e w' ⟨rfl, h1, h2⟩
  refine ⟨rfl, ⟨0, Nat.le_refl _, ?_⟩, h2⟩
  rw [List.map_nil, TG_nil]
  exact h1
theorem KB_7 : KB 7 ≤ 1000000000000 := by decide
set_option maxRecDepth 100000 in
set_option maxHeartbeats 8000000 in
theorem countCostas_any (n f : Nat) (w : World) (h1 : n = f + 1) (h7 : n ≤ 7) :
    Calls Tryd.prog 28 #[.int .i64 (n : Int)] w fun e w' => e = .returned (.int .i64 (cosN n : Int)) ∧ Below w.heap.size w w' := by
  obtain ⟨B, HB⟩ : ∃ B, Hid (w.heap.size = B) := ⟨_, rfl⟩
  obtain ⟨W0, HW0⟩ : ∃ W0, Hid (w.alloc (.cells #[.int .i64 (n : Int)] 3) = W0) := ⟨_, rfl⟩
  have hs0 : W0.heap.size = B + 1 := by rw [← HW0.out, ← HB.out]; simp
  have hn0 : W0.heap[B]? = some (.cells #[.int .i64 (n : Int)] 3 (0, 0)) := by
    rw [← HW0.out, ← HB.out]
    exact heap_alloc_new w _
  have hB0 : Below w.heap.size w W0 := by
    rw [← HW0.out]
    exact (Below.refl _ w).alloc (Nat.le_refl _) _
  have HN := newRow_pts W0
  rw [hs0, ← HW0.out] at HN
  have HNEW : Hid (Calls Tryd.prog 38 #[.func (.func 22) #[] #[]] (w.alloc (.cells #[.int .i64 (n : Int)] 3)) fun e w' => e = .returned (.pointer (some ⟨B + 1 + 1, 0, none⟩)) ∧ RB w' (B + 1) (B + 1 + 1) (B + 1) [] 0 ∧ Below (B + 1) (w.alloc (.cells #[.int .i64 (n : Int)] 3)) w') := HN
  have HGR : Hid (∀ (br bw : Nat) (W : World), CEnv W (B + 1) (B + 1 + 1) br B bw n → RB W (B + 1) (B + 1 + 1) (B + 1) [] 0 → Calls Tryd.prog 44 #[.pointer (some ⟨br, 0, none⟩), .pointer (some ⟨B, 0, none⟩), .pointer (some ⟨bw, 0, none⟩)] W fun e w' =>
      e = .returned (.int .i64 (cosN n : Int)) ∧ Kr (B + 1) (B + 1 + 1) W w') := fun br bw W hW hR => by
    have hk : KB (f + 1) ≤ KB 7 := by
      have : ∀ d k, KB k ≤ KB (k + d) := fun d k => by
        induction d with
        | zero => exact Nat.le_refl _
        | succ d ih => exact Nat.le_trans ih (KB_mono (k + d))
      have := this (7 - (f + 1)) (f + 1)
      rwa [show f + 1 + (7 - (f + 1)) = 7 by omega] at this
    have hk7 := KB_7
    have h := count_any (B + 1) (B + 1 + 1) (B + 1) br B bw n h7 (f + 1) (by omega) [] 0 W (by simp; omega) cosQ_nil (fun y hy => by cases hy) (by omega) hW hR
    rw [cC_all h1 h7] at h
    exact h.mono fun e w' hh => ⟨hh.1, hh.2.2⟩
  have HENV : Hid (∀ (w1 : World), Below (B + 1) (w.alloc (.cells #[.int .i64 (n : Int)] 3)) w1 → RB w1 (B + 1) (B + 1 + 1) (B + 1) [] 0 →
      CEnv ((w1.alloc (.cells #[.pointer (some ⟨B + 1 + 1, 0, none⟩)] 52)).alloc (.cells #[.func (.func 44) #[] #[.pointer (some ⟨w1.heap.size, 0, none⟩), .pointer (some ⟨B, 0, none⟩), .pointer (some ⟨w1.heap.size + 1, 0, none⟩)]] 61)) (B + 1) (B + 1 + 1) w1.heap.size B (w1.heap.size + 1) n ∧
      RB ((w1.alloc (.cells #[.pointer (some ⟨B + 1 + 1, 0, none⟩)] 52)).alloc (.cells #[.func (.func 44) #[] #[.pointer (some ⟨w1.heap.size, 0, none⟩), .pointer (some ⟨B, 0, none⟩), .pointer (some ⟨w1.heap.size + 1, 0, none⟩)]] 61)) (B + 1) (B + 1 + 1) (B + 1) [] 0 ∧
      Below (B + 1) W0 ((w1.alloc (.cells #[.pointer (some ⟨B + 1 + 1, 0, none⟩)] 52)).alloc (.cells #[.func (.func 44) #[] #[.pointer (some ⟨w1.heap.size, 0, none⟩), .pointer (some ⟨B, 0, none⟩), .pointer (some ⟨w1.heap.size + 1, 0, none⟩)]] 61))) := fun w1 b1 hR => by
    rw [HW0.out] at b1
    have hR2 := (hR.below (balloc w1 (.cells #[.pointer (some ⟨B + 1 + 1, 0, none⟩)] 52))).below (balloc (w1.alloc (.cells #[.pointer (some ⟨B + 1 + 1, 0, none⟩)] 52)) (.cells #[.func (.func 44) #[] #[.pointer (some ⟨w1.heap.size, 0, none⟩), .pointer (some ⟨B, 0, none⟩), .pointer (some ⟨w1.heap.size + 1, 0, none⟩)]] 61))
    obtain ⟨c', _, hR'⟩ := hR
    obtain ⟨v, hb, _⟩ := hR'.box
    have hgl := blk_lt hb
    have bA : Below (B + 1) W0 (w1.alloc (.cells #[.pointer (some ⟨B + 1 + 1, 0, none⟩)] 52)) := b1.alloc (by omega) _
    have b3 := bA.alloc (show B + 1 ≤ (w1.alloc (.cells #[.pointer (some ⟨B + 1 + 1, 0, none⟩)] 52)).heap.size by rw [World.size_alloc]; omega) (.cells #[.func (.func 44) #[] #[.pointer (some ⟨w1.heap.size, 0, none⟩), .pointer (some ⟨B, 0, none⟩), .pointer (some ⟨w1.heap.size + 1, 0, none⟩)]] 61)
    refine ⟨⟨(b3.block B (by omega)).trans hn0, ?_, ?_, by omega, by omega, by omega⟩, hR2, b3⟩
    · have e1 := heap_alloc_new w1 (.cells #[.pointer (some ⟨B + 1 + 1, 0, none⟩)] 52)
      exact ((balloc (w1.alloc (.cells #[.pointer (some ⟨B + 1 + 1, 0, none⟩)] 52)) _).block w1.heap.size (by simp)).trans e1
    · have e2 := heap_alloc_new (w1.alloc (.cells #[.pointer (some ⟨B + 1 + 1, 0, none⟩)] 52)) (.cells #[.func (.func 44) #[] #[.pointer (some ⟨w1.heap.size, 0, none⟩), .pointer (some ⟨B, 0, none⟩), .pointer (some ⟨w1.heap.size + 1, 0, none⟩)]] 61)
      rw [World.size_alloc] at e2
      exact e2
  have HBB : Hid (∀ W, Below (B + 1) W0 W → Below w.heap.size w W) := fun W h => hB0.trans (h.mono (by rw [HB.out]; omega))
  clear hn0 HN h1
  have hBB := HB.out
  rw [hBB] at HBB hB0 ⊢
  obtain ⟨z, Hz⟩ : ∃ z, Hid (cosN n = z) := ⟨_, rfl⟩
  rw [Hz.out] at HGR ⊢
  go_enter Tryd.func28, Tryd.ntmps28
  go_wp2_with (first
    | (go_at_call 38; refine HNEW.out.mono ?_; rintro e w1 ⟨rfl, hR1, b1⟩; clear HNEW; obtain ⟨hE, hR3, b3⟩ := HENV.out w1 b1 hR1; have C := HGR.out _ _ _ hE hR3; have e4 := hE.at.2.2; have HB3 : Hid (Below B w _) := HBB.out _ b3; clear b1 hR1 hE hR3 b3)
    | (go_at_call 44; refine C.mono ?_; rintro e w3 ⟨rfl, k4⟩; clear C e4; have HB4 : Hid (Below B w w3) := HB3.out.trans (k4.below.mono (by omega)); clear k4))
  go_ret
  exact ⟨rfl, HB4.out⟩
set_option maxHeartbeats 4000000 in
theorem Costases_none (n : Int) (w : World) (h : n < 1 ∨ 7 < n) : Calls Tryd.prog 13 #[.int .i64 n] w fun e w' => e = .returned (.tuple #[.int .i64 0, .int .i64 1]) ∧ Below w.heap.size w w' := by
  by_cases h1 : n < 1
  · have d1 : decide (n < 1) = true := by simpa using h1
    clear h
    go_enter Tryd.func13, Tryd.ntmps13
    go_wp2
    exact bodyPost_ret (v := .tuple #[.int .i64 0, .int .i64 1]) (by simp [results, Tryd.results13, go_sem]) rfl ⟨rfl, Below.refl _ _⟩
  · have h7 : 7 < n := by omega
    have d1 : decide (n < 1) = false := by simpa using h1
    have d2 : decide (7 < n) = true := by simpa using h7
    clear h
    go_enter Tryd.func13, Tryd.ntmps13
    go_wp2
    exact bodyPost_ret (v := .tuple #[.int .i64 0, .int .i64 1]) (by simp [results, Tryd.results13, go_sem]) rfl ⟨rfl, Below.refl _ _⟩
set_option maxHeartbeats 4000000 in
theorem Costases_main (n : Nat) (w : World) (h1 : 1 ≤ n) (h7 : n ≤ 7) : Calls Tryd.prog 13 #[.int .i64 (n : Int)] w fun e w' => e = .returned (.tuple #[.int .i64 (cosN n : Int), .int .i64 0]) ∧ Below w.heap.size w w' := by
  have C := countCostas_any n (n - 1) w (by omega) h7
  have d1 : decide ((n : Int) < 1) = false := by simp; omega
  have d2 : decide (7 < (n : Int)) = false := by simp; omega
  have d3 : ¬ (n : Int) < 1 := by omega
  have d4 : ¬ 7 < (n : Int) := by omega
  have d5 : ¬ n = 0 := by omega
  obtain ⟨z, Hz⟩ : ∃ z, Hid (cosN n = z) := ⟨_, rfl⟩
  rw [Hz.out] at C ⊢
  go_enter Tryd.func13, Tryd.ntmps13
  go_wp2_with (go_at_call 28; refine C.mono ?_; rintro e w1 ⟨rfl, b1⟩; clear C)
  exact bodyPost_ret (v := .tuple #[.int .i64 (z : Int), .int .i64 0]) (by simp [results, Tryd.results13, go_sem]) rfl ⟨rfl, b1⟩

end Go.Proofs.YtmiinhbffiodmaaDoor
