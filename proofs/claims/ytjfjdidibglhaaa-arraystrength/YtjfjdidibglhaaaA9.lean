/- The walk of the document's StrengthOf. -/
import Derived.Test.YtjfjdidibglhaaaA8
import Derived.Test.YtjfjdidibglhaaaP27
namespace Go.Proofs.Ytjfjdidibglhaaa
open Go.RowKit

/-- What is read at a block's beginning. -/
def rdN (w : World) (g t : Nat) : List Nat := (List.range t).map fun j => match w.cell? ⟨g, j, none⟩ with
  | some (.int _ n) => n.toNat
  | _ => 0
theorem rd_own {w : World} {g t : Nat} {f : Nat → Nat} (h : Own w g t fun j => (f j : Int)) : rdN w g t = fl t f := by
  unfold rdN fl
  refine List.map_congr_left fun j hj => ?_
  rw [h.cell j (List.mem_range.1 hj)]
  simp
theorem fl_id (t : Nat) : fl t (fun x => x) = List.range' 0 t := by
  unfold fl
  rw [List.map_id', List.range_eq_range']
theorem own_fl {w : World} {g t : Nat} {f : Nat → Nat} (h : Own w g t fun j => (f j : Int)) (cap : Nat) : Sl w (.slice (some ⟨g, 0, none⟩) t cap) ((fl t f).map Int.ofNat) := by
  have := h.sl cap
  have e : (fl t f).map Int.ofNat = (List.range t).map fun j => (f j : Int) := by
    unfold fl
    rw [List.map_map]
    rfl
  rw [e]
  exact this
/-- All choices ahead of one have passed. -/
def AhS (s k : Nat) (R : List (Nat → Nat)) (t : Nat) (cs : List Nat) : Prop := ∀ s', Rs k 0 s' → s'.length = t → llt s' cs → StrC s R s'
theorem llt_as : ∀ {s t : List Nat}, llt s t → ¬ llt t s
  | [], _, h, _ => by cases h
  | _ :: _, [], h, _ => by cases h
  | x :: s, y :: t, h, h' => by
    rcases h with h | ⟨rfl, h⟩
    · rcases h' with h' | ⟨e, _⟩ <;> omega
    · rcases h' with h' | ⟨_, h'⟩
      · omega
      · exact llt_as h h'
theorem AhS.start (s k : Nat) (R : List (Nat → Nat)) (t : Nat) : AhS s k R t (fl t fun x => x) := fun s' h1 h2 h3 => by
  rw [fl_id] at h3
  exact absurd h3 (range_least h1 h2)
theorem AhS.next {s k t : Nat} {R : List (Nat → Nat)} {cs c2 : List Nat} (h : AhS s k R t cs) (hr : Rs k 0 cs) (hl : cs.length = t) (hs : StrC s R cs) (hn : nx k cs = some c2) : AhS s k R t c2 := fun s' a1 a2 a3 => by
  obtain ⟨h1, h2, h3, h4⟩ := nx_some hr hn
  rcases llt_tri (s := s') (t := cs) (by omega) with c | c | c
  · exact h s' a1 a2 c
  · subst c; exact hs
  · rcases h4 s' a1 (by omega) c with rfl | d
    · exact (llt_irr a3).elim
    · exact (llt_as d a3).elim
theorem AhS.done {s k t : Nat} {R : List (Nat → Nat)} {cs : List Nat} (h : AhS s k R t cs) (hr : Rs k 0 cs) (hl : cs.length = t) (hs : StrC s R cs) (hn : nx k cs = none) : Str s k R t :=
  str_rise fun s' a1 a2 a3 => by
    have hr' := rs_iff.2 ⟨a1, fun x hx => ⟨Nat.zero_le _, a2 x hx⟩⟩
    rcases llt_tri (s := s') (t := cs) (by omega) with c | c | c
    · exact h s' hr' a3 c
    · subst c; exact hs
    · exact (nx_none hr hn hr' (by omega) c).elim
theorem rs_pts {k : Nat} {cs : List Nat} (h : Rs k 0 cs) : Pts k cs := rise_pts (rs_iff.1 h).1 fun x hx => ((rs_iff.1 h).2 x hx).2
set_option maxRecDepth 100000 in
set_option maxHeartbeats 16000000 in
theorem StrengthOf_any (s k : Nat) (ls : List (List Int)) (v : Value) (w : World) (hv : Rw w v ls) (hG : GoodA s k ls) :
    Calls Try.prog 11 #[.int .i64 (s : Int), v] w fun e w' => (∃ t : Nat, e = .returned (.int .i64 (t : Int)) ∧ StrIs s k (rnA ls) t) ∧ Below w.heap.size w w' := by
  have hn1 := hG.n1
  have hn128 := hG.n128
  have hk8 := hG.k8
  have hk1 := hG.k1
  have hs2 := hG.s2
  have hs64 := hG.s64
  have HG : Hid (GoodA s k ls) := hG
  obtain ⟨n, Hn⟩ : ∃ n, Hid (ls.length = n) := ⟨_, rfl⟩
  have HV : Hid (∀ W, Below w.heap.size w W → Rw W v ls) := fun W b => hv.below b
  obtain ⟨r0, hr0⟩ : ∃ r0, ls[0]? = some r0 := ⟨_, List.getElem?_eq_getElem (by omega)⟩
  obtain ⟨a, cap, rfl, -⟩ := hv
  rw [Hn.out] at hn128 hn1 HV ⊢
  obtain ⟨b, off, u, rfl, hc0, hS0⟩ := (HV.out w (Below.refl _ _)).at hr0 rfl
  rw [Nat.add_zero] at hc0
  obtain ⟨ua, uc, rfl, -⟩ := id hS0
  rw [hG.len r0 (List.mem_of_getElem? hr0)] at hc0
  have hni : (0 : Int) < (n : Int) := by omega
  have HRL : Hid ((rnA ls).length = n) := by show _ = _; unfold rnA; rw [List.length_map]; exact Hn.out
  obtain ⟨R, HR⟩ : ∃ R, Hid (rnA ls = R) := ⟨_, rfl⟩
  rw [HR.out] at HRL ⊢
  have HAL : Hid (∀ (W : World) (cs : List Nat) (x : Value) (i : Nat) (l : List Int), Below w.heap.size w W → Rs k 0 cs → cs.length ≤ 8 → Sl W x (cs.map Int.ofNat) → ls[i]? = some l → Calls Try.prog 24 #[.slice (some ⟨b, off, none⟩) n cap, x, .int .i64 (i : Int)] W fun e w' => e = .returned (.int .i64 (hit R cs (fnA l) : Int)) ∧ Below W.heap.size W w') := fun W cs x i l bW hr hl hx hi => by
    have hck := (rs_pts hr).lt
    have := alike_any s k i ls l cs _ x W HG.out (HV.out W bW) hx hl hck hi
    rw [alN_hit HG.out hck (List.mem_of_getElem? hi), HR.out] at this
    exact this
  have HDOC : Hid (∀ cs, StrC s R cs ↔ s ^ cs.length ≤ n ∧ n % s ^ cs.length = 0 ∧ ∀ (i : Nat) (l : List Int), ls[i]? = some l → hit R cs (fnA l) = n / s ^ cs.length) := fun cs => by
    have h := strC_doc (s := s) (R := R) (cs := cs) (by omega) (by rw [HRL.out]; omega)
    rw [HRL.out] at h
    rw [h]
    refine ⟨fun ⟨q1, q2, q3⟩ => ⟨q1, q2, fun i l hl => q3 _ (by rw [← HR.out]; exact List.mem_map.2 ⟨l, List.mem_of_getElem? hl, rfl⟩)⟩, fun ⟨q1, q2, q3⟩ => ⟨q1, q2, fun x hx => ?_⟩⟩
    rw [← HR.out] at hx
    obtain ⟨l, hl, rfl⟩ := List.mem_map.1 hx
    obtain ⟨i, hi⟩ := List.getElem?_of_mem hl
    exact q3 i l hi
  have HAT : Hid (∀ i, i < n → ∃ b, ls[i]? = some b) := fun i hi => ⟨_, List.getElem?_eq_getElem (by rw [Hn.out]; exact hi)⟩
  have HLT : Hid (∀ i b, ls[i]? = some b → i < n) := fun i b h => by rw [← Hn.out]; exact (List.getElem?_eq_some_iff.1 h).1
  have HPW : Hid (∀ d, d ≤ 8 → s ^ d ≤ 281474976710656) := fun d hd => Nat.le_trans (Nat.pow_le_pow_left hs64 d) (Nat.le_trans (Nat.pow_le_pow_right (by decide) hd) (by decide))
  have HP0 : Hid (∀ d, 0 < s ^ d) := fun d => Nat.pow_pos (by omega)
  have HS0 : Hid (Str s k R 0) := str_zero s k R
  clear hG hS0 hr0
  go_enter Try.func11, Try.ntmps11
  go_wp2
  go_loopw [6, 7, 8, 9, 10, 11] (fun av tv _ _ _ _ wr => ∃ d p : Nat, av = .int .i64 (p : Int) ∧ tv = .int .i64 ((d : Int) + 1) ∧ d ≤ k ∧ Hid (s ^ d = p) ∧ Hid (∀ q, q ≤ d → Str s k R q) ∧ Below w.heap.size w wr) (fun _ tv _ _ _ _ _ => (k + 1 - intOf tv).toNat)
  case atStart =>
    refine ⟨0, 1, rfl, rfl, by omega, rfl, ?_, Below.refl _ _⟩
    show ∀ q, q ≤ 0 → Str s k R q
    intro q h
    have e : q = 0 := by omega
    rw [e]
    exact HS0.out
  case round =>
    clear hc0
    obtain ⟨d, p, rfl, rfl, hd, HP, HQ, hB⟩ := hrel
    by_cases hlt : d < k
    · have hdd : decide ((d : Int) + 1 ≤ (k : Int)) = true := by simp; omega
      obtain ⟨A, HA⟩ : ∃ A, Hid (s ^ (d + 1) = A) := ⟨_, rfl⟩
      have hpA : (p : Int) * (s : Int) = (A : Int) := by rw [← HA.out, Nat.pow_succ, HP.out]; simp
      have hAl : A ≤ 281474976710656 := by rw [← HA.out]; exact HPW.out _ (by omega)
      have hpl : p ≤ 281474976710656 := by rw [← HP.out]; exact HPW.out _ (by omega)
      have hA0 : 0 < A := by rw [← HA.out]; exact HP0.out _
      have HNO : Hid (¬ (A ≤ n ∧ n % A = 0) → ¬ Str s k R (d + 1)) := fun h1 h2 => by
        have := (HDOC.out _).1 (h2 (List.range (d + 1)) (range_pts (by omega)) (by simp))
        rw [List.length_range, HA.out] at this
        exact h1 ⟨this.1, this.2.1⟩
      by_cases hAn : n < A
      · have hda : decide ((n : Int) < (A : Int)) = true := by simp; omega
        have HN : Hid (¬ Str s k R (d + 1)) := HNO.out (by omega)
        clear HNO
        go_wp2
        go_ret
        exact ⟨⟨d, by first | rfl | (congr 2; omega), hd, HQ.out, fun _ => HN.out⟩, hB⟩
      · have hda : decide ((n : Int) < (A : Int)) = false := by simp; omega
        have hdan : decide (n < A) = false := by simp; omega
        have hAi : (A : Int) ≠ 0 := by omega
        obtain ⟨r, Hr⟩ : ∃ r, Hid (n % A = r) := ⟨_, rfl⟩
        have hrm : (n : Int).tmod (A : Int) = (r : Int) := by rw [← Hr.out]; rfl
        have hrl : r < A := by rw [← Hr.out]; exact Nat.mod_lt _ hA0
        by_cases hr0 : r = 0
        · have hrd : ((r : Int) != 0) = false := by simp; omega
          obtain ⟨E, HE⟩ : ∃ E, Hid (n / A = E) := ⟨_, rfl⟩
          have hEq : (n : Int).tdiv (A : Int) = (E : Int) := by rw [← HE.out]; rfl
          have hEl : E ≤ n := by rw [← HE.out]; exact Nat.div_le_self _ _
          have C23 := Still_any (d + 1) wr (by omega)
          rw [show ((d + 1 : Nat) : Int) = (d : Int) + 1 from rfl] at C23
          have HOK : Hid (∀ cs, cs.length = d + 1 → (∀ (i : Nat) (l : List Int), ls[i]? = some l → hit R cs (fnA l) = E) → StrC s R cs) := fun cs hl h => (HDOC.out cs).2 (by rw [hl, HA.out, HE.out]; exact ⟨by omega, by rw [Hr.out]; exact hr0, h⟩)
          have HBAD : Hid (∀ (cs : List Nat) (i : Nat) (l : List Int), cs.length = d + 1 → Rs k 0 cs → ls[i]? = some l → hit R cs (fnA l) ≠ E → ¬ Str s k R (d + 1)) := fun cs i l hl hr hi hne h => hne (by
            have := ((HDOC.out cs).1 (h cs (rs_pts hr) hl)).2.2 i l hi
            rw [this, hl, HA.out, HE.out])
          obtain ⟨w1, Hw1⟩ : ∃ w1 : World, Hid (w1 = wr) := ⟨_, rfl⟩
          have HB1 : Hid (Below w.heap.size w w1) := by rw [Hw1.out]; exact hB
          have hsz1 : w.heap.size ≤ wr.heap.size := hB.size
          clear HNO hr0
          go_wp2_with (go_at_call 23; refine C23.mono ?_; rintro e1 w2 ⟨sv, rfl, hown, b2⟩; clear C23)
          obtain ⟨g, sc, rfl, hgb, hO0⟩ := Own.of hown (by omega)
          have hO : Own w2 g (d + 1) fun j => ((fun x => x) j : Int) := hO0.congr fun j hj => pl_at _ hj
          have hRs0 : Rs k 0 (fl (d + 1) fun x => x) := by rw [fl_id]; exact rs_range (by omega)
          have HAH0 : Hid (AhS s k R (d + 1) (fl (d + 1) fun x => x)) := AhS.start s k R (d + 1)
          have hB2 : Below w.heap.size w w2 := Below.next hB b2
          have hgw : w.heap.size ≤ g := Nat.le_trans hsz1 hgb
          clear hown hO0 b2 hgb hB
          go_loopw [9, 10, 11] (fun _ _ _ wr' => ∃ f : Nat → Nat, Own wr' g (d + 1) (fun j => (f j : Int)) ∧ Rs k 0 (fl (d + 1) f) ∧ Hid (AhS s k R (d + 1) (fl (d + 1) f)) ∧ Below w.heap.size w wr') (fun _ _ _ wr' => 41 ^ 8 - vlN (rdN wr' g (d + 1)))
          case atStart => exact ⟨fun x => x, hO, hRs0, HAH0, hB2⟩
          case round =>
            clear hO hRs0 HAH0 hB2
            obtain ⟨f, hO, hRs, HAH, hB⟩ := hrel
            obtain ⟨cs, Hcs⟩ : ∃ cs, Hid (fl (d + 1) f = cs) := ⟨_, rfl⟩
            obtain ⟨w3, Hw3⟩ : ∃ w3 : World, Hid (w3 = wr) := ⟨_, rfl⟩
            have HB3 : Hid (Below w.heap.size w w3) := by rw [Hw3.out]; exact hB
            have HO3 : Hid (Own w3 g (d + 1) fun j => (f j : Int)) := by rw [Hw3.out]; exact hO
            have HRD : Hid (rdN wr g (d + 1) = fl (d + 1) f) := rd_own hO
            have HRS : Hid (Rs k 0 (fl (d + 1) f)) := hRs
            have hcl : cs.length = d + 1 := by rw [← Hcs.out]; exact fl_len _ _
            have HCL : Hid (cs.length = d + 1) := hcl
            clear hRs hO hcl
            go_wp2
            go_loopw [9, 10] (fun iv _ wr' => ∃ i : Nat, iv = .int .i64 (i : Int) ∧ i ≤ n ∧ Hid (∀ j l, j < i → ls[j]? = some l → hit R cs (fnA l) = E) ∧ Below w3.heap.size w3 wr') (fun iv _ _ => (n - intOf iv).toNat)
            case atStart => exact ⟨0, rfl, by omega, (show ∀ j l, j < 0 → _ from fun j l h => by omega), by rw [Hw3.out]; exact Below.refl _ _⟩
            case round =>
              clear hB
              obtain ⟨i, rfl, hi, HI, hB4⟩ := hrel
              have hBB := Below.next HB3.out hB4
              by_cases hli : i < n
              · have hdi : decide ((i : Int) < (n : Int)) = true := by simp; omega
                obtain ⟨l, hl⟩ := HAT.out i hli
                have CA := HAL.out wr cs _ i l hBB (by rw [← Hcs.out]; exact HRS.out) (by rw [HCL.out]; omega) (by rw [← Hcs.out]; exact own_fl (HO3.out.below hB4) sc) hl
                obtain ⟨h, Hh⟩ : ∃ h, Hid (hit R cs (fnA l) = h) := ⟨_, rfl⟩
                rw [Hh.out] at CA
                rw [show ((d + 1 : Nat) : Nat) = d + 1 from rfl] at CA
                by_cases heq : h = E
                · have HI2 : Hid (∀ j l, j < i + 1 → ls[j]? = some l → hit R cs (fnA l) = E) := fun j m hj hm => by
                    by_cases e : j = i
                    · subst e
                      have := hl.symm.trans hm
                      cases this
                      exact Hh.out.trans heq
                    · exact HI.out j m (by omega) hm
                  have hdh : ((h : Int) != (E : Int)) = false := by rw [heq]; simp
                  clear HI hl heq
                  go_wp2_with (go_at_call 24; refine CA.mono ?_; rintro e1 w4 ⟨rfl, b4⟩; clear CA)
                  go_roundw
                  case rel => exact ⟨i + 1, by go_num, by omega, HI2, Below.next hB4 b4⟩
                  case measure => simp [intOf]; omega
                · have HN : Hid (¬ Str s k R (d + 1)) := HBAD.out cs i l HCL.out (by rw [← Hcs.out]; exact HRS.out) hl (by rw [Hh.out]; exact heq)
                  have hdh : ((h : Int) != (E : Int)) = true := by simp; omega
                  clear HI hl heq
                  go_wp2_with (go_at_call 24; refine CA.mono ?_; rintro e1 w4 ⟨rfl, b4⟩; clear CA)
                  go_ret
                  exact ⟨⟨d, by first | rfl | (congr 2; omega), hd, HQ.out, fun _ => HN.out⟩, Below.next hBB b4⟩
              · have hdi : decide ((i : Int) < (n : Int)) = false := by simp; omega
                obtain rfl : i = n := by omega
                have HOKC : Hid (StrC s R cs) := HOK.out cs HCL.out fun j l hl => HI.out j l (HLT.out j l hl) hl
                have hO4 := HO3.out.below hB4
                have CN := NextSet_any k (d + 1) g sc f wr (by omega) (by omega) (by omega) (by omega) (fun j hj => (Rs.mem HRS.out (f j) (by unfold fl; exact List.mem_map.2 ⟨j, List.mem_range.2 hj, rfl⟩)).2) hO4
                clear hli
                cases hnx : nx k (fl (d + 1) f) with
                | none =>
                  have CN' : Calls Try.prog 25 #[.slice (some ⟨g, 0, none⟩) (d + 1) sc, .int .i64 (k : Int)] wr fun e w' => e = .returned (.bool false) ∧ Below g wr w' := CN.mono (by
                    rintro e w' ⟨h, b⟩
                    refine ⟨?_, b⟩
                    rcases h with ⟨f', _, h, _⟩ | ⟨h, _⟩
                    · rw [hnx] at h; cases h
                    · exact h)
                  have HDN : Hid (Str s k R (d + 1)) := HAH.out.done HRS.out (fl_len _ _) (by rw [Hcs.out]; exact HOKC.out) hnx
                  have HQ2 : Hid (∀ q, q ≤ d + 1 → Str s k R q) := fun q h => by
                    by_cases e : q = d + 1
                    · rw [e]; exact HDN.out
                    · exact HQ.out q (by omega)
                  clear CN hnx HAH HQ
                  go_wp2_with (go_at_call 25; refine CN'.mono ?_; rintro e1 w5 ⟨rfl, b5⟩; clear CN')
                  go_roundw
                  case rel => exact ⟨d + 1, A, by go_num, by go_num, by omega, HA, HQ2, hBB.trans (b5.mono hgw)⟩
                  case measure => simp [intOf]; omega
                | some c2 =>
                  have CN' : Calls Try.prog 25 #[.slice (some ⟨g, 0, none⟩) (d + 1) sc, .int .i64 (k : Int)] wr fun e w' => (∃ f', e = .returned (.bool true) ∧ nx k (fl (d + 1) f) = some (fl (d + 1) f') ∧ Own w' g (d + 1) fun j => (f' j : Int)) ∧ Below g wr w' := CN.mono (by
                    rintro e w' ⟨h, b⟩
                    refine ⟨?_, b⟩
                    rcases h with ⟨f', h1, h2, h3⟩ | ⟨_, h⟩
                    · exact ⟨f', h1, h2, h3⟩
                    · rw [hnx] at h; cases h)
                  have HNX : Hid (∀ f', nx k (fl (d + 1) f) = some (fl (d + 1) f') → Rs k 0 (fl (d + 1) f') ∧ AhS s k R (d + 1) (fl (d + 1) f') ∧ 41 ^ 8 - vlN (fl (d + 1) f') < 41 ^ 8 - vlN (fl (d + 1) f)) := fun f' hn => by
                    obtain ⟨q1, q2, q3, _⟩ := nx_some HRS.out hn
                    refine ⟨q1, HAH.out.next HRS.out (fl_len _ _) (by rw [Hcs.out]; exact HOKC.out) hn, ?_⟩
                    have h41 : ∀ s', Rs k 0 s' → ∀ x ∈ s', x < 41 := fun s' h x hx => by have := (Rs.mem h x hx).2; omega
                    have a1 := vlN_llt (h41 _ HRS.out) (h41 _ q1) q2.symm q3
                    have a2 := vlN_lt (h41 _ q1)
                    rw [fl_len] at a2
                    have a3 : 41 ^ (d + 1) ≤ 41 ^ 8 := Nat.pow_le_pow_right (by decide) (by omega)
                    omega
                  clear CN hnx HAH
                  go_wp2_with (go_at_call 25; refine CN'.mono ?_; rintro e1 w5 ⟨⟨f', rfl, hn', hO5⟩, b5⟩; clear CN')
                  go_roundw
                  case rel => exact ⟨f', hO5, (HNX.out f' hn').1, (HNX.out f' hn').2.1, hBB.trans (b5.mono hgw)⟩
                  case measure =>
                    rw [rd_own hO5, HRD.out]
                    exact (HNX.out f' hn').2.2
        · have hrd : ((r : Int) != 0) = true := by simp; omega
          have HN : Hid (¬ Str s k R (d + 1)) := HNO.out (by rw [Hr.out]; omega)
          clear HNO
          go_wp2
          go_ret
          exact ⟨⟨d, by first | rfl | (congr 2; omega), hd, HQ.out, fun _ => HN.out⟩, hB⟩
    · have hdd : decide ((d : Int) + 1 ≤ (k : Int)) = false := by simp; omega
      obtain rfl : d = k := by omega
      go_wp2
      go_ret
      exact ⟨⟨d, rfl, by omega, HQ.out, fun h => by omega⟩, hB⟩
end Go.Proofs.Ytjfjdidibglhaaa
