/- The walk of cuts: a search that remembers what cannot be cut. -/
import Derived.Test.YtnnopfdckillpaaDoorHQ
import Derived.Test.YtnnopfdckillpaaDoorF6
import Derived.Maps.OwnSet
import Derived.Maps.AppendAt
namespace Go.Proofs.YtnnopfdckillpaaDoor
open Go.RowKit Go.Shelf Go.Maps

theorem und73 : Tryd.prog.underlying 73 = some (.map 46 83) := by kernel_rfl
theorem lawS : Keyed Tryd.prog 46 := int_keyed Tryd.underlying46
theorem zero83 (w : World) : (zeroValue 83).run Tryd.prog w = .ok (.agg #[]) w := by kernel_rfl
theorem countP_less {p q : Nat → Bool} {x : Nat} (h : ∀ m, p m = true → q m = true) (hp : p x = false) (hq : q x = true) : ∀ {l : List Nat}, x ∈ l → l.countP p + 1 ≤ l.countP q
  | [], hx => by simp at hx
  | y :: l, hx => by
    have hle : ∀ l : List Nat, l.countP p ≤ l.countP q := fun l => List.countP_mono_left fun m _ => h m
    rw [List.countP_cons, List.countP_cons]
    by_cases e : y = x
    · subst e
      rw [hp, hq]
      have := hle l
      simp
      omega
    · have hx' : x ∈ l := by
        rcases List.mem_cons.1 hx with h | h
        · exact (e h.symm).elim
        · exact h
      have := countP_less h hp hq hx'
      have h2 : (if p y = true then 1 else 0) ≤ (if q y = true then 1 else 0) := by
        by_cases e1 : p y = true
        · rw [if_pos e1, if_pos (h y e1)]; exact Nat.le_refl _
        · rw [if_neg e1]; exact Nat.zero_le _
      omega
def hasS (D : DataW Unit) (m : Nat) : Bool := Maps.has D (.int .u64 (m : Int))
def cntD (v : Nat) (D : DataW Unit) : Nat := (List.range (2 ^ v)).countP (hasS D)
theorem cntD_le (v : Nat) (D : DataW Unit) : cntD v D ≤ 2 ^ v := Nat.le_trans List.countP_le_length (by simp)
/-- What is remembered cannot be cut. -/
structure StI (v mb n : Nat) (B : List (List Nat)) (D : DataW Unit) (W : World) : Prop where
  own : W.ownsMap Tryd.prog 46 (unitElem (H := Unit)) mb n D
  cnt : n ≤ cntD v D
  stuck : ∀ m : Nat, m < 2 ^ v → hasS D m = true → ccB v B (dn m) = false
theorem hasS_put {D : DataW Unit} {L : Nat} (hD : IsMap D) (hL : L < 2 ^ 64) (m : Nat) (d : DataW Unit) : hasS (D.put (.int .u64 (L : Int)) d) m = (hasS D m || decide (m = L)) := by
  unfold hasS
  by_cases e : m = L
  · subst e
    rw [has_put_same hD (by first | trivial | (simp [WideAt.IsKeyLit]) )]
    simp
  · rw [has_put_other (by simp; omega)]
    simp [e]
theorem StI.put {v mb n L : Nat} {B : List (List Nat)} {D : DataW Unit} {W W' : World} (h : StI v mb n B D W) (ho : W'.ownsMap Tryd.prog 46 (unitElem (H := Unit)) mb (n + 1) (D.put (.int .u64 (L : Int)) (.agg []))) (hv : v ≤ 15) (hL : L < 2 ^ v) (hn : hasS D L = false) (hc : ccB v B (dn L) = false) : StI v mb (n + 1) B (D.put (.int .u64 (L : Int)) (.agg [])) W' := by
  have hL64 : L < 2 ^ 64 := Nat.lt_of_lt_of_le hL (Nat.pow_le_pow_right (by decide) (by omega))
  refine ⟨ho, ?_, fun m hm hh => ?_⟩
  · have := h.cnt
    have h2 : cntD v D + 1 ≤ cntD v (D.put (.int .u64 (L : Int)) (.agg [])) := countP_less (x := L) (fun m hm => by rw [hasS_put h.own.isMap hL64, hm]; rfl) hn (by rw [hasS_put h.own.isMap hL64]; simp) (List.mem_range.2 hL)
    omega
  · rw [hasS_put h.own.isMap hL64, Bool.or_eq_true, decide_eq_true_eq] at hh
    rcases hh with hh | rfl
    · exact h.stuck m hm hh
    · exact hc
/-- What lies about a search. -/
structure CX (B : List (List Nat)) (cb mb : Nat) (a : Option Addr) (cap : Nat) (w : World) : Prop where
  tab : Tab w
  ne0 : mb ≠ 0
  ne : cb ≠ mb
  box : w.heap[cb]? = some (.cells #[.slice a B.length cap, .map (some mb)] 75 (0, 0))
  bc : ∀ j, j < B.length → ∃ g off, a = some ⟨g, off, none⟩ ∧ g ≠ mb ∧ w.cell? ⟨g, off + j, none⟩ = some (.int .u64 ((sb (B.getD j []) : Nat) : Int))
theorem CX.grown {B : List (List Nat)} {cb mb : Nat} {a : Option Addr} {cap : Nat} {w w' : World} (h : CX B cb mb a cap w) (g : w.grownBy w' (some mb)) : CX B cb mb a cap w' := by
  have blk : ∀ k o, w.heap[k]? = some o → k ≠ mb → w'.heap[k]? = some o := fun k o hk hn => (g.block k (Array.getElem?_eq_some_iff.1 hk).1 (by simpa using hn)).trans hk
  obtain ⟨t, fr, ht⟩ := h.tab
  refine ⟨⟨t, fr, blk 0 _ ht (fun e => h.ne0 e.symm)⟩, h.ne0, h.ne, blk _ _ h.box h.ne, fun j hj => ?_⟩
  obtain ⟨gg, off, e, hn, hc⟩ := h.bc j hj
  refine ⟨gg, off, e, hn, ?_⟩
  have hlt := World.block_lt_of_cell? _ _ hc
  have hb := g.block gg hlt (by simpa using hn)
  rw [← hc]
  unfold World.cell?
  simp only [hb]
theorem wfU {L : Nat} (h : L < 2 ^ 64) : (Lit.int .u64 (L : Int)).wf = true := by
  simp [Lit.wf, IntKind.min, IntKind.max, IntKind.bits, IntKind.signed]
  omega
theorem grown_al {w w' : World} {mb : Nat} (g : w.grownBy w' (some mb)) (o : Obj) : w.grownBy (w'.alloc o) (some mb) := g.trans ((World.grownBy_alloc w' o none).but _)
theorem an_lt {L y k : Nat} (hL : L < 2 ^ 64) (hy : y < 2 ^ 64) (h1 : L.testBit k = true) (h2 : y.testBit k = true) : an L y < L := by
  rcases Nat.lt_or_ge (an L y) L with h | h
  · exact h
  · have e : an L y = L := Nat.le_antisymm (an_le L y) h
    have := an_bit (i := k) hL hy
    rw [e, h1, h2] at this
    cases this

set_option maxRecDepth 100000 in
set_option maxHeartbeats 4000000 in
theorem cuts_any (v : Nat) (B : List (List Nat)) (G : GoodD v B) (hv : v ≤ 15) (cb mb : Nat) (a : Option Addr) (cap : Nat) : ∀ (N L : Nat) (n : Nat) (D : DataW Unit) (w : World), L < N → L < 2 ^ v → CX B cb mb a cap w → StI v mb n B D w →
    Calls Tryd.prog 46 #[.pointer (some ⟨cb, 0, none⟩), .int .u64 (L : Int)] w fun e w' => e = .returned (.bool (ccB v B (dn L))) ∧ (∃ n' D', StI v mb n' B D' w' ∧ ∀ m, L < m → hasS D' m = hasS D m) ∧ w.grownBy w' (some mb)
  | 0, _, _, _, _, h, _, _, _ => by omega
  | N + 1, L, n, D, w, hN, hL, hX, hS => by
    have hp15 : (2 : Nat) ^ v ≤ 32768 := Nat.pow_le_pow_right (n := 2) (by decide) hv
    have hL64 : L < 2 ^ 64 := by omega
    have IH : Hid (∀ (L' : Nat) (n : Nat) (D : DataW Unit) (w : World), L' < N → L' < 2 ^ v → CX B cb mb a cap w → StI v mb n B D w → Calls Tryd.prog 46 #[.pointer (some ⟨cb, 0, none⟩), .int .u64 (L' : Int)] w fun e w' => e = .returned (.bool (ccB v B (dn L'))) ∧ (∃ n' D', StI v mb n' B D' w' ∧ ∀ m, L' < m → hasS D' m = hasS D m) ∧ w.grownBy w' (some mb)) := fun L' n D w h1 h2 h3 h4 => cuts_any v B G hv cb mb a cap N L' n D w h1 h2 h3 h4
    by_cases hL0 : L = 0
    · subst hL0
      have hc : ccB v B (dn 0) = true := cc_full (fullD_iff.2 fun x _ => by show (!(0 : Nat).testBit x) = true; rw [Nat.zero_testBit]; rfl) B
      rw [hc]
      go_enter Tryd.func46, Tryd.ntmps46
      go_wp2
      go_ret
      exact ⟨rfl, ⟨n, D, hS, fun _ _ => rfl⟩, World.grownBy.refl _ _⟩
    · have hl0 : ((L : Int) == 0) = false := beq_eq_false_iff_ne.2 (by omega)
      have b0 : w.cell? ⟨cb, 0, none⟩ = some (.slice a B.length cap) := by rw [cell_of_row _ _ _ _ _ _ hX.box]; rfl
      have b1 : w.cell? ⟨cb, 1, none⟩ = some (.map (some mb)) := by rw [cell_of_row _ _ _ _ _ _ hX.box]; rfl
      have hkey : keyOf Tryd.prog 46 (.int .u64 (L : Int)) = some (.int .u64 (L : Int)) := keyOf_int_mk Tryd.underlying46 (wfU hL64)
      have hown := hS.own
      cases hh : Maps.has D (.int .u64 (L : Int)) with
      | true =>
        have hc : ccB v B (dn L) = false := hS.stuck L hL hh
        rw [hc]
        go_enter Tryd.func46, Tryd.ntmps46
        go_wp2_with (at_lookup; refine wpList_lookup_own_unit _ rfl _ _ 73 rfl 46 83 lawS und73 (zero83 _) mb n D rfl hown _ _ rfl hkey ?_; rw [hh])
        go_ret
        exact ⟨rfl, ⟨n, D, ⟨hown.alloc _, hS.cnt, hS.stuck⟩, fun _ _ => rfl⟩, grown_al (World.grownBy.refl _ _) _⟩
      | false =>
        have HD : Hid (hasS D L = false) := hh
        obtain ⟨k, m, hk, hk64, _⟩ := first_any L w hX.tab hL64 hL0
        have hLk : L.testBit k = true := (low_off hk k).2.1
        have hkv : k < v := by
          rcases Nat.lt_or_ge k v with h | h
          · exact h
          · rw [testBit_high hL h] at hLk; cases hLk
        have HF : Hid (∀ W, Tab W → Calls Tryd.prog 53 #[.int .u64 (L : Int)] W fun e w' => e = .returned (.int .i64 (k : Int)) ∧ w' = W) := fun W hW => by
          obtain ⟨k', m', hk', hk64', C⟩ := first_any L W hW hL64 hL0
          have e : k' = k := by
            have h1 := (low_off hk' k).1 hLk
            have h2 := (low_off hk k').1 (low_off hk' k').2.1
            omega
          rwa [e] at C
        have hdk : dn L k = false := by show (!L.testBit k) = false; rw [hLk]; rfl
        have HB64 : Hid (∀ i, i < B.length → ∀ x ∈ B.getD i [], x < 64) := fun i hi x hx => by
          have hm : B.getD i [] ∈ B := by rw [List.getD_eq_getElem?_getD, List.getElem?_eq_getElem hi]; exact List.getElem_mem hi
          have := (G.bls _ hm).lt x hx
          omega
        have HCP : Hid (ccB v B (dn L) = true ↔ ∃ i, i < B.length ∧ k ∈ B.getD i [] ∧ fitD (dn L) (B.getD i []) = true ∧ ccB v B (addD (dn L) (B.getD i [])) = true) := cc_point hkv hdk
        obtain ⟨R, HR⟩ : ∃ R, Hid (ccB v B (dn L) = R) := ⟨_, rfl⟩
        rw [HR.out] at HCP ⊢
        have hgx : w.grownBy (w.alloc (.cells #[] 83)) (some mb) := grown_al (World.grownBy.refl _ _) _
        have HX1 : Hid (CX B cb mb a cap (w.alloc (.cells #[] 83))) := hX.grown hgx
        have HS1 : Hid (StI v mb n B D (w.alloc (.cells #[] 83))) := ⟨hown.alloc _, hS.cnt, hS.stuck⟩
        have HG1 : Hid (w.grownBy (w.alloc (.cells #[] 83)) (some mb)) := hgx
        have HXG : Hid (∀ W, w.grownBy W (some mb) → CX B cb mb a cap W) := fun W hW => hX.grown hW
        have h200 := G.few
        have b2 : (w.alloc (.cells #[] 83)).cell? ⟨cb, 0, none⟩ = some (.slice a B.length cap) := by rw [cell_of_row _ _ _ _ _ _ HX1.out.box]; rfl
        have HSW : Hid (∀ i, i < B.length → (an (sb (B.getD i [])) L = 0 ↔ ∀ x ∈ B.getD i [], dn L x = false) ∧ dn (an L (sb (B.getD i []))) = addD (dn L) (B.getD i []) ∧ ((sb (B.getD i [])).testBit k = true ↔ k ∈ B.getD i []) ∧ sb (B.getD i []) < 2 ^ 64) := fun i hi => ⟨within_dn hL64 (HB64.out i hi), dn_add hL64 (HB64.out i hi), by rw [sb_bit]; exact List.contains_iff_mem, sb_lt (HB64.out i hi)⟩
        generalize hBn : B.length = bn at *
        clear hX hS hgx HB64 hdk hk
        go_enter Tryd.func46, Tryd.ntmps46
        go_wp2_with (at_lookup; refine wpList_lookup_own_unit _ rfl _ _ 73 rfl 46 83 lawS und73 (zero83 _) mb n D rfl hown _ _ rfl hkey ?_; rw [hh])
        go_loopw [26] (fun iv wr => ∃ (i n' : Nat) (D' : DataW Unit), iv = .int .i64 (i : Int) ∧ i ≤ bn ∧ Hid (StI v mb n' B D' wr) ∧ Hid (hasS D' L = false ∧ ∀ m, L < m → hasS D' m = hasS D m) ∧ w.grownBy wr (some mb) ∧ Hid (∀ j, j < i → ¬ (k ∈ B.getD j [] ∧ fitD (dn L) (B.getD j []) = true ∧ ccB v B (addD (dn L) (B.getD j [])) = true))) (fun iv _ => (bn - intOf iv).toNat)
        case atStart => exact ⟨0, n, D, rfl, by omega, HS1, ⟨HD.out, fun _ _ => rfl⟩, HG1.out, fun j hj => by omega⟩
        case round =>
          clear b0 b1 b2
          obtain ⟨i, n', D', rfl, hi, HSI, HDD, hg, HNO⟩ := hrel
          have HXr := HXG.out _ hg
          have HXR : Hid (CX B cb mb a cap wr) := HXr
          have b0 : wr.cell? ⟨cb, 0, none⟩ = some (.slice a bn cap) := by rw [cell_of_row _ _ _ _ _ _ HXr.box, hBn]; rfl
          have b1 : wr.cell? ⟨cb, 1, none⟩ = some (.map (some mb)) := by rw [cell_of_row _ _ _ _ _ _ HXr.box]; rfl
          by_cases hlt : i < bn
          · have hd : decide ((i : Int) < (bn : Int)) = true := by simp; omega
            have hii : (i : Int) < (bn : Int) := by omega
            obtain ⟨gg, off, rfl, -, hci⟩ := HXr.bc i (by omega)
            obtain ⟨q1, q2, q3, q4⟩ := HSW.out i hlt
            have CF := HF.out wr HXr.tab
            clear HXr
            obtain ⟨y, Hy⟩ : ∃ y, Hid (sb (B.getD i []) = y) := ⟨_, rfl⟩
            rw [Hy.out] at hci q1 q2 q3 q4
            have CHs := has_any y k q4 hk64 wr
            have HQ3 : Hid (y.testBit k = true ↔ k ∈ B.getD i []) := q3
            have HQ1 : Hid (an y L = 0 ↔ ∀ x ∈ B.getD i [], dn L x = false) := q1
            have HQ2 : Hid (dn (an L y) = addD (dn L) (B.getD i [])) := q2
            clear q1 q2 q3
            cases ht : y.testBit k with
            | false =>
              rw [ht] at CHs
              have HN2 : Hid (∀ j, j < i + 1 → ¬ (k ∈ B.getD j [] ∧ fitD (dn L) (B.getD j []) = true ∧ ccB v B (addD (dn L) (B.getD j [])) = true)) := fun j hj ⟨h1, h2⟩ => by
                by_cases e : j = i
                · subst e
                  rw [HQ3.out.2 h1] at ht; cases ht
                · exact HNO.out j (by omega) ⟨h1, h2⟩
              clear ht
              go_wp2_with (first
                | (go_at_call 53; refine CF.mono ?_; rintro e w4 ⟨rfl, hw4⟩; replace hw4 := hw4.symm; subst hw4; clear CF)
                | (go_at_call 45; refine CHs.mono ?_; rintro e w4 ⟨rfl, hw4⟩; replace hw4 := hw4.symm; subst hw4; clear CHs))
              go_roundw
              case rel => exact ⟨i + 1, n', D', by go_num, by omega, HSI, HDD, hg, HN2⟩
              case measure => simp [intOf]; omega
            | true =>
              rw [ht] at CHs
              by_cases hw0 : an y L = 0
              · have CWi := within_any y L true q4 hL64 (decide_eq_true hw0) wr
                have CWo := without_any L y hL64 q4 wr
                have hlt2 : an L y < L := an_lt hL64 q4 hLk ht
                have hkb : k ∈ B.getD i [] := HQ3.out.1 ht
                have hfit : fitD (dn L) (B.getD i []) = true := fitD_iff.2 ⟨fun e => by rw [e] at hkb; simp at hkb, HQ1.out.1 hw0⟩
                have CR := IH.out (an L y) n' D' wr (by omega) (by omega) HXR.out HSI.out
                rw [HQ2.out] at CR
                obtain ⟨L', HL'⟩ : ∃ L', Hid (an L y = L') := ⟨_, rfl⟩
                rw [HL'.out] at CR CWo hlt2
                have HLT : Hid (L' < L) := hlt2
                cases hr : ccB v B (addD (dn L) (B.getD i [])) with
                | true =>
                  rw [hr] at CR
                  have hRt : R = true := HCP.out.2 ⟨i, hlt, hkb, hfit, hr⟩
                  subst hRt
                  clear ht hw0 hr hkb hfit hlt2
                  go_wp2_with (first
                    | (go_at_call 53; refine CF.mono ?_; rintro e w4 ⟨rfl, hw4⟩; replace hw4 := hw4.symm; subst hw4; clear CF)
                    | (go_at_call 45; refine CHs.mono ?_; rintro e w4 ⟨rfl, hw4⟩; replace hw4 := hw4.symm; subst hw4; clear CHs)
                    | (go_at_call 47; refine CWi.mono ?_; rintro e w4 ⟨rfl, hw4⟩; replace hw4 := hw4.symm; subst hw4; clear CWi)
                    | (go_at_call 26; refine CWo.mono ?_; rintro e w4 ⟨rfl, hw4⟩; replace hw4 := hw4.symm; subst hw4; clear CWo)
                    | (go_at_call 46; refine CR.mono ?_; rintro e w5 ⟨rfl, ⟨n5, D5, hS5, hD5⟩, hg5⟩; clear CR))
                  go_ret
                  exact ⟨rfl, ⟨n5, D5, hS5, fun m hm => (hD5 m (by have := HLT.out; omega)).trans (HDD.out.2 m hm)⟩, hg.trans hg5⟩
                | false =>
                  rw [hr] at CR
                  have HN2 : Hid (∀ j, j < i + 1 → ¬ (k ∈ B.getD j [] ∧ fitD (dn L) (B.getD j []) = true ∧ ccB v B (addD (dn L) (B.getD j [])) = true)) := fun j hj ⟨h1, h2, h3⟩ => by
                    by_cases e : j = i
                    · subst e
                      rw [hr] at h3; cases h3
                    · exact HNO.out j (by omega) ⟨h1, h2, h3⟩
                  clear ht hw0 hr hkb hfit hlt2
                  go_wp2_with (first
                    | (go_at_call 53; refine CF.mono ?_; rintro e w4 ⟨rfl, hw4⟩; replace hw4 := hw4.symm; subst hw4; clear CF)
                    | (go_at_call 45; refine CHs.mono ?_; rintro e w4 ⟨rfl, hw4⟩; replace hw4 := hw4.symm; subst hw4; clear CHs)
                    | (go_at_call 47; refine CWi.mono ?_; rintro e w4 ⟨rfl, hw4⟩; replace hw4 := hw4.symm; subst hw4; clear CWi)
                    | (go_at_call 26; refine CWo.mono ?_; rintro e w4 ⟨rfl, hw4⟩; replace hw4 := hw4.symm; subst hw4; clear CWo)
                    | (go_at_call 46; refine CR.mono ?_; rintro e w5 ⟨rfl, ⟨n5, D5, hS5, hD5⟩, hg5⟩; clear CR))
                  go_roundw
                  case rel => exact ⟨i + 1, n5, D5, by go_num, by omega, hS5, ⟨(hD5 L HLT.out).trans HDD.out.1, fun m hm => (hD5 m (by have := HLT.out; omega)).trans (HDD.out.2 m hm)⟩, hg.trans hg5, HN2⟩
                  case measure => simp [intOf]; omega
              · have CWi := within_any y L false q4 hL64 (decide_eq_false hw0) wr
                have HN2 : Hid (∀ j, j < i + 1 → ¬ (k ∈ B.getD j [] ∧ fitD (dn L) (B.getD j []) = true ∧ ccB v B (addD (dn L) (B.getD j [])) = true)) := fun j hj ⟨h1, h2, h3⟩ => by
                  by_cases e : j = i
                  · subst e
                    exact hw0 (HQ1.out.2 (fitD_iff.1 h2).2)
                  · exact HNO.out j (by omega) ⟨h1, h2, h3⟩
                clear ht hw0
                go_wp2_with (first
                  | (go_at_call 53; refine CF.mono ?_; rintro e w4 ⟨rfl, hw4⟩; replace hw4 := hw4.symm; subst hw4; clear CF)
                  | (go_at_call 45; refine CHs.mono ?_; rintro e w4 ⟨rfl, hw4⟩; replace hw4 := hw4.symm; subst hw4; clear CHs)
                  | (go_at_call 47; refine CWi.mono ?_; rintro e w4 ⟨rfl, hw4⟩; replace hw4 := hw4.symm; subst hw4; clear CWi))
                go_roundw
                case rel => exact ⟨i + 1, n', D', by go_num, by omega, HSI, HDD, hg, HN2⟩
                case measure => simp [intOf]; omega
          · have hd : decide ((i : Int) < (bn : Int)) = false := by simp; omega
            obtain rfl : i = bn := by omega
            have hRf : R = false := by
              cases e : R with
              | false => rfl
              | true =>
                obtain ⟨j, hj, h⟩ := HCP.out.1 e
                exact (HNO.out j hj h).elim
            subst hRf
            have hown2 := HSI.out.own
            have hn2 : n' < maxLen := by
              have h1 := HSI.out.cnt
              have h2 := cntD_le v D'
              unfold maxLen; omega
            clear HNO HXr
            go_wp2_with (at_mapUpdate; refine wpList_mapUpdate_own _ rfl _ _ _ 73 rfl 46 83 lawS und73 (unitElem (H := Unit)) mb n' _ rfl hown2 hn2 _ _ _ rfl rfl hkey _ [] unitElem_mk ?_; intro w2 hown3 hgrow)
            go_ret
            exact ⟨rfl, ⟨n' + 1, _, HSI.out.put hown3 hv hL HDD.out.1 HR.out, fun m hm => by rw [hasS_put hown2.isMap hL64, HDD.out.2 m hm]; simp; omega⟩, hg.trans hgrow⟩

end Go.Proofs.YtnnopfdckillpaaDoor
