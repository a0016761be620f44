/- The landed Bruijn, walked: Lyndon words, one behind the other. -/
import Derived.Test.YtcjkcgfohmhbcabX7
import Derived.Test.YtcjkcgfohmhbcabX5
import Derived.Test.YtcjkcgfohmhbcabWxC
import Derived.Deep.LoopGhost
namespace Go.Proofs.Ytcjkcgfohmhbcab
open Go.RowKit

theorem raR_lt {k : Nat} : ∀ (l : List Nat), (∀ x ∈ l, x < k) → ∀ x ∈ raR k l, x < k
  | [], _, x, hx => by cases hx
  | y :: t, h, x, hx => by
    by_cases e : y + 1 = k
    · rw [raR_yes t e] at hx
      exact raR_lt t (fun z hz => h z (List.mem_cons_of_mem _ hz)) x hx
    · rw [raR_no t e] at hx
      rcases List.mem_cons.1 hx with rfl | hx
      · have := h y (List.mem_cons_self ..)
        omega
      · exact h x (List.mem_cons_of_mem _ hx)
theorem raR_len {k : Nat} : ∀ (l : List Nat), (raR k l).length ≤ l.length
  | [] => Nat.le_refl _
  | y :: t => by
    by_cases e : y + 1 = k
    · rw [raR_yes t e]
      exact Nat.le_trans (raR_len t) (Nat.le_succ _)
    · rw [raR_no t e]
      exact Nat.le_refl _
theorem nxt_lt {k n : Nat} {M : List Nat} (hM : ∀ x ∈ M, x < k) (h0 : 0 < M.length) : ∀ x ∈ nxt k n M, x < k := fun x hx => by
  unfold nxt at hx
  exact raR_lt _ (fun y hy => cyc_lt hM h0 y (List.mem_reverse.1 hy)) x (List.mem_reverse.1 hx)
theorem nxt_len (k n : Nat) (M : List Nat) : (nxt k n M).length ≤ n := by
  unfold nxt
  rw [List.length_reverse]
  refine Nat.le_trans (raR_len _) ?_
  rw [List.length_reverse, cyc_len]
  exact Nat.le_refl _
theorem fkm_more {k n f : Nat} {M R : List Nat} (h : fkm k n f M = some R) (h0 : 0 < M.length) : ∃ g R', f = g + 1 ∧ fkm k n g (nxt k n M) = some R' ∧ (n % M.length = 0 → R = M ++ R') ∧ (¬ n % M.length = 0 → R = R') := by
  cases M with
  | nil => cases h0
  | cons x t =>
    cases f with
    | zero => cases h
    | succ g =>
      have h1 : (match fkm k n g (nxt k n (x :: t)) with
        | none => none
        | some R => some (if n % (x :: t).length = 0 then (x :: t) ++ R else R)) = some R := h
      cases e : fkm k n g (nxt k n (x :: t)) with
      | none => rw [e] at h1; cases h1
      | some R' =>
        rw [e] at h1
        have h2 := Option.some.inj h1
        refine ⟨g, R', rfl, e, fun h => ?_, fun h => ?_⟩
        · rw [if_pos h] at h2; exact h2.symm
        · rw [if_neg h] at h2; exact h2.symm
theorem fkm_nil {k n f : Nat} {R : List Nat} (h : fkm k n f [] = some R) : R = [] := by
  cases f <;> exact (Option.some.inj h).symm
/-- What is still to come. -/
def Rest (k n f : Nat) (Z P M : List Nat) : Prop := ∃ R, fkm k n f M = some R ∧ Z = P ++ R
theorem Rest.nil {k n f : Nat} {Z P : List Nat} (h : Rest k n f Z P []) : Z = P := by
  obtain ⟨R, h1, h2⟩ := h
  rw [h2, fkm_nil h1, List.append_nil]
theorem Rest.len {k n f : Nat} {Z P M : List Nat} (h : Rest k n f Z P M) : P.length ≤ Z.length := by
  obtain ⟨R, h1, h2⟩ := h
  rw [h2, List.length_append]
  exact Nat.le_add_right _ _
theorem Rest.step {k n f : Nat} {Z P M : List Nat} (h : Rest k n f Z P M) (h0 : 0 < M.length) : ∃ g, f = g + 1 ∧ (n % M.length = 0 → Rest k n g Z (P ++ M) (nxt k n M)) ∧ (¬ n % M.length = 0 → Rest k n g Z P (nxt k n M)) := by
  obtain ⟨R, h1, h2⟩ := h
  obtain ⟨g, R', e, h3, h4, h5⟩ := fkm_more h1 h0
  refine ⟨g, e, fun h => ⟨R', h3, ?_⟩, fun h => ⟨R', h3, ?_⟩⟩
  · rw [h2, h4 h, List.append_assoc]
  · rw [h2, h5 h]
theorem Wd.grown {w w' : World} {b o n c : Nat} {M : List Nat} {row : Option Nat} (h : Wd w (.slice (Option.some ⟨b, o, none⟩) n c) M) (hg : w.grownBy w' row) (hne : Option.some b ≠ row) : Wd w' (.slice (Option.some ⟨b, o, none⟩) n c) M := by
  obtain ⟨a', c', e, h0, hcell⟩ := id h
  cases e
  refine ⟨_, _, rfl, h0, fun j hj => ⟨b, o, rfl, ?_⟩⟩
  exact hg.cell (h.cellAt hj) hne
theorem Wd.one (w : World) : Wd (w.alloc (.cells #[.int .i64 0] 3)) (.slice (Option.some ⟨w.heap.size, 0, none⟩) 1 1) [0] := ⟨_, 1, rfl, Nat.le_refl _, fun j hj => ⟨_, _, rfl, by
  have : j = 0 := by
    have : j < 1 := hj
    omega
  subst this
  exact newCellZ w _ 0 rfl⟩⟩
set_option maxRecDepth 100000 in
set_option maxHeartbeats 8000000 in
theorem bruijn_any (k n : Nat) (w : World) (hk : 1 ≤ k) (hk10 : k ≤ 10) (hn : 1 ≤ n) (hn12 : n ≤ 12) (h4096 : k ^ n ≤ 4096) :
    Calls Try.prog 14 #[.int .i64 (k : Int), .int .i64 (n : Int)] w fun e w' => (∃ y, e = .returned y ∧ Wd w' y (bjN k n)) ∧ Below w.heap.size w w' := by
  obtain ⟨i3, ki3, kz0, kz1, kz2⟩ := info3
  obtain ⟨Z, HZ⟩ : ∃ Z, Hid (bjN k n = Z) := ⟨_, rfl⟩
  have HR0 : Hid (Rest k n 4096 Z [] [0]) := ⟨Z, by rw [← HZ.out]; exact fkm_at hk hk10 hn hn12 h4096, rfl⟩
  have HZL : Hid (Z.length ≤ 4096) := by
    show _ ≤ _
    rw [← HZ.out, show (bjN k n).length = k ^ n from (bru_once hk hk10 hn hn12 h4096 rfl).1]
    exact h4096
  rw [HZ.out]
  have hW0 := Wd.one w
  have hB0 := balloc w (.cells #[.int .i64 0] 3)
  obtain ⟨g, Hg⟩ : ∃ g, Hid (w.heap.size = g) := ⟨_, rfl⟩
  have hgs : g ≤ w.heap.size := by have := Hg.out; omega
  have HFW : Hid (∀ (M : List Nat) (v : Value) (W : World), Wd W v M → 0 < M.length → M.length ≤ 12 → (∀ x ∈ M, x < k) → Calls Try.prog 19 #[.int .i64 (k : Int), .int .i64 (n : Int), v] W fun e w' => (∃ y, e = .returned y ∧ Wd w' y (nxt k n M) ∧ ∃ m c, y = .slice (some ⟨W.heap.size, 0, none⟩) m c) ∧ Below W.heap.size W w') := fun M v W h1 h2 h3 h4 => following_any k n M v W h1 hk hk10 (by omega) h2 (by omega) fun x hx => by have := h4 x hx; omega
  clear h4096
  go_enter Try.func14, Try.ntmps14
  go_wp2
  rw [Hg.out] at hB0 hW0 ⊢
  go_loopg [5, 6] 4096 (fun f ov wv wr => ∃ (P M : List Nat) (oa : Option Addr) (oc bw wc : Nat), ov = .slice oa P.length oc ∧ wv = .slice (some ⟨bw, 0, none⟩) M.length wc ∧ Wd wr (.slice (some ⟨bw, 0, none⟩) M.length wc) M ∧ M.length ≤ 12 ∧ Hid (∀ x ∈ M, x < k) ∧ Hid (Rest k n f Z P M) ∧ Hid (∀ b, (Value.slice oa P.length oc).ownBlock = some b → b ≠ bw) ∧ wr.ownsRow g 3 1 (.slice oa P.length oc) P.length (nz P) ∧ Below g w wr)
  case atStart => exact ⟨[], [0], none, 0, g, 1, rfl, rfl, hW0, by decide, (fun x hx => by simp at hx; omega : ∀ x ∈ [0], x < k), HR0.out, (fun b hb => by simp [Value.ownBlock] at hb : ∀ b, (Value.slice none 0 0).ownBlock = some b → b ≠ g), World.ownsRow_nil _ _ _ _, hB0⟩
  case round =>
    clear hB0 hW0 HR0
    obtain ⟨P, M, oa, oc, bw, wc, rfl, rfl, hW, hM12, HM, HR, HNE, hown, hB⟩ := hrel
    have hP : P.length ≤ 4096 := Nat.le_trans HR.out.len HZL.out
    obtain ⟨l, Hl⟩ : ∃ l, Hid (M.length = l) := ⟨_, rfl⟩
    obtain ⟨p, Hp⟩ : ∃ p, Hid (P.length = p) := ⟨_, rfl⟩
    have hbs := hB.size
    rcases Nat.lt_or_ge 0 M.length with h0 | h0
    · have hst := HR.out.step h0
      have HC : Hid (∀ W, Wd W (.slice (some ⟨bw, 0, none⟩) l wc) M → Calls Try.prog 19 #[.int .i64 (k : Int), .int .i64 (n : Int), .slice (some ⟨bw, 0, none⟩) l wc] W fun e w' => (∃ y, e = .returned y ∧ Wd w' y (nxt k n M) ∧ ∃ m c, y = .slice (some ⟨W.heap.size, 0, none⟩) m c) ∧ Below W.heap.size W w') := fun W h => HFW.out M _ W h h0 hM12 HM.out
      have HM2 : Hid (∀ x ∈ nxt k n M, x < k) := nxt_lt HM.out h0
      have hl12 : (nxt k n M).length ≤ 12 := Nat.le_trans (nxt_len k n M) hn12
      rw [Hl.out] at hW hM12 h0 hst ⊢
      rw [Hp.out] at hown hP HNE ⊢
      obtain ⟨f, Hf, hst1, hst2⟩ := hst
      have HF : Hid (gk = f + 1) := Hf
      clear Hf
      have hl0 : ¬ l = 0 := by omega
      have hd0 : decide (0 < l) = true := by simpa using h0
      obtain ⟨a, Ha⟩ : ∃ a, Hid (n % l = a) := ⟨_, rfl⟩
      have ea : (n : Int).tmod (l : Int) = (a : Int) := by rw [← Ha.out]; rfl
      rw [Ha.out] at hst1 hst2
      by_cases ha : a = 0
      · have hae : ((a : Int) == 0) = true := by simp [ha]
        have HR2 : Hid (Rest k n f Z (P ++ M) (nxt k n M)) := hst1 ha
        have hpm : (P ++ M).length = p + l := by rw [List.length_append, Hp.out, Hl.out]
        have hPM : p + l ≤ 4096 := by rw [← hpm]; exact Nat.le_trans HR2.out.len HZL.out
        clear hst1 hst2 ha hpm
        go_wp2_with (first
          | (at_builtin; refine wpList_append_own _ rfl _ _ 23 rfl g 3 i3 (.int .i64 0) 1 8 und22 ki3 kz0 kz1 kz2 rfl (by decide) _ _ _ rfl hown ⟨bw, 0, none⟩ l wc (nz M) rfl ?c1 hW.news (nz_one _) ?c3 ?c4 ?c5 ?_)
          | go_in)
        case c1 => have := Hl.out; simp [nz]; omega
        case c3 => unfold maxLen; omega
        case c4 => omega
        case c5 => omega
        intro v' w6 hown' hgrow _
        have hb6 : Below g w w6 := hB.grown hgrow (by omega) (fun k hk => (hown.lt k hk).1)
        have hW6 := hW.grown hgrow (fun e => HNE.out bw e.symm rfl)
        rw [show nz P ++ nz M = nz (P ++ M) by simp [nz]] at hown'
        obtain ⟨xa, xc, rfl⟩ := own_form hown'
        have C := HC.out w6 hW6
        have hpm : (P ++ M).length = p + l := by rw [List.length_append, Hp.out, Hl.out]
        have hNE2 : Hid (∀ b, (Value.slice xa (p + l) xc).ownBlock = some b → b ≠ w6.heap.size) := fun b hb => by
          have := (hown'.lt b hb).2
          omega
        have hs6 := hb6.size
        go_wp2_with (go_at_call 19; refine C.mono ?_; rintro e w7 ⟨⟨y, rfl, hy, ym, yc, rfl⟩, hb7⟩; clear C; have hO7 := own_keep hown' (fun b _ hb => hb7.block b hb))
        obtain rfl : ym = (nxt k n M).length := by obtain ⟨_, _, e, _⟩ := hy; exact (Value.slice.inj e).2.1
        go_roundg f
        case measure => have := HF.out; omega
        case rel => exact ⟨P ++ M, nxt k n M, xa, xc, w6.heap.size, yc, by rw [hpm], rfl, hy, hl12, HM2, HR2, by rw [hpm]; exact hNE2, by rw [hpm]; exact hO7, hb6.trans (hb7.mono (by omega))⟩
      · have hae : ((a : Int) == 0) = false := by simp; omega
        have HR2 : Hid (Rest k n f Z P (nxt k n M)) := hst2 ha
        have C := HC.out wr hW
        clear hst1 hst2 ha
        have hNE2 : Hid (∀ b, (Value.slice oa p oc).ownBlock = some b → b ≠ wr.heap.size) := fun b hb => by
          have := (hown.lt b hb).2
          omega
        go_wp2_with (go_at_call 19; refine C.mono ?_; rintro e w7 ⟨⟨y, rfl, hy, ym, yc, rfl⟩, hb7⟩; clear C; have hO7 := own_keep hown (fun b _ hb => hb7.block b hb))
        obtain rfl : ym = (nxt k n M).length := by obtain ⟨_, _, e, _⟩ := hy; exact (Value.slice.inj e).2.1
        go_roundg f
        case measure => have := HF.out; omega
        case rel => exact ⟨P, nxt k n M, oa, oc, wr.heap.size, yc, by rw [Hp.out], rfl, hy, hl12, HM2, HR2, by rw [Hp.out]; exact hNE2, by rw [Hp.out]; exact hO7, hB.trans (hb7.mono (by omega))⟩
    · obtain rfl : M = [] := List.length_eq_zero_iff.1 (by omega)
      have HZP : Hid (Z = P) := HR.out.nil
      have hO : ORow wr g (.slice oa P.length oc) P := hown
      rw [List.length_nil] at hW ⊢
      go_wp2
      go_ret
      exact ⟨⟨_, rfl, by rw [HZP.out]; exact hO.own⟩, by rw [Hg.out]; exact hB⟩
set_option maxRecDepth 100000 in
set_option maxHeartbeats 4000000 in
theorem Bruijn_any : FBruijn := by
  intro kk nn w
  have C0 := isBase_any kk w
  by_cases hb : kk < 1 ∨ 10 < kk ∨ nn < 1
  · have e1 : bfE kk nn = 1 := by unfold bfE; rw [if_pos hb]
    have e2 : bjZ kk nn = [] := by unfold bjZ; rw [e1]; rfl
    rw [e1, e2]
    by_cases h1 : 1 ≤ kk ∧ kk ≤ 10
    · have hd2 : decide (nn < 1) = true := by simp; omega
      rw [decide_eq_true h1] at C0
      clear h1 hb
      go_enter Try.func6, Try.ntmps6
      go_wp2_with (go_at_call 12; refine C0.mono ?_; rintro e w' ⟨rfl, rfl⟩; clear C0)
      go_ret2
      exact ⟨⟨_, rfl, Wd.nil _⟩, Below.refl _ _⟩
    · rw [decide_eq_false h1] at C0
      clear h1 hb
      go_enter Try.func6, Try.ntmps6
      go_wp2_with (go_at_call 12; refine C0.mono ?_; rintro e w' ⟨rfl, rfl⟩; clear C0)
      go_ret2
      exact ⟨⟨_, rfl, Wd.nil _⟩, Below.refl _ _⟩
  · obtain ⟨k, rfl⟩ : ∃ k : Nat, kk = k := ⟨kk.toNat, by omega⟩
    obtain ⟨n, rfl⟩ : ∃ n : Nat, nn = n := ⟨nn.toNat, by omega⟩
    rw [decide_eq_true (by omega)] at C0
    have hd2 : decide ((n : Int) < 1) = false := by simp; omega
    have hk1 : 1 ≤ k := by omega
    have hk10 : k ≤ 10 := by omega
    have hn1 : 1 ≤ n := by omega
    by_cases hn12 : 12 < n
    · have e1 : bfE k n = 3 := by unfold bfE; rw [if_neg hb, if_pos (.inl (by omega))]
      have e2 : bjZ k n = [] := by unfold bjZ; rw [e1]; rfl
      have hd3 : decide ((12 : Int) < (n : Int)) = true := by simp; omega
      rw [e1, e2]
      clear hb
      go_enter Try.func6, Try.ntmps6
      go_wp2_with (go_at_call 12; refine C0.mono ?_; rintro e w' ⟨rfl, rfl⟩; clear C0)
      go_ret2
      exact ⟨⟨_, rfl, Wd.nil _⟩, Below.refl _ _⟩
    · have hd3 : decide ((12 : Int) < (n : Int)) = false := by simp; omega
      have C1 := fun w => isWithin_any k n 4096 w hk1 (by omega) (by omega) (by omega)
      by_cases h18 : k ^ n ≤ 4096
      · have C2 := fun w => bruijn_any k n w hk1 hk10 hn1 (by omega) h18
        have e1 : bfE k n = 0 := by unfold bfE; rw [if_neg hb, Int.toNat_natCast, Int.toNat_natCast, if_neg (by omega)]
        have e2 : bjZ k n = bjN k n := by unfold bjZ; rw [if_pos e1, Int.toNat_natCast, Int.toNat_natCast]
        rw [e1, e2]
        rw [decide_eq_true h18] at C1
        clear hb h18
        go_enter Try.func6, Try.ntmps6
        go_wp2_with (first
          | (go_at_call 12; refine C0.mono ?_; rintro e w' ⟨rfl, rfl⟩; clear C0)
          | (go_at_call 13; refine (C1 _).mono ?_; rintro e w' ⟨rfl, rfl⟩; clear C1)
          | (go_at_call 14; refine (C2 _).mono ?_; rintro e w' ⟨⟨y, rfl, hy⟩, hb2⟩; clear C2))
        go_ret2
        exact ⟨⟨_, rfl, hy⟩, hb2⟩
      · have e1 : bfE k n = 3 := by unfold bfE; rw [if_neg hb, Int.toNat_natCast, Int.toNat_natCast, if_pos (by omega)]
        have e2 : bjZ k n = [] := by unfold bjZ; rw [e1]; rfl
        rw [e1, e2]
        rw [decide_eq_false h18] at C1
        clear hb h18
        go_enter Try.func6, Try.ntmps6
        go_wp2_with (first
          | (go_at_call 12; refine C0.mono ?_; rintro e w' ⟨rfl, rfl⟩; clear C0)
          | (go_at_call 13; refine (C1 _).mono ?_; rintro e w' ⟨rfl, rfl⟩; clear C1))
        go_ret2
        exact ⟨⟨_, rfl, Wd.nil _⟩, Below.refl _ _⟩
end Go.Proofs.Ytcjkcgfohmhbcab
