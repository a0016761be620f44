/- The landed Next, walked. -/
import Derived.Test.YtcjkcgfohmhbcabX8
namespace Go.Proofs.Ytcjkcgfohmhbcab
open Go.RowKit

theorem nx_take {k : Nat} {M : List Nat} (hM : ∀ i, i < M.length → M.getD i 0 < k) : ∀ m, m ≤ M.length → (raR k (M.take m).reverse).reverse = match nxI (k : Int) M m with
    | none => []
    | some i => M.take i ++ [M.getD i 0 + 1]
  | 0, _ => rfl
  | m + 1, hm => by
    rw [take_rev (by omega)]
    have hx := hM m (by omega)
    by_cases e : M.getD m 0 + 1 = k
    · rw [raR_yes _ e, nx_take hM m (by omega)]
      have : nxI (k : Int) M (m + 1) = nxI (k : Int) M m := by
        show (if ((M.getD m 0 : Nat) : Int) + 1 < (k : Int) then some m else nxI (k : Int) M m) = _
        rw [if_neg (by omega)]
      rw [this]
    · rw [raR_no _ e, List.reverse_cons, List.reverse_reverse]
      have : nxI (k : Int) M (m + 1) = some m := by
        show (if ((M.getD m 0 : Nat) : Int) + 1 < (k : Int) then some m else nxI (k : Int) M m) = _
        rw [if_pos (by omega)]
      rw [this]
theorem nxt_is_nx {k : Nat} {M : List Nat} (hM : ∀ i, i < M.length → M.getD i 0 < k) : nxt k M.length M = nxZ (k : Int) M := by
  unfold nxt
  rw [cyc_self]
  have := nx_take hM M.length (Nat.le_refl _)
  rw [List.take_of_length_le (Nat.le_refl _)] at this
  exact this
theorem nx_empty (k : Int) (M : List Nat) : nxE k M = if (nxZ k M).length = 0 then 4 else 0 := by
  unfold nxE nxZ
  cases nxI k M M.length with
  | none => rfl
  | some i => simp
theorem ar_any {k : Int} {l : List Int} (h0 : ∀ x ∈ l, 0 ≤ x) : l.any (fun x => decide (k ≤ x)) = !(arB k l) := by
  cases e : arB k l with
  | true =>
    have h := List.all_eq_true.1 e
    cases f : l.any (fun x => decide (k ≤ x)) with
    | false => rfl
    | true =>
      obtain ⟨x, hx, hk⟩ := List.any_eq_true.1 f
      obtain ⟨i, hi, hg⟩ := List.getElem_of_mem hx
      have := h i (List.mem_range.2 hi)
      rw [List.getD_eq_getElem?_getD, List.getElem?_eq_getElem hi, hg] at this
      simp only [Option.getD_some, Bool.and_eq_true, decide_eq_true_eq] at this hk
      omega
  | false =>
    cases f : l.any (fun x => decide (k ≤ x)) with
    | true => rfl
    | false =>
      have : arB k l = true := List.all_eq_true.2 fun i hi => by
        have hi := List.mem_range.1 hi
        have h1 := List.any_eq_false.1 f (l[i]) (List.getElem_mem hi)
        have h2 := h0 (l[i]) (List.getElem_mem hi)
        rw [List.getD_eq_getElem?_getD, List.getElem?_eq_getElem hi]
        simp only [decide_eq_true_eq] at h1
        simp only [Option.getD_some, Bool.and_eq_true, decide_eq_true_eq]
        omega
      rw [e] at this; cases this
set_option maxRecDepth 100000 in
set_option maxHeartbeats 4000000 in
theorem Next_any : FNext := by
  intro kk l v w hv
  have C0 := isBase_any kk w
  by_cases hb : 1 ≤ kk ∧ kk ≤ 10
  · rw [decide_eq_true hb] at C0
    obtain ⟨k, rfl⟩ : ∃ k : Nat, kk = k := ⟨kk.toNat, by omega⟩
    have C1 := check_any l v w hv.1
    by_cases h0 : wF l = 0
    · rw [h0] at C1
      obtain ⟨hW, hl, h9, hlM⟩ := hv.wd h0
      have hll : l.length = (wdN l).length := by unfold wdN; rw [List.length_map]
      have C2 := areBelow_any (k : Int) l v w hv.1 (by rw [hll]; exact hl)
      have hany : l.any (fun x => decide ((k : Int) ≤ x)) = !(arB (k : Int) l) := ar_any fun x hx => by
        rw [hlM] at hx
        obtain ⟨y, -, rfl⟩ := List.mem_map.1 hx
        exact Int.natCast_nonneg y
      have eF : neF (k : Int) l = if arB (k : Int) l = true then 0 else 1 := by
        unfold neF
        rw [if_neg (by omega), if_neg (by omega), hany]
        cases arB (k : Int) l <;> rfl
      obtain ⟨p, Hp⟩ : ∃ p, Hid (arB (k : Int) l = p) := ⟨_, rfl⟩
      rw [Hp.out] at C2 eF
      cases p with
      | false =>
        have e1 : neE (k : Int) l = 1 := by unfold neE; rw [eF]; rfl
        have e2 : neZ (k : Int) l = [] := by unfold neZ; rw [e1]; rfl
        rw [e1, e2]
        clear hb hv hW
        go_enter Try.func8, Try.ntmps8
        go_wp2_with (first
          | (go_at_call 12; refine C0.mono ?_; rintro e w' ⟨rfl, hw⟩; subst w'; clear C0)
          | (go_at_call 16; refine C1.mono ?_; rintro e w' ⟨rfl, hw⟩; subst w'; clear C1)
          | (go_at_call 17; refine C2.mono ?_; rintro e w' ⟨rfl, hw⟩; subst w'; clear C2))
        go_ret2
        exact ⟨⟨_, rfl, Wd.nil _⟩, Below.refl _ _⟩
      | true =>
        have C3 := isLyndon_any (wdN l) v w hW hl
        have eF0 : neF (k : Int) l = 0 := eF
        obtain ⟨q, Hq⟩ : ∃ q, Hid (lyB (wdN l) = q) := ⟨_, rfl⟩
        rw [Hq.out] at C3
        cases q with
        | false =>
          have e1 : neE (k : Int) l = 2 := by
            unfold neE
            rw [if_neg (by omega), if_neg (by rw [Hq.out]; decide)]
          have e2 : neZ (k : Int) l = [] := by unfold neZ; rw [e1]; rfl
          rw [e1, e2]
          clear hb hv hW
          go_enter Try.func8, Try.ntmps8
          go_wp2_with (first
            | (go_at_call 12; refine C0.mono ?_; rintro e w' ⟨rfl, hw⟩; subst w'; clear C0)
            | (go_at_call 16; refine C1.mono ?_; rintro e w' ⟨rfl, hw⟩; subst w'; clear C1)
            | (go_at_call 17; refine C2.mono ?_; rintro e w' ⟨rfl, hw⟩; subst w'; clear C2)
            | (go_at_call 18; refine C3.mono ?_; rintro e w' ⟨rfl, hb3⟩; clear C3))
          go_ret2
          exact ⟨⟨_, rfl, Wd.nil _⟩, hb3⟩
        | true =>
          have hpos : 0 < (wdN l).length := List.length_pos_iff.2 ((lyB_is _).1 Hq.out).ne
          have hlt : ∀ i, i < (wdN l).length → (wdN l).getD i 0 < k := fun i hi => by
            have h := List.all_eq_true.1 Hp.out i (List.mem_range.2 (by rw [hll]; exact hi))
            have eg : l.getD i 0 = (((wdN l).getD i 0 : Nat) : Int) := (congrArg (fun s => s.getD i 0) hlM).trans (nat_at _ _)
            rw [eg] at h
            simp only [Bool.and_eq_true, decide_eq_true_eq] at h
            omega
          have hnx := nxt_is_nx hlt
          have e1 : neE (k : Int) l = if (nxZ (k : Int) (wdN l)).length = 0 then 4 else 0 := by
            unfold neE
            rw [if_neg (by omega), if_pos Hq.out]
            exact nx_empty _ _
          have C4 : Hid (∀ W, Below w.heap.size w W → Calls Try.prog 19 #[.int .i64 (k : Int), .int .i64 ((wdN l).length : Int), v] W fun e w' => (∃ y, e = .returned y ∧ Wd w' y (nxZ (k : Int) (wdN l)) ∧ ∃ m c, y = .slice (some ⟨W.heap.size, 0, none⟩) m c) ∧ Below W.heap.size W w') := fun W bW => by
            rw [← hnx]
            exact following_any k _ (wdN l) v W (hW.below bW) (by omega) (by omega) hl hpos hl h9
          obtain ⟨m, Hm⟩ : ∃ m, Hid ((wdN l).length = m) := ⟨_, rfl⟩
          rw [Hm.out] at C4
          obtain ⟨va, vc, rfl⟩ := hW.len Hm.out
          by_cases hz : (nxZ (k : Int) (wdN l)).length = 0
          · have e3 : neE (k : Int) l = 4 := by rw [e1, if_pos hz]
            have e2 : neZ (k : Int) l = [] := by unfold neZ; rw [e3]; rfl
            rw [e3, e2]
            clear hb hv hW hlM hll eF eF0 hnx e1
            go_enter Try.func8, Try.ntmps8
            go_wp2_with (first
              | (go_at_call 12; refine C0.mono ?_; rintro e w' ⟨rfl, hw⟩; subst w'; clear C0)
              | (go_at_call 16; refine C1.mono ?_; rintro e w' ⟨rfl, hw⟩; subst w'; clear C1)
              | (go_at_call 17; refine C2.mono ?_; rintro e w' ⟨rfl, hw⟩; subst w'; clear C2)
              | (go_at_call 18; refine C3.mono ?_; rintro e w3 ⟨rfl, hb3⟩; clear C3; have C5 := C4.out w3 hb3; clear C4)
              | (go_at_call 19; refine C5.mono ?_; rintro e w4 ⟨⟨y, rfl, hy, -⟩, hb4⟩; clear C5; obtain ⟨ya, yc, rfl⟩ := hy.len hz))
            go_ret2
            exact ⟨⟨_, rfl, Wd.nil _⟩, Below.next hb3 hb4⟩
          · have e3 : neE (k : Int) l = 0 := by rw [e1, if_neg hz]
            have e2 : neZ (k : Int) l = nxZ (k : Int) (wdN l) := by unfold neZ; rw [if_pos e3]
            rw [e3, e2]
            obtain ⟨r, Hr⟩ : ∃ r, Hid ((nxZ (k : Int) (wdN l)).length = r) := ⟨_, rfl⟩
            rw [Hr.out] at hz
            have he : ((r : Int) == 0) = false := by simp; omega
            clear hb hv hW hlM hll eF eF0 hnx e1
            go_enter Try.func8, Try.ntmps8
            go_wp2_with (first
              | (go_at_call 12; refine C0.mono ?_; rintro e w' ⟨rfl, hw⟩; subst w'; clear C0)
              | (go_at_call 16; refine C1.mono ?_; rintro e w' ⟨rfl, hw⟩; subst w'; clear C1)
              | (go_at_call 17; refine C2.mono ?_; rintro e w' ⟨rfl, hw⟩; subst w'; clear C2)
              | (go_at_call 18; refine C3.mono ?_; rintro e w3 ⟨rfl, hb3⟩; clear C3; have C5 := C4.out w3 hb3; clear C4)
              | (go_at_call 19; refine C5.mono ?_; rintro e w4 ⟨⟨y, rfl, hy, -⟩, hb4⟩; clear C5; obtain ⟨ya, yc, rfl⟩ := hy.len Hr.out))
            go_ret2
            exact ⟨⟨_, rfl, hy⟩, Below.next hb3 hb4⟩
    · have e1 : neE (k : Int) l = wF l := by
        have : neF (k : Int) l = wF l := by unfold neF; rw [if_neg (by omega), if_pos h0]
        unfold neE
        rw [this, if_pos h0]
      have e2 : neZ (k : Int) l = [] := by unfold neZ; rw [e1, if_neg h0]
      rw [e1, e2]
      obtain ⟨q, Hq⟩ : ∃ q, Hid (wF l = q) := ⟨_, rfl⟩
      rw [Hq.out] at C1 h0 ⊢
      have he : ((q : Int) != (0 : Int)) = true := by simp; omega
      clear hb hv
      go_enter Try.func8, Try.ntmps8
      go_wp2_with (first
        | (go_at_call 12; refine C0.mono ?_; rintro e w' ⟨rfl, hw⟩; subst w'; clear C0)
        | (go_at_call 16; refine C1.mono ?_; rintro e w' ⟨rfl, hw⟩; subst w'; clear C1))
      go_ret2
      exact ⟨⟨_, rfl, Wd.nil _⟩, Below.refl _ _⟩
  · have e1 : neE kk l = 1 := by
      have : neF kk l = 1 := by unfold neF; rw [if_pos (by omega)]
      unfold neE
      rw [this]; rfl
    have e2 : neZ kk l = [] := by unfold neZ; rw [e1]; rfl
    rw [e1, e2]
    rw [decide_eq_false hb] at C0
    clear hb hv
    go_enter Try.func8, Try.ntmps8
    go_wp2_with (go_at_call 12; refine C0.mono ?_; rintro e w' ⟨rfl, hw⟩; subst w'; clear C0)
    go_ret2
    exact ⟨⟨_, rfl, Wd.nil _⟩, Below.refl _ _⟩
end Go.Proofs.Ytcjkcgfohmhbcab
