/- The walks of PermOrder, PermPower, PermSign. -/
import Derived.Test.YteocfkkdjejgdaaP36
import Derived.Test.YteocfkkdjejgdaaP26
import Derived.Test.YteocfkkdjejgdaaPSign
import Derived.Deep.QuietTactic
import Derived.BigQuiet
namespace Go.Proofs.Yteocfkkdjejgdaa
open Go.RowKit

theorem still_list (n : Nat) (f : Nat → Nat) : (pl n f = pl n fun x => x) ↔ ∀ x, x < n → f x = x := ⟨fun h _ hx => pl_inj h hx, fun h => pl_congr h⟩

theorem Sl.empty (w : World) (a : Option Addr) (c : Nat) : Sl w (.slice a 0 c) [] := ⟨a, c, rfl, fun j hj => by simp at hj⟩
set_option maxHeartbeats 1000000 in
theorem PermOrder_zero (a : Option Addr) (ca : Nat) (w : World) :
    Calls Try.prog 15 #[.slice a 0 ca] w fun e w' => e = .returned (.int .i64 1) ∧ Below w.heap.size w w' := by
  obtain ⟨i3, hi, hz0, hz1, hz2⟩ := info3
  have C := fun A => Still_any 0 A (by omega)
  have C2 := fun A y y' (h1 : Sl A y []) (h2 : Sl A y' []) => ints_yes _ _ y y' A h1 h2 (by simp) rfl
  cases a with
  | none =>
    go_enter Try.func15, Try.ntmps15
    go_wp2_with (first
      | (go_at_call 27; refine (C _).mono ?_; rintro e w1 ⟨x, rfl, hx, hb1⟩; replace hx := own_pl hx)
      | go_in)
    refine wp_loop_rounds 1 ?_
    rw [rounds_succ]
    go_wp2_with (first
      | (go_at_call 14; refine (C2 _ _ _ (Sl.empty _ _ _) (hx.alloc _)).mono ?_; rintro e w2 ⟨rfl, hb2⟩))
    go_ret
    exact ⟨rfl, Below.next (Below.next hb1 (balloc _ _)) hb2⟩
  | some ad =>
    go_enter Try.func15, Try.ntmps15
    go_wp2_with (first
      | (go_at_call 27; refine (C _).mono ?_; rintro e w1 ⟨x, rfl, hx, hb1⟩; replace hx := own_pl hx)
      | go_in)
    refine wp_loop_rounds 1 ?_
    rw [rounds_succ]
    go_wp2_with (first
      | (go_at_call 14; refine (C2 _ _ _ (Sl.empty _ _ _) (hx.alloc _)).mono ?_; rintro e w2 ⟨rfl, hb2⟩))
    go_ret
    exact ⟨rfl, Below.next (Below.next hb1 (balloc _ _)) hb2⟩

theorem pl_itr_succ {n : Nat} {f : Nat → Nat} (k : Nat) : (pl n fun i => f (itr f k i)) = pl n (itr f (k + 1)) := rfl
theorem own_empty (w : World) (base : Nat) (h : base ≤ w.heap.size) : (w.alloc (.cells #[] 3)).ownsRow base 3 1 (.slice (some ⟨w.heap.size, 0, none⟩) 0 0) 0 [] :=
  ⟨rfl, .inr ⟨w.heap.size, 0, #[], rfl, h, heap_alloc_new w _, Nat.le_refl _, by unfold maxLen; omega, rfl, rfl⟩⟩

set_option maxHeartbeats 1000000 in
theorem PermOrder_any (n : Nat) (f : Nat → Nat) (v : Value) (o : Nat) (w : World) (hn : n ≤ 12) (hv : Sl w v (pl n f)) (P : Pm n f) (ho : OrdIs n f o) (hob : o ≤ 27720) :
    Calls Try.prog 15 #[v] w fun e w' => e = .returned (.int .i64 (o : Int)) ∧ Below w.heap.size w w' := by
  obtain ⟨i3, hi, hz0, hz1, hz2⟩ := info3
  obtain ⟨a, ca, hve⟩ : ∃ a c, v = .slice a n c := hv.len (pl_len n f)
  subst hve
  by_cases h0 : n = 0
  · subst h0
    have : o = 1 := Nat.dvd_one.1 ((ho.2 1).2 (fun x hx => by omega))
    subst this
    exact PermOrder_zero a ca w
  · have hn1 : 1 ≤ n := by omega
    have C := fun A => Still_any n A hn
    have C2 := fun A y y' (q : Nat) (h1 : Sl A y (pl n (itr f q))) (h2 : Sl A y' (pl n fun x => x)) => ints_dec _ _ y y' A h1 h2 (by rw [pl_len]; omega) (by rw [pl_len]; omega)
    have C3 := fun A y (q : Nat) (h : Below w.heap.size w A) (h1 : Sl A y (pl n (itr f q))) => Then_any n (itr f q) f y _ A hn h1 (hv.below h) (P.pow q).lt
    obtain ⟨b, off, cap, e, hbw, hcells⟩ := hv.form (pl_len n f) (by omega)
    cases e
    have HC : Hid (∀ j, j < n → w.cell? ⟨b, off + j, none⟩ = some (.int .i64 (f j : Int))) := fun j hj => by rw [hcells j hj, pl_at f hj]
    have HO : Hid (OrdIs n f o) := ho
    have ho1 : 1 ≤ o := ho.1
    clear P ho hv hcells h0
    go_enter Try.func15, Try.ntmps15
    go_wp2_with (first
      | (go_at_call 27; refine (C _).mono ?_; rintro e w1 ⟨x, rfl, hx, hb1⟩; have hs1 := hb1.size)
      | (at_builtin; (refine wpList_append_own _ rfl _ _ 22 rfl w1.heap.size 3 i3 (.int .i64 0) 1 8 und22 hi hz0 hz1 hz2 rfl (by decide) _ _ _ rfl (own_empty w1 w1.heap.size (Nat.le_refl _)) ⟨b, off, none⟩ n _ ((pl n f).map (Value.int .i64)) rfl ?c0 ?c1 ?c2 ?c3 ?c4 ?c5 ?_))
      | go_in)
    case c0 => simp
    case c1 =>
      intro j u hj
      have hjn : j < n := by
        rcases Nat.lt_or_ge j n with h | h
        · exact h
        · rw [List.getElem?_eq_none (by simp; omega)] at hj; simp at hj
      have e1 : ((pl n f).map (Value.int .i64))[j]? = some (.int .i64 (f j : Int)) := by simp [pl, hjn]
      rw [e1] at hj
      cases hj
      have e2 : ((⟨b, off, none⟩ : Addr).add j) = ⟨b, off + j, none⟩ := by simp [Addr.add]
      rw [e2]
      rw [(Below.next hb1 (balloc w1 _)).cell (p := ⟨b, off + j, none⟩) hbw]
      exact HC.out j hjn
    case c2 => intro u hu; obtain ⟨z, _, rfl⟩ := List.mem_map.1 hu; rfl
    case c3 => unfold maxLen; omega
    case c4 => omega
    case c5 => simp
    intro v' w2 hown' hgrow _
    have hb2 : Below w1.heap.size w1 w2 := ((Below.refl _ _).alloc (Nat.le_refl _) _).grown hgrow (by simp) (fun k hk => by simp [Value.ownBlock] at hk; omega)
    have hx2 := (own_pl hx).below hb2
    have hy2 : Sl w2 v' (pl n (itr f 1)) := own_pl (f := f) (by simpa using hown')
    have hB2 := Below.next hb1 hb2
    clear hown' hgrow hx
    go_wp2
    go_loopw [4, 5] (fun y i wr => ∃ q : Nat, i = .int .i64 q ∧ 1 ≤ q ∧ q ≤ o ∧ Sl wr y (pl n (itr f q)) ∧ Sl wr x (pl n fun x => x) ∧ Below w.heap.size w wr) (fun _ i _ => (o - intOf i).toNat)
    case atStart => exact ⟨1, rfl, by omega, by omega, hy2, hx2, hB2⟩
    case round =>
      clear hy2 hx2 hB2 hb2 hb1
      obtain ⟨q, rfl, hq1, hq2, hy, hx, hB⟩ := hrel
      have D2 := C2 _ _ _ q hy hx
      by_cases hqo : q < o
      · have hne : ¬ (pl n (itr f q) = pl n fun x => x) := by
          rw [still_list]
          intro h
          have h1 := (HO.out.2 q).2 h
          have := Nat.le_of_dvd (by omega) h1
          omega
        rw [decide_eq_false hne] at D2
        clear hne
        go_wp2_with (first
          | (go_at_call 14; refine D2.mono ?_; rintro e w3 ⟨rfl, hb3⟩)
          | (go_at_call 20; refine (C3 _ _ q (Below.next hB hb3) (hy.below hb3)).mono ?_; rintro e w4 ⟨y4, rfl, hy4, hb4⟩))
        go_roundw
        case rel =>
          refine ⟨q + 1, by go_num, by omega, by omega, ?_, (hx.below hb3).below hb4, Below.next (Below.next hB hb3) hb4⟩
          have h := own_pl hy4
          rw [pl_itr_succ] at h
          exact h
        case measure => simp [intOf]; omega
      · obtain rfl : q = o := by omega
        have hne : pl n (itr f q) = pl n fun x => x := (still_list _ _).2 ((HO.out.2 q).1 (Nat.dvd_refl _))
        rw [decide_eq_true hne] at D2
        clear hne
        go_wp2_with (first
          | (go_at_call 14; refine D2.mono ?_; rintro e w3 ⟨rfl, hb3⟩))
        go_ret
        exact ⟨rfl, Below.next hB hb3⟩

theorem pow_mod (N : Int) {o : Nat} (h : 1 ≤ o) : ∃ t : Nat, (N.tmod (o : Int) + (o : Int)) % (o : Int) = (t : Int) ∧ t < o ∧ (N % (o : Int)).toNat = t := by
  have h1 := Int.emod_nonneg N (show (o : Int) ≠ 0 by omega)
  have h2 := Int.emod_lt_of_pos N (show (0 : Int) < (o : Int) by omega)
  refine ⟨(N % (o : Int)).toNat, ?_, by omega, rfl⟩
  rw [tmod_emod]; omega

set_option maxHeartbeats 1000000 in
theorem PermPower_any (n : Nat) (f : Nat → Nat) (N : Int) (v : Value) (o : Nat) (w : World) (hn : n ≤ 12) (hv : Sl w v (pl n f)) (P : Pm n f) (ho : OrdIs n f o) (hob : o ≤ 27720) :
    Calls Try.prog 23 #[v, .int .i64 N] w fun e w' => ∃ x, e = .returned x ∧ Sl w' x (pl n (powF f N)) ∧ Below w.heap.size w w' := by
  have C1 := PermOrder_any n f v o w hn hv P ho hob
  have C2 := fun A => Still_any n A hn
  have C3 := fun A y (q : Nat) (h : Below w.heap.size w A) (h1 : Sl A y (pl n (itr f q))) => Then_any n (itr f q) f y _ A hn h1 (hv.below h) (P.pow q).lt
  have ho1 := ho.1
  obtain ⟨t, ht1, ht2, ht3⟩ := pow_mod N ho1
  have HT : Hid (pl n (powF f N) = pl n (itr f t)) := by
    refine pl_congr fun x hx => ?_
    rw [P.pow_ord ho N hx, ht3]
  rw [HT.out]
  obtain ⟨a, ca, hve⟩ : ∃ a c, v = .slice a n c := hv.len (pl_len n f)
  subst hve
  obtain ⟨htb1, htb2⟩ := tmod_bd N o (by omega)
  have hpz : ((o : Int) == 0) = false := by simp; omega
  obtain ⟨t0, Ht0⟩ : ∃ t0, Hid (N.tmod (o : Int) = t0) := ⟨_, rfl⟩
  have htm := Ht0.out
  rw [htm] at ht1 htb1 htb2
  have hp0 : 0 ≤ t0 + (o : Int) := by omega
  have hid : (pl n fun x => x) = pl n (itr f 0) := rfl
  rw [hid] at C2
  clear P ho hv hid ht3
  go_enter Try.func23, Try.ntmps23
  go_wp2_with (first
    | (go_at_call 15; refine C1.mono ?_; rintro e w1 ⟨rfl, hb1⟩)
    | (go_at_call 27; refine (C2 _).mono ?_; rintro e w2 ⟨x, rfl, hx, hb2⟩))
  have hB2 := Below.next hb1 hb2
  replace hx := own_pl hx
  go_loopw [6, 7] (fun y i wr => ∃ q : Nat, i = .int .i64 q ∧ q ≤ t ∧ Sl wr y (pl n (itr f q)) ∧ Below w.heap.size w wr) (fun _ i _ => (t - intOf i).toNat)
  case atStart => exact ⟨0, rfl, by omega, hx, hB2⟩
  case round =>
    clear hx hB2 hb1 hb2
    obtain ⟨q, rfl, hq, hy, hB⟩ := hrel
    by_cases hqt : q < t
    · have hqi : (q : Int) < t := by omega
      have hqd : decide ((q : Int) < t) = true := by simp; omega
      go_wp2_with (first
        | (go_at_call 20; refine (C3 _ _ q hB hy).mono ?_; rintro e w4 ⟨y4, rfl, hy4, hb4⟩))
      go_roundw
      case rel =>
        refine ⟨q + 1, by go_num, by omega, ?_, Below.next hB hb4⟩
        have h := own_pl hy4
        rw [pl_itr_succ] at h
        exact h
      case measure => simp [intOf]; omega
    · obtain rfl : q = t := by omega
      have hqd : decide ((q : Int) < (q : Int)) = false := by simp
      go_wp2
      go_ret
      exact ⟨_, rfl, hy, hB⟩

theorem sgRow_bd (f : Nat → Nat) (i : Nat) {n : Nat} (P : Pm n f) (hi : i < n) : ∀ k, k ≤ i → sgRow f i k * sgRow f i k = 1
  | 0, _ => rfl
  | k + 1, h => by
    have hne : f k ≠ f i := fun e => by have := P.inj k i (by omega) hi e; omega
    rw [sgRow]
    have h1 := sgRow_bd f i P hi k (by omega)
    have h2 := sg_sq hne
    rw [Int.mul_assoc, ← Int.mul_assoc (sg (f k) (f i)), Int.mul_comm (sg (f k) (f i)) (sgRow f i k), Int.mul_assoc, h2, Int.mul_one, h1]
theorem sgR_bd (f : Nat → Nat) {n : Nat} (P : Pm n f) : ∀ i, i ≤ n → sgR f i * sgR f i = 1
  | 0, _ => rfl
  | i + 1, h => by
    rw [sgR]
    have h1 := sgR_bd f P i (by omega)
    have h2 := sgRow_bd f i P (by omega) i (Nat.le_refl _)
    rw [Int.mul_assoc, ← Int.mul_assoc (sgRow f i i), Int.mul_comm (sgRow f i i) (sgR f i), Int.mul_assoc, h2, Int.mul_one, h1]
theorem sq_one {a : Int} (h : a * a = 1) : a = 1 ∨ a = -1 := by
  have h1 := Int.natAbs_mul a a
  rw [h] at h1
  have h2 : a.natAbs * a.natAbs = 1 := h1.symm
  have h3 := Nat.eq_one_of_mul_eq_one_right h2
  omega
theorem sg_row_bd {n i k : Nat} {f : Nat → Nat} (P : Pm n f) (hi : i < n) (hk : k ≤ i) : -1 ≤ sgR f i * sgRow f i k ∧ sgR f i * sgRow f i k ≤ 1 := by
  rcases sq_one (sgR_bd f P i (by omega)) with h1 | h1 <;> rcases sq_one (sgRow_bd f i P hi k hk) with h2 | h2 <;> rw [h1, h2] <;> decide

set_option maxHeartbeats 1000000 in
theorem PermSign_any (n : Nat) (f : Nat → Nat) (v : Value) (w : World) (hn : n ≤ 12) (hv : Sl w v (pl n f)) (P : Pm n f) :
    Calls Try.prog 16 #[v] w fun e w' => e = .returned (.int .i64 (sgI n f)) ∧ Below w.heap.size w w' := by
  obtain ⟨a, ca, rfl, hcv⟩ := hv
  rw [pl_len] at hcv ⊢
  have HV : Hid (∀ j, j < n → ∃ B off, a = some ⟨B, off, none⟩ ∧ w.cell? ⟨B, off + j, none⟩ = some (.int .i64 (f j : Int))) := fun j hj => by
    have := hcv j hj; rw [pl_at f hj] at this; exact this
  have HP : Hid (Pm n f) := P
  obtain ⟨zz, Hzz⟩ : ∃ zz, Hid (sgI n f = zz) := ⟨_, rfl⟩
  rw [Hzz.out]
  clear hcv P
  go_enter Try.func16, Try.ntmps16
  go_wp2
  go_loopw [3, 4] (fun x i wr => ∃ (s : Int) (k : Nat), x = .int .i64 s ∧ i = .int .i64 k ∧ k ≤ n ∧ Hid (s = sgR f k) ∧ Below w.heap.size w wr) (fun _ i _ => (n - intOf i).toNat)
  case atStart => exact ⟨1, 0, rfl, rfl, by omega, (rfl : (1 : Int) = sgR f 0), Below.refl _ _⟩
  case round =>
    obtain ⟨s, k, rfl, rfl, hk, HS, hB⟩ := hrel
    by_cases hlt : k < n
    · have hki : (k : Int) < n := by omega
      have hdec : decide ((k : Int) < n) = true := by simp; omega
      obtain ⟨b, off, rfl, hck⟩ := HV.out k hlt
      have hbw : b < w.heap.size := by simpa using block_lt_of_cell hck
      obtain ⟨x, Hx⟩ : ∃ x, Hid (f k = x) := ⟨_, rfl⟩
      rw [Hx.out] at hck
      go_wp2
      go_loopw [3, 5] (fun x i wr => ∃ (s : Int) (t : Nat), x = .int .i64 s ∧ i = .int .i64 t ∧ t ≤ k ∧ Hid (s = sgR f k * sgRow f k t) ∧ Below w.heap.size w wr) (fun _ i _ => (k - intOf i).toNat)
      case atStart => exact ⟨s, 0, rfl, rfl, by omega, (by rw [HS.out]; show sgR f k = sgR f k * 1; rw [Int.mul_one] : s = sgR f k * sgRow f k 0), hB⟩
      case round =>
        clear hB HS
        obtain ⟨s, t, rfl, rfl, ht, HS, hB⟩ := hrel
        by_cases htk : t < k
        · have htki : (t : Int) < k := by omega
          have hdect : decide ((t : Int) < k) = true := by simp; omega
          obtain ⟨b', off', e, hct⟩ := HV.out t (by omega)
          simp only [Option.some.injEq, Addr.mk.injEq, and_true] at e
          obtain ⟨rfl, rfl⟩ := e
          obtain ⟨y, Hy⟩ : ∃ y, Hid (f t = y) := ⟨_, rfl⟩
          rw [Hy.out] at hct
          have hck2 := (hB.cell (p := ⟨b, off + k, none⟩) hbw).trans hck
          have hct2 := (hB.cell (p := ⟨b, off + t, none⟩) hbw).trans hct
          have htn : (t : Int) < n := by omega
          have hsb := sg_row_bd HP.out hlt (Nat.le_of_lt htk)
          rw [← HS.out] at hsb
          have hxy : y ≠ x := fun e => by
            have := HP.out.inj t k (by omega) hlt (by rw [Hx.out, Hy.out, e]); omega
          by_cases hyx : x < y
          · have hd : decide ((x : Int) < (y : Int)) = true := by simp; omega
            have HN : Hid (-s = sgR f k * sgRow f k (t + 1)) := by
              show -s = _
              rw [sgRow, Hx.out, Hy.out, ← Int.mul_assoc, ← HS.out]
              unfold sg; rw [if_neg (by omega), if_pos hyx]; omega
            go_wp2
            go_quiet (fail)
            go_wp2
            go_roundw
            case rel => exact ⟨-s, t + 1, by go_num, by go_num, by omega, HN, bdrewN hB _⟩
            case measure => simp [intOf]; omega
          · have hd : decide ((x : Int) < (y : Int)) = false := by simp; omega
            have HN : Hid (s = sgR f k * sgRow f k (t + 1)) := by
              show s = _
              rw [sgRow, Hx.out, Hy.out, ← Int.mul_assoc, ← HS.out]
              unfold sg; rw [if_pos (by omega), Int.mul_one]
            go_wp2
            go_quiet (fail)
            go_wp2
            go_roundw
            case rel => exact ⟨s, t + 1, rfl, by go_num, by omega, HN, bdrewN hB _⟩
            case measure => simp [intOf]; omega
        · obtain rfl : t = k := by omega
          have htd : decide ((t : Int) < (t : Int)) = false := by simp
          go_wp2
          go_roundw
          case rel => exact ⟨s, t + 1, rfl, by go_num, by omega, HS, hB⟩
          case measure => simp [intOf]; omega
    · obtain rfl : k = n := by omega
      have hkd : decide ((k : Int) < (k : Int)) = false := by simp
      have : s = zz := by rw [HS.out, sgR_sgI, Hzz.out]
      subst this
      go_wp2
      go_ret
      exact ⟨rfl, hB⟩

end Go.Proofs.Yteocfkkdjejgdaa
