/- The walk of crossings. -/
import Derived.Test.YtagpbkcnjogbgabDoorL1
import Derived.Deep.RegionHeld3
import Derived.Laws.Bits64b
namespace Go.Proofs.YtagpbkcnjogbgabDoor
open Go.RowKit

theorem Sm_le {n B : Nat} {f : Nat → Nat} (h : ∀ i, i < n → f i ≤ B) : Sm n f ≤ n * B := by
  induction n with
  | zero => exact Nat.zero_le _
  | succ n ih =>
    rw [Sm_succ, Nat.add_mul, Nat.one_mul]
    exact Nat.add_le_add (ih fun i hi => h i (by omega)) (h n (by omega))
theorem cr_le {n : Nat} {s : Nat → Nat → Nat} (hn : n ≤ 8) : ∀ {m : Nat} {a : List Nat}, cr n s m a ≤ 8 ^ m
  | 0, _ => Nat.le_refl _
  | m + 1, a => by
    have : cr n s (m + 1) a ≤ n * 8 ^ m := Sm_le fun c _ => by
      split
      · exact cr_le hn
      · exact Nat.zero_le _
    rw [Nat.pow_succ, Nat.mul_comm]
    exact Nat.le_trans this (Nat.mul_le_mul_right _ hn)
/-- The bits of C are the numbers below 8 that P is of. -/
def BitsOf (C : Nat) (P : Nat → Prop) : Prop := C < 256 ∧ ∀ c, c < 8 → (C.testBit c = true ↔ P c)
theorem BitsOf.or {C : Nat} {P Q : Nat → Prop} {x : Nat} (h : BitsOf C P) (hx : x < 8) (hQ : ∀ c, c < 8 → (Q c ↔ (P c ∨ c = x))) : BitsOf (C ||| 2 ^ x) Q := by
  refine ⟨?_, fun c hc => ?_⟩
  · have h1 : (2 : Nat) ^ x < 2 ^ 8 := Nat.pow_lt_pow_right (by decide) hx
    exact Nat.or_lt_two_pow (n := 8) h.1 h1
  · rw [Nat.testBit_or, Nat.testBit_two_pow, hQ c hc, Bool.or_eq_true, h.2 c hc, decide_eq_true_iff]
    exact or_congr Iff.rfl eq_comm
theorem BitsOf.and {C : Nat} {P : Nat → Prop} {x : Nat} (h : BitsOf C P) (hx : x < 8) : C &&& 2 ^ x = 0 ↔ ¬ P x := by
  rw [← h.2 x hx]
  have key : (C &&& 2 ^ x).testBit x = C.testBit x := by rw [Nat.testBit_and, Nat.testBit_two_pow]; simp
  constructor
  · intro e
    rw [← key, e]
    simp
  · intro e
    apply Nat.eq_of_testBit_eq
    intro i
    rw [Nat.testBit_and, Nat.testBit_two_pow, Nat.zero_testBit]
    by_cases hi : x = i
    · subst hi
      have : C.testBit x = false := by simpa using e
      rw [this]; rfl
    · simp [hi]
theorem okC_bits {s : Nat → Nat → Nat} {a : List Nat} {C D c : Nat} (hC : BitsOf C fun c => ∃ i, i < a.length ∧ a.getD i 0 = c) (hD : BitsOf D fun x => ∃ i, i < a.length ∧ s i (a.getD i 0) = x) (hc : c < 8) (hx : s a.length c < 8) :
    okC s a c = true ↔ C &&& 2 ^ c = 0 ∧ D &&& 2 ^ (s a.length c) = 0 := by
  rw [okC_iff, hC.and hc, hD.and hx]
  constructor
  · intro h
    exact ⟨fun ⟨i, hi, e⟩ => (h i hi).1 e, fun ⟨i, hi, e⟩ => (h i hi).2 e⟩
  · rintro ⟨h1, h2⟩ i hi
    exact ⟨fun e => h1 ⟨i, hi, e⟩, fun e => h2 ⟨i, hi, e⟩⟩

theorem two_lt {c : Nat} (h : c < 8) : 2 ^ c < 256 := Nat.pow_lt_pow_right (a := 2) (m := c) (n := 8) (by decide) h
theorem wrap_two {c h : Nat} (hc : c < 8) (e : 2 ^ c = h) : IntKind.u64.wrap ((2 : Int) ^ c) = (h : Int) := by
  have hlt : h < 256 := by rw [← e]; exact two_lt hc
  have : (2 : Int) ^ c = (h : Int) := by rw [← e]; simp
  rw [this]
  simp [IntKind.wrap, IntKind.bits, IntKind.signed]
  omega
set_option maxRecDepth 100000 in
set_option maxHeartbeats 8000000 in
theorem crossings_go (n : Nat) (s : Nat → Nat → Nat) (v : Value) (hn : n ≤ 8) (hs : ∀ r c, r < n → c < n → s r c < 8) : ∀ (m : Nat) (a : List Nat) (C D : Nat) (w : World), a.length + m = n → Teller v n n s w →
    BitsOf C (fun c => ∃ i, i < a.length ∧ a.getD i 0 = c) → BitsOf D (fun x => ∃ i, i < a.length ∧ s i (a.getD i 0) = x) →
    Calls Tryd.prog 23 #[.int .i64 (n : Int), v, .int .i64 (a.length : Int), .int .u64 (C : Int), .int .u64 (D : Int)] w fun e w' => e = .returned (.int .i64 (cr n s m a : Int)) ∧ Below w.heap.size w w'
  | 0, a, C, D, w, hm, hT, hC, hD => by
    have he : ((a.length : Int) == (n : Int)) = true := by simp; omega
    go_enter Tryd.func23, Tryd.ntmps23
    go_wp2
    go_ret
    exact ⟨rfl, Below.refl _ _⟩
  | m + 1, a, C, D, w, hm, hT, hC, hD => by
    have ih := crossings_go n s v hn hs m
    have he : ((a.length : Int) == (n : Int)) = false := by simp; omega
    obtain ⟨g, lb, rfl, eg, hTT⟩ := id hT
    have HT : Hid (TellAt g lb n n s w) := hTT
    have HT2 : Hid (Teller (.func (.func g) #[] lb) n n s w) := hT
    have HS : Hid (∀ r c, r < n → c < n → s r c < 8) := hs
    have HC : Hid (BitsOf C (fun c => ∃ i, i < a.length ∧ a.getD i 0 = c)) := hC
    have HD : Hid (BitsOf D (fun x => ∃ i, i < a.length ∧ s i (a.getD i 0) = x)) := hD
    have HI : Hid (∀ (a : List Nat) (C D : Nat) (w : World), a.length + m = n → Teller (.func (.func g) #[] lb) n n s w →
    BitsOf C (fun c => ∃ i, i < a.length ∧ a.getD i 0 = c) → BitsOf D (fun x => ∃ i, i < a.length ∧ s i (a.getD i 0) = x) →
    Calls Tryd.prog 23 #[.int .i64 (n : Int), .func (.func g) #[] lb, .int .i64 (a.length : Int), .int .u64 (C : Int), .int .u64 (D : Int)] w fun e w' => e = .returned (.int .i64 (cr n s m a : Int)) ∧ Below w.heap.size w w') := ih
    obtain ⟨z, Hz⟩ : ∃ z, Hid (cr n s (m + 1) a = z) := ⟨_, rfl⟩
    have HZ : Hid ((Sm n fun c => if okC s a c then cr n s m (a ++ [c]) else 0) = z) := Hz.out
    rw [Hz.out]
    obtain ⟨r, Hr⟩ : ∃ r, Hid (a.length = r) := ⟨_, rfl⟩
    have hC256 := hC.1
    have hD256 := hD.1
    have hrn : r < n := by rw [← Hr.out]; omega
    obtain ⟨B, HB⟩ : ∃ B, Hid (B = 8 ^ m) := ⟨_, (rfl : 8 ^ m = 8 ^ m)⟩
    have hB8 : B ≤ 2097152 := by rw [HB.out]; exact Nat.pow_le_pow_right (n := 8) (i := m) (j := 7) (by decide) (by omega)
    rw [Hr.out] at he ⊢
    have Hm : Hid (r + (m + 1) = n) := by show _ = _; rw [← Hr.out]; exact hm
    clear hT hTT hs hC hD ih Hz hm
    go_enter Tryd.func23, Tryd.ntmps23
    go_wp2
    go_loopw [11, 19] (fun o i wr => ∃ c X : Nat, i = .int .i64 (c : Int) ∧ c ≤ n ∧ o = .int .i64 (X : Int) ∧ Hid ((Sm c fun c => if okC s a c then cr n s m (a ++ [c]) else 0) = X) ∧ X ≤ c * 2097152 ∧ Below w.heap.size w wr) (fun _ i _ => (n - intOf i).toNat)
    case atStart => exact ⟨0, 0, rfl, by omega, rfl, (rfl : (Sm 0 fun c => if okC s a c then cr n s m (a ++ [c]) else 0) = 0), by omega, Below.refl _ _⟩
    case round =>
      obtain ⟨c, X, rfl, hc, rfl, HX, hXb, hB⟩ := hrel
      by_cases hcl : c < n
      · have hdc : decide ((c : Int) < (n : Int)) = true := by simp; omega
        have hc8 : c < 8 := by omega
        have D1 := HT.out _ hB.drew r c hrn hcl
        have hx8 := HS.out r c hrn hcl
        obtain ⟨x, Hx⟩ : ∃ x, Hid (s r c = x) := ⟨_, rfl⟩
        rw [Hx.out] at D1 hx8
        obtain ⟨h, Hh⟩ : ∃ h, Hid (2 ^ c = h) := ⟨_, (rfl : 2 ^ c = 2 ^ c)⟩
        obtain ⟨q, Hq⟩ : ∃ q, Hid (2 ^ x = q) := ⟨_, (rfl : 2 ^ x = 2 ^ x)⟩
        have hh256 : h < 256 := by rw [← Hh.out]; exact two_lt hc8
        have hq256 : q < 256 := by rw [← Hq.out]; exact two_lt hx8
        have sh1 : IntKind.u64.wrap ((2 : Int) ^ c) = (h : Int) := wrap_two hc8 Hh.out
        have sh2 : IntKind.u64.wrap ((2 : Int) ^ x) = (q : Int) := wrap_two hx8 Hq.out
        go_wp2_with fail
        refine wp_region_noPanic ?_
        refine wp_region_held_drew (S := fun _ => True) (by kernel_rfl) (trivial) (fun hSx => ?_)
        refine wpAnyH_take (i := 0) (v := .int .i64 (c : Int)) rfl (by kernel_rfl) (by kernel_rfl) (by kernel_rfl) (fun _ _ _ h => h) (Or.inl ⟨by rfl, fun w' hSw => by (try dsimp only at hSw); go_simp⟩) hSx ?_
        try simp only [Act.put, List.setIfInBounds_toArray]
        refine wpAnyH_take (i := 1) (v := .int .u64 (h : Int)) rfl (by kernel_rfl) (by kernel_rfl) (by kernel_rfl) (fun _ _ _ h => h) (Or.inl ⟨by rfl, fun w' hSw => by (try dsimp only at hSw); go_simp⟩) hSx ?_
        try simp only [Act.put]
        refine wpAnyH_take (i := 2) (v := .func (.func g) #[] lb) rfl (by kernel_rfl) (by kernel_rfl) (by kernel_rfl) (fun _ _ _ h => h) (Or.inl ⟨by rfl, fun w' hSw => by (try dsimp only at hSw); go_simp⟩) hSx ?_
        try simp only [Act.put]
        refine wpAnyH_take (i := 3) (v := .int .i64 (r : Int)) rfl (by kernel_rfl) (by kernel_rfl) (by kernel_rfl) (fun _ _ _ h => h) (Or.inl ⟨by rfl, fun w' hSw => by (try dsimp only at hSw); go_simp⟩) hSx ?_
        try simp only [Act.put]
        refine wpAnyH_take (i := 4) (v := .int .i64 (c : Int)) rfl (by kernel_rfl) (by kernel_rfl) (by kernel_rfl) (fun _ _ _ h => h) (Or.inl ⟨by rfl, fun w' hSw => by (try dsimp only at hSw); go_simp⟩) hSx ?_
        try simp only [Act.put]
        refine wpAnyH_ready (rs := [5]) (by kernel_rfl) (by simp) ?_
        refine AllReadyH.cons rfl (fun J hJ => ?_) AllReadyH.nil
        go_simp
        go_at_fn g
        refine D1.mono ?_
        rintro e w3 ⟨rfl, b3⟩
        go_wp2_with fail
        refine hJ.out _ _ trivial (fun hSy => ?_)
        clear hJ J
        try simp only [Act.put, List.setIfInBounds_toArray, List.set_cons_zero, List.set_cons_succ]
        refine wpAnyH_take (i := 6) (v := .int .u64 (q : Int)) rfl (by kernel_rfl) (by kernel_rfl) (by kernel_rfl) (fun _ _ _ h => h) (Or.inl ⟨by rfl, fun w' hSw => by (try dsimp only at hSw); go_simp⟩) hSy ?_
        try simp only [Act.put, List.setIfInBounds_toArray]
        refine wpAnyH_ready (rs := [7]) (by kernel_rfl) (by simp) ?_
        refine AllReadyH.cons rfl (fun J hJ => ?_) AllReadyH.nil
        go_simp
        refine hJ.out _ _ trivial (fun hSz => ?_)
        clear hJ J
        try simp only [Act.put, List.setIfInBounds_toArray, List.set_cons_zero, List.set_cons_succ]
        refine wpAnyH_ready (rs := [8]) (by kernel_rfl) (by simp) ?_
        refine AllReadyH.cons rfl (fun J hJ => ?_) AllReadyH.nil
        go_simp
        refine hJ.out _ _ trivial (fun _ => ?_)
        clear hJ J
        try simp only [Act.put, List.setIfInBounds_toArray, List.set_cons_zero, List.set_cons_succ]
        refine wpAnyH_done (by kernel_rfl) ?_ _
        refine NoPanic.normal ?_
        have hB3 := Below.next hB.drew b3
        have an1 : bits .and .u64 (C : Int) (h : Int) = ((C &&& h : Nat) : Int) := bits_and_u64_nat C h (by omega) (by omega)
        have an2 : bits .and .u64 (D : Int) (q : Int) = ((D &&& q : Nat) : Int) := bits_and_u64_nat D q (by omega) (by omega)
        have or1 : bits .or .u64 (C : Int) (h : Int) = ((C ||| h : Nat) : Int) := bits_or_u64_nat C h (by omega) (by omega)
        have or2 : bits .or .u64 (D : Int) (q : Int) = ((D ||| q : Nat) : Int) := bits_or_u64_nat D q (by omega) (by omega)
        have HOK : Hid (okC s a c = true ↔ C &&& h = 0 ∧ D &&& q = 0) := by
          have := okC_bits (c := c) HC.out HD.out hc8 (by rw [Hr.out, Hx.out]; exact hx8)
          rw [Hr.out, Hx.out, Hh.out, Hq.out] at this
          exact this
        have HN : Hid ((Sm (c + 1) fun c => if okC s a c then cr n s m (a ++ [c]) else 0) = X + if okC s a c then cr n s m (a ++ [c]) else 0) := by
          show _ = _
          rw [Sm_succ, HX.out]
        have hlen : (a ++ [c]).length = r + 1 := by rw [List.length_append, List.length_singleton, Hr.out]
        have ICall := fun (hm' : (a ++ [c]).length + m = n) => HI.out (a ++ [c]) (C ||| h) (D ||| q) w3 hm' (HT2.out.below hB3) (by
          rw [← Hh.out]
          refine HC.out.or hc8 fun c' _ => ?_
          rw [hlen]
          constructor
          · rintro ⟨i, hi, e⟩
            by_cases h1 : i < a.length
            · rw [snoc_lt h1] at e; exact .inl ⟨i, h1, e⟩
            · have : i = a.length := by have := Hr.out; omega
              subst this
              rw [snoc_at] at e; exact .inr e.symm
          · rintro (⟨i, hi, e⟩ | rfl)
            · exact ⟨i, by have := Hr.out; omega, by rw [snoc_lt hi]; exact e⟩
            · exact ⟨a.length, by have := Hr.out; omega, snoc_at⟩) (by
          rw [← Hq.out]
          refine HD.out.or hx8 fun c' _ => ?_
          rw [hlen]
          constructor
          · rintro ⟨i, hi, e⟩
            by_cases h1 : i < a.length
            · rw [snoc_lt h1] at e; exact .inl ⟨i, h1, e⟩
            · have : i = a.length := by have := Hr.out; omega
              subst this
              rw [snoc_at, Hr.out, Hx.out] at e; exact .inr e.symm
          · rintro (⟨i, hi, e⟩ | rfl)
            · exact ⟨i, by have := Hr.out; omega, by rw [snoc_lt hi]; exact e⟩
            · exact ⟨a.length, by have := Hr.out; omega, by rw [snoc_at, Hr.out, Hx.out]⟩)
        have hle := cr_le (s := s) hn (m := m) (a := a ++ [c])
        rw [← HB.out] at hle
        have hml := Hm.out
        have IC := ICall (by rw [hlen]; omega)
        rw [hlen] at IC
        obtain ⟨p, Hp⟩ : ∃ p, Hid (cr n s m (a ++ [c]) = p) := ⟨_, rfl⟩
        rw [Hp.out] at IC hle HN
        rw [show ((r + 1 : Nat) : Int) = (r : Int) + 1 from by simp] at IC
        clear ICall hlen hSx hSy hSz D1 b3 hml HX sh1 sh2
        obtain ⟨C', HC'⟩ : ∃ x, Hid (C ||| h = x) := ⟨_, rfl⟩
        obtain ⟨D', HD'⟩ : ∃ x, Hid (D ||| q = x) := ⟨_, rfl⟩
        obtain ⟨P, HP⟩ : ∃ x, Hid (C &&& h = x) := ⟨_, rfl⟩
        obtain ⟨Q, HQ⟩ : ∃ x, Hid (D &&& q = x) := ⟨_, rfl⟩
        rw [HC'.out] at IC or1
        rw [HD'.out] at IC or2
        rw [HP.out] at an1 HOK
        rw [HQ.out] at an2 HOK
        by_cases h1 : P = 0
        · have hb1 : ((P : Int) == 0) = true := by simp; omega
          by_cases h2 : Q = 0
          · have hb2 : ((Q : Int) == 0) = true := by simp; omega
            have HN2 : Hid ((Sm (c + 1) fun c => if okC s a c then cr n s m (a ++ [c]) else 0) = X + p) := by
              show _ = _
              rw [HN.out, if_pos (HOK.out.2 ⟨h1, h2⟩)]
            clear h1 h2 HN HOK
            go_wp2_with (go_at_call 23; refine IC.mono ?_; rintro e w4 ⟨rfl, b4⟩)
            go_roundw
            case rel => exact ⟨c + 1, X + p, by go_num, by omega, by go_num, HN2, by omega, Below.next hB3 b4⟩
            case measure => simp [intOf]; omega
          · have hb2 : ((Q : Int) == 0) = false := by simp; omega
            have HN2 : Hid ((Sm (c + 1) fun c => if okC s a c then cr n s m (a ++ [c]) else 0) = X) := by
              show _ = _
              rw [HN.out, if_neg fun h => h2 (HOK.out.1 h).2, Nat.add_zero]
            clear h1 h2 HN HOK IC
            go_wp2
            go_roundw
            case rel => exact ⟨c + 1, X, by go_num, by omega, rfl, HN2, Nat.le_trans hXb (Nat.mul_le_mul_right _ (Nat.le_succ c)), hB3⟩
            case measure => simp [intOf]; omega
        · have hb1 : ((P : Int) == 0) = false := by simp; omega
          have HN2 : Hid ((Sm (c + 1) fun c => if okC s a c then cr n s m (a ++ [c]) else 0) = X) := by
            show _ = _
            rw [HN.out, if_neg fun h => h1 (HOK.out.1 h).1, Nat.add_zero]
          clear h1 HN HOK IC
          go_wp2
          go_roundw
          case rel => exact ⟨c + 1, X, by go_num, by omega, rfl, HN2, Nat.le_trans hXb (Nat.mul_le_mul_right _ (Nat.le_succ c)), hB3⟩
          case measure => simp [intOf]; omega
      · have hdc : decide ((c : Int) < (n : Int)) = false := by simp; omega
        obtain rfl : c = n := by omega
        have hX : X = z := HX.out.symm.trans HZ.out
        subst hX
        go_wp2
        go_ret
        exact ⟨rfl, hB⟩
theorem crossings_any (n : Nat) (s : Nat → Nat → Nat) (v : Value) (w : World) (hn : n ≤ 8) (hs : ∀ r c, r < n → c < n → s r c < 8) (hT : Teller v n n s w) :
    Calls Tryd.prog 23 #[.int .i64 (n : Int), v, .int .i64 0, .int .u64 0, .int .u64 0] w fun e w' => e = .returned (.int .i64 (trN n s : Int)) ∧ Below w.heap.size w w' := by
  rw [← cr_tr]
  exact crossings_go n s v hn hs n [] 0 0 w (by simp) hT ⟨by decide, fun c _ => by simp⟩ ⟨by decide, fun c _ => by simp⟩
end Go.Proofs.YtagpbkcnjogbgabDoor
