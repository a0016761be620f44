/- The walks of parts, Parts and of the document's Closed, PartsOf. -/
import Derived.Test.YtncnaaohihmjnaaQ9
import Derived.Test.YtncnaaohihmjnaaQ7
namespace Go.Proofs.Ytncnaaohihmjnaa
open Go.RowKit

set_option maxHeartbeats 4000000 in
theorem parts_any (n : Nat) (t : Nat → Nat → Nat) (v : Value) (w : World) (m : Nat) (hn : n ≤ 8) (ht : ∀ a b, a < n → b < n → t a b < n) (hT : Teller v n n t w) (hm : parB n t (2 ^ n) = m) :
    Calls Try.prog 37 #[.int .i64 (n : Int), v] w fun e w' => e = .returned (.int .i64 (m : Int)) ∧ Below w.heap.size w w' := by
  have HT : Hid (Teller v n n t w) := hT
  have HLT : Hid (∀ a b, a < n → b < n → t a b < n) := ht
  have HM : Hid (parB n t (2 ^ n) = m) := hm
  obtain ⟨g, lb, rfl⟩ := hT.form
  obtain ⟨N, hN⟩ : ∃ N, N = 2 ^ n := ⟨_, rfl⟩
  have HN : Hid (N = 2 ^ n) := hN
  have hN8 : N ≤ 256 := by rw [hN]; exact pow_le hn
  have hpw : (2 : Int) ^ n = (N : Int) := by rw [hN]; simp
  have hN1 : 1 ≤ N := by rw [hN]; exact Nat.pos_of_ne_zero (by simp)
  clear hT ht hm hN
  go_enter Try.func37, Try.ntmps37
  go_wp2
  go_loopw [5, 6] (fun ov sv wr => ∃ (k : Nat) (c : Nat), sv = .int .u64 (k : Int) ∧ ov = .int .i64 (c : Int) ∧ 1 ≤ k ∧ k ≤ N ∧ c ≤ k ∧ Hid (parB n t k = c) ∧ Below w.heap.size w wr) (fun _ sv _ => (N - intOf sv).toNat)
  case atStart => exact ⟨1, 0, rfl, rfl, by omega, by omega, by omega, parB_one n t, Below.refl _ _⟩
  case round =>
    obtain ⟨k, c, rfl, rfl, hk1, hkN, hck, HC, hB⟩ := hrel
    by_cases hlt : k < N
    · have hdk : decide ((k : Int) < (N : Int)) = true := by simp; omega
      have C1 := holding_any n k wr hn (by omega)
      have C2 := fun W y (b : Below w.heap.size w W) (hA : Asker y n k.testBit W) => closed_any n t k.testBit _ y _ W hn HLT.out (HT.out.below b) hA rfl
      have HP : Hid (parB n t (k + 1) = c + if cloB n t k.testBit = true then 1 else 0) := by show _ = _; rw [parB_succ hk1, HC.out]
      generalize cloB n t k.testBit = q at *
      cases q with
      | true =>
        go_wp2_with (first
          | (go_at_call 59; refine C1.mono ?_; rintro e w1 ⟨⟨y, rfl, hA⟩, b1⟩; have hB1 := Below.next hB b1; clear C1)
          | (go_at_call 58; refine (C2 _ _ hB1 hA).mono ?_; rintro e w2 ⟨rfl, b2⟩; have hB2 := Below.next hB1 b2; clear C2))
        go_roundw
        case rel => exact ⟨k + 1, c + 1, by go_num, by go_num, by omega, by omega, by omega, HP.out, hB2⟩
        case measure => simp [intOf]; omega
      | false =>
        go_wp2_with (first
          | (go_at_call 59; refine C1.mono ?_; rintro e w1 ⟨⟨y, rfl, hA⟩, b1⟩; have hB1 := Below.next hB b1; clear C1)
          | (go_at_call 58; refine (C2 _ _ hB1 hA).mono ?_; rintro e w2 ⟨rfl, b2⟩; have hB2 := Below.next hB1 b2; clear C2))
        go_roundw
        case rel => exact ⟨k + 1, c, by go_num, rfl, by omega, by omega, by omega, HP.out, hB2⟩
        case measure => simp [intOf]; omega
    · have hdk : decide ((k : Int) < (N : Int)) = false := by simp; omega
      obtain rfl : k = N := by omega
      obtain rfl : c = m := by rw [← HC.out, ← HM.out, HN.out]
      go_wp2
      go_ret
      exact ⟨rfl, hB⟩
set_option maxHeartbeats 4000000 in
theorem Parts_bad (s : Int) (L : List Int) (v : Value) (w : World) (hv : Sl w v L) (hl : L.length ≤ maxLen) (h : lF s L ≠ 0) :
    Calls Try.prog 13 #[.agg #[.int .i64 s, v]] w fun e w' => e = .returned (.tuple #[.int .i64 0, .int .i64 (lF s L : Int)]) ∧ Below w.heap.size w w' := by
  have C := fun W (b : Below w.heap.size w W) => Check_any s L v W (hv.below b) hl
  have hz : ((lF s L : Int) != 0) = true := by simp; omega
  generalize lF s L = z at *
  clear hv
  go_enter Try.func13, Try.ntmps13
  go_wp2_with (go_at_call 30; refine (C _ (balloc w _)).mono ?_; rintro e w0 ⟨rfl, b0⟩)
  go_ret2
  exact ⟨rfl, Below.next (balloc w _) b0⟩
set_option maxRecDepth 100000 in
set_option maxHeartbeats 8000000 in
theorem Parts_ok (n : Nat) (L : List Int) (v : Value) (w : World) (hv : Sl w v L) (G : GoodS n L) :
    Calls Try.prog 13 #[.agg #[.int .i64 (n : Int), v]] w fun e w' => e = .returned (.tuple #[.int .i64 (parB n (sq n L) (2 ^ n) : Int), .int .i64 0]) ∧ Below w.heap.size w w' := by
  have h8 := G.le
  have C := fun W (b : Below w.heap.size w W) => Check_any n L v W (hv.below b) (good_len G)
  rw [lF_good G] at C
  have A1 := fun W (b : Below w.heap.size w W) => productOf_any n L v W (hv.below b) G
  have A2 := fun y W (hT : Teller y n n (sq n L) W) => parts_any n (sq n L) y W _ h8 G.lat.lt hT rfl
  have SS : Hid (∀ W, Below (w.alloc (.cells #[.int .i64 (n : Int), v] 24)).heap.size (w.alloc (.cells #[.int .i64 (n : Int), v] 24)) W → W.cell? ⟨w.heap.size, 0, none⟩ = some (.int .i64 (n : Int)) ∧ W.cell? ⟨w.heap.size, 1, none⟩ = some v ∧ W.rangeAt w.heap.size 0 [.int .i64 (n : Int), v]) := one_box n v w
  generalize parB n (sq n L) (2 ^ n) = m at *
  clear hv G
  go_enter Try.func13, Try.ntmps13
  go_wp2_with (go_at_call 30; refine (C _ (balloc w _)).mono ?_; rintro e w0 ⟨rfl, b0⟩; obtain ⟨x0, x1, x2⟩ := SS.out _ b0)
  have hB := Below.next (balloc w _) b0
  have HS : Hid (∀ w', Below w0.heap.size w0 w' → w'.cell? ⟨w.heap.size, 0, none⟩ = some (.int .i64 (n : Int)) ∧ w'.cell? ⟨w.heap.size, 1, none⟩ = some v ∧ w'.rangeAt w.heap.size 0 [.int .i64 (n : Int), v]) := fun w' b' => SS.out _ (Below.next b0 b')
  clear C SS x0 x1 x2
  refine wp_region_noPanic ?_
  refine wp_region_held_drew (S := fun w' => w'.cell? ⟨w.heap.size, 0, none⟩ = some (.int .i64 (n : Int)) ∧ w'.cell? ⟨w.heap.size, 1, none⟩ = some v ∧ w'.rangeAt w.heap.size 0 [.int .i64 (n : Int), v]) (by kernel_rfl) (HS.out _ (Below.refl _ w0).drew) (fun hSx => ?_)
  have d0 : Below w0.heap.size w0 w0.drew := (Below.refl _ w0).drew
  refine wpAnyH_take (i := 0) (v := .pointer (some ⟨w.heap.size, 0, none⟩)) rfl (by kernel_rfl) (by kernel_rfl) (by kernel_rfl) (fun _ _ _ h => h) (Or.inl ⟨by rfl, fun w' hSw => by (try dsimp only at hSw); obtain ⟨hs0, hs1, hs2⟩ := hSw; go_simp⟩) hSx ?_
  try simp only [Act.put, List.setIfInBounds_toArray]
  refine wpAnyH_take (i := 1) (v := .int .i64 (n : Int)) rfl (by kernel_rfl) (by kernel_rfl) (by kernel_rfl) (fun _ _ _ h => h) (Or.inl ⟨by rfl, fun w' hSw => by (try dsimp only at hSw); obtain ⟨hs0, hs1, hs2⟩ := hSw; go_simp⟩) hSx ?_
  try simp only [Act.put]
  refine wpAnyH_take (i := 2) (v := .agg #[.int .i64 (n : Int), v]) rfl (by kernel_rfl) (by kernel_rfl) (by kernel_rfl) (fun _ _ _ h => h) (yieldsIf_load_mid (by rfl) 24 _ rfl w.heap.size 0 rfl [.int .i64 (n : Int), v] _ (fun _ h => h.2.2) Try.underlying24 rfl inf24) hSx ?_
  try simp only [Act.put]
  refine wpAnyH_ready (rs := [3]) (by kernel_rfl) (by simp) ?_
  refine AllReadyH.cons rfl (fun J hJ => ?_) AllReadyH.nil
  go_simp
  refine (A1 _ (Below.next hB d0)).mono ?_
  rintro e w1 ⟨⟨y, rfl, hT⟩, b1⟩
  have d1 := Below.next d0 b1
  go_wp2_with fail
  refine hJ.out _ _ (HS.out _ d1) (fun hSx => ?_)
  clear hJ J
  try simp only [Act.put, List.setIfInBounds_toArray, List.set_cons_zero, List.set_cons_succ]
  refine wpAnyH_ready (rs := [4]) (by kernel_rfl) (by simp) ?_
  refine AllReadyH.cons rfl (fun J hJ => ?_) AllReadyH.nil
  go_simp
  refine (A2 y _ hT).mono ?_
  rintro e w2 ⟨rfl, b2⟩
  have d2 := Below.next d1 b2
  go_wp2_with fail
  refine hJ.out _ _ (HS.out _ d2) (fun hSx => ?_)
  clear hJ J
  try simp only [Act.put, List.setIfInBounds_toArray, List.set_cons_zero, List.set_cons_succ]
  refine wpAnyH_take (i := 5) (v := .int .i64 (m : Int)) rfl (by kernel_rfl) (by kernel_rfl) (by kernel_rfl) (fun _ _ _ h => h) (Or.inl ⟨by rfl, fun w' hSw => by (try dsimp only at hSw); obtain ⟨hs0, hs1, hs2⟩ := hSw; go_simp⟩) hSx ?_
  try simp only [Act.put, List.setIfInBounds_toArray]
  refine wpAnyH_take (i := 6) (v := .int .i64 0) rfl (by kernel_rfl) (by kernel_rfl) (by kernel_rfl) (fun _ _ _ h => h) (Or.inl ⟨by rfl, fun w' hSw => by (try dsimp only at hSw); obtain ⟨hs0, hs1, hs2⟩ := hSw; go_simp⟩) hSx ?_
  try simp only [Act.put]
  refine wpAnyH_done (by kernel_rfl) ?_ _
  refine NoPanic.normal ?_
  go_simp
  go_wp2
  go_ret2
  exact ⟨rfl, Below.next hB d2⟩
theorem bit_i {set : Nat} (x : Nat) (hs : set < 256) : bits BinOp.and IntKind.i64 ((set : Int) / 2 ^ x) 1 = if set.testBit x then 1 else 0 := by
  rw [shr_cast, and_i ⟨_, shr_lt hs⟩, Nat.testBit_eq_decide_div_mod_eq]
  have := Nat.mod_lt (set / 2 ^ x) (show 0 < 2 by decide)
  by_cases h : set / 2 ^ x % 2 = 1
  · rw [decide_eq_true h, if_pos rfl]; show ((set / 2 ^ x % 2 : Nat) : Int) = 1; omega
  · rw [decide_eq_false h, if_neg (by decide)]; show ((set / 2 ^ x % 2 : Nat) : Int) = 0; omega
set_option maxHeartbeats 8000000 in
theorem Closed_any (n set : Nat) (L : List Int) (v : Value) (w : World) (q : Bool) (hv : Sl w v L) (G : GoodS n L) (hs : set < 256) (hq : cloB n (sq n L) set.testBit = q) :
    Calls Try.prog 26 #[.agg #[.int .i64 (n : Int), v], .int .i64 (set : Int)] w fun e w' => e = .returned (.bool q) ∧ Below w.heap.size w w' := by
  have h8 := G.le
  have HLT : Hid (∀ a b, a < n → b < n → sq n L a b < n) := G.lat.lt
  obtain ⟨w0, Hw0⟩ : ∃ w0, Hid (w0 = w.alloc (.cells #[.int .i64 (n : Int), v] 24)) := ⟨_, rfl⟩
  have HD : Hid (Doc n (sq n L) v w.heap.size w0) := by rw [Hw0.out]; exact doc_of hv G
  have HB0 : Hid (Below w.heap.size w w0) := by rw [Hw0.out]; exact balloc _ _
  have HQ : Hid (cloB n (sq n L) set.testBit = q) := hq
  have HBI : Hid (∀ x, bits BinOp.and IntKind.i64 ((set : Int) / 2 ^ x) 1 = if set.testBit x then 1 else 0) := fun x => bit_i x hs
  generalize sq n L = t at *
  obtain ⟨x0, x1⟩ := HD.out.cell _ (Below.refl _ _)
  rw [Hw0.out] at x0 x1
  clear hv G hq
  go_enter Try.func26, Try.ntmps26
  go_wp2
  go_loopw [5] (fun i wr => ∃ x : Nat, i = .int .i64 (x : Int) ∧ x ≤ n ∧ Hid (∀ x' y, x' < x → y < n → set.testBit x' = true → set.testBit y = true → set.testBit (t x' y) = true) ∧ Below w0.heap.size w0 wr) (fun i _ => (n - intOf i).toNat)
  case atStart => exact ⟨0, rfl, by omega, (show ∀ x' y, x' < 0 → _ from fun x' y h => by omega), by rw [Hw0.out]; exact Below.refl _ _⟩
  case round =>
    clear x0 x1
    obtain ⟨x, rfl, hx, HR, hB⟩ := hrel
    obtain ⟨x0, x1⟩ := HD.out.cell _ hB
    by_cases hlt : x < n
    · have hdx : decide ((x : Int) < (n : Int)) = true := by simp; omega
      go_wp2
      go_loopw [6] (fun j wr => ∃ y : Nat, j = .int .i64 (y : Int) ∧ y ≤ n ∧ Hid (∀ y', y' < y → set.testBit x = true → set.testBit y' = true → set.testBit (t x y') = true) ∧ Below w0.heap.size w0 wr) (fun j _ => (n - intOf j).toNat)
      case atStart => exact ⟨0, rfl, by omega, (show ∀ y, y < 0 → _ from fun y h => by omega), hB⟩
      case round =>
        clear x0 x1 hB
        obtain ⟨y, rfl, hy, HY, hB⟩ := hrel
        obtain ⟨x0, x1⟩ := HD.out.cell _ hB
        by_cases hly : y < n
        · have hdy : decide ((y : Int) < (n : Int)) = true := by simp; omega
          have C1 := HD.out.ask _ hB x y hlt hly
          have hzlt := HLT.out x y hlt hly
          have hx8 : x < 8 := by omega
          have hy8 : y < 8 := by omega
          obtain ⟨z, Hz⟩ : ∃ z, Hid (z = t x y) := ⟨_, rfl⟩
          rw [← Hz.out] at C1 hzlt
          have hz8 : z < 8 := by omega
          have b1 := HBI.out x
          have b2 := HBI.out y
          have b3 := HBI.out z
          obtain ⟨p, Hp⟩ : ∃ p, Hid (set.testBit x = p) := ⟨_, rfl⟩
          obtain ⟨r, Hr⟩ : ∃ p, Hid (set.testBit y = p) := ⟨_, rfl⟩
          obtain ⟨u, Hu⟩ : ∃ p, Hid (set.testBit z = p) := ⟨_, rfl⟩
          rw [Hp.out] at b1
          rw [Hr.out] at b2
          rw [Hu.out] at b3
          have HGO : Hid ((p = true → r = true → u = true) → ∀ y', y' < y + 1 → set.testBit x = true → set.testBit y' = true → set.testBit (t x y') = true) := fun hi y' hy' e1 e2 => by
            by_cases e : y' = y
            · subst e; rw [← Hz.out, Hu.out]; exact hi (Hp.out.symm.trans e1) (Hr.out.symm.trans e2)
            · exact HY.out y' (by omega) e1 e2
          have HNO : Hid (p = true → r = true → u = false → q = false) := fun e1 e2 e3 => by
            cases q with
            | false => rfl
            | true =>
              have := clo_iff.1 HQ.out x y hlt hly (Hp.out.trans e1) (Hr.out.trans e2)
              rw [← Hz.out, Hu.out, e3] at this
              cases this
          clear HY
          cases p with
          | false =>
            have b1' : bits BinOp.and IntKind.i64 ((set : Int) / 2 ^ x) 1 = 0 := b1
            clear b1
            go_wp2_with (go_at_call 21; refine C1.mono ?_; rintro e w1 ⟨rfl, c1⟩; have hB1 := Below.next hB c1; clear C1)
            go_roundw
            case rel => exact ⟨y + 1, by go_num, by omega, HGO.out (fun h => by cases h), hB1⟩
            case measure => simp [intOf]; omega
          | true =>
            have b1' : bits BinOp.and IntKind.i64 ((set : Int) / 2 ^ x) 1 = 1 := b1
            clear b1
            cases r with
            | false =>
              have b2' : bits BinOp.and IntKind.i64 ((set : Int) / 2 ^ y) 1 = 0 := b2
              clear b2
              go_wp2_with (go_at_call 21; refine C1.mono ?_; rintro e w1 ⟨rfl, c1⟩; have hB1 := Below.next hB c1; clear C1)
              go_roundw
              case rel => exact ⟨y + 1, by go_num, by omega, HGO.out (fun _ h => by cases h), hB1⟩
              case measure => simp [intOf]; omega
            | true =>
              have b2' : bits BinOp.and IntKind.i64 ((set : Int) / 2 ^ y) 1 = 1 := b2
              clear b2
              cases u with
              | true =>
                have b3' : bits BinOp.and IntKind.i64 ((set : Int) / 2 ^ z) 1 = 1 := b3
                clear b3
                go_wp2_with (go_at_call 21; refine C1.mono ?_; rintro e w1 ⟨rfl, c1⟩; have hB1 := Below.next hB c1; clear C1)
                go_roundw
                case rel => exact ⟨y + 1, by go_num, by omega, HGO.out (fun _ _ => by trivial), hB1⟩
                case measure => simp [intOf]; omega
              | false =>
                have b3' : bits BinOp.and IntKind.i64 ((set : Int) / 2 ^ z) 1 = 0 := b3
                obtain rfl : q = false := HNO.out rfl rfl rfl
                clear b3
                go_wp2_with (go_at_call 21; refine C1.mono ?_; rintro e w1 ⟨rfl, c1⟩; have hB1 := Below.next hB c1; clear C1)
                go_ret
                exact ⟨rfl, Below.next HB0.out hB1⟩
        · have hdy : decide ((y : Int) < (n : Int)) = false := by simp; omega
          obtain rfl : y = n := by omega
          have HR2 : Hid (∀ x' y', x' < x + 1 → y' < y → set.testBit x' = true → set.testBit y' = true → set.testBit (t x' y') = true) := fun x' y' hx' hy' e1 e2 => by
            by_cases e : x' = x
            · subst e; exact HY.out y' hy' e1 e2
            · exact HR.out x' y' (by omega) hy' e1 e2
          go_wp2
          go_roundw
          case rel => exact ⟨x + 1, by go_num, by omega, HR2, hB⟩
          case measure => simp [intOf]; omega
    · have hdx : decide ((x : Int) < (n : Int)) = false := by simp; omega
      obtain rfl : x = n := by omega
      obtain rfl : q = true := by rw [← HQ.out]; exact clo_iff.2 fun x' y hx' hy e1 e2 => HR.out x' y hx' hy e1 e2
      go_wp2
      go_ret
      exact ⟨rfl, Below.next HB0.out hB⟩
set_option maxHeartbeats 4000000 in
theorem PartsOf_any (n : Nat) (L : List Int) (v : Value) (w : World) (m : Nat) (hv : Sl w v L) (G : GoodS n L) (hm : parB n (sq n L) (2 ^ n) = m) :
    Calls Try.prog 18 #[.agg #[.int .i64 (n : Int), v]] w fun e w' => e = .returned (.int .i64 (m : Int)) ∧ Below w.heap.size w w' := by
  have hn := G.le
  obtain ⟨w0, Hw0⟩ : ∃ w0, Hid (w0 = w.alloc (.cells #[.int .i64 (n : Int), v] 24)) := ⟨_, rfl⟩
  have HD : Hid (Doc n (sq n L) v w.heap.size w0) := by rw [Hw0.out]; exact doc_of hv G
  have HB0 : Hid (Below w.heap.size w w0) := by rw [Hw0.out]; exact balloc _ _
  have HC : Hid (∀ W (k : Nat), Below w0.heap.size w0 W → k < 256 → Calls Try.prog 26 #[.agg #[.int .i64 (n : Int), v], .int .i64 (k : Int)] W fun e w' => e = .returned (.bool (cloB n (sq n L) k.testBit)) ∧ Below W.heap.size W w') := fun W k b hk => Closed_any n k L v W _ (hv.below (Below.next HB0.out b)) G hk rfl
  have HM : Hid (parB n (sq n L) (2 ^ n) = m) := hm
  obtain ⟨N, hN⟩ : ∃ N, N = 2 ^ n := ⟨_, rfl⟩
  have HN : Hid (N = 2 ^ n) := hN
  have hN8 : N ≤ 256 := by rw [hN]; exact pow_le hn
  have hpw : (2 : Int) ^ n = (N : Int) := by rw [hN]; simp
  have hN1 : 1 ≤ N := by rw [hN]; exact Nat.pos_of_ne_zero (by simp)
  generalize sq n L = t at *
  obtain ⟨x0, x1⟩ := HD.out.cell _ (Below.refl _ _)
  rw [Hw0.out] at x0 x1
  clear hv G hm hN
  go_enter Try.func18, Try.ntmps18
  go_wp2
  go_loopw [3, 4] (fun ov sv wr => ∃ (k : Nat) (c : Nat), sv = .int .i64 (k : Int) ∧ ov = .int .i64 (c : Int) ∧ 1 ≤ k ∧ k ≤ N ∧ c ≤ k ∧ Hid (parB n t k = c) ∧ Below w0.heap.size w0 wr) (fun _ sv _ => (N - intOf sv).toNat)
  case atStart => exact ⟨1, 0, rfl, rfl, by omega, by omega, by omega, parB_one n t, by rw [Hw0.out]; exact Below.refl _ _⟩
  case round =>
    clear x0 x1
    obtain ⟨k, c, rfl, rfl, hk1, hkN, hck, HP0, hB⟩ := hrel
    obtain ⟨x0, x1⟩ := HD.out.cell _ hB
    by_cases hlt : k < N
    · have hdk : decide ((k : Int) < (N : Int)) = true := by simp; omega
      have C1 := HC.out wr k hB (by omega)
      have HP : Hid (parB n t (k + 1) = c + if cloB n t k.testBit = true then 1 else 0) := by show _ = _; rw [parB_succ hk1, HP0.out]
      generalize cloB n t k.testBit = q at *
      clear HP0
      cases q with
      | true =>
        go_wp2_with (go_at_call 26; refine C1.mono ?_; rintro e w1 ⟨rfl, b1⟩; have hB1 := Below.next hB b1; clear C1)
        go_roundw
        case rel => exact ⟨k + 1, c + 1, by go_num, by go_num, by omega, by omega, by omega, HP.out, hB1⟩
        case measure => simp [intOf]; omega
      | false =>
        go_wp2_with (go_at_call 26; refine C1.mono ?_; rintro e w1 ⟨rfl, b1⟩; have hB1 := Below.next hB b1; clear C1)
        go_roundw
        case rel => exact ⟨k + 1, c, by go_num, rfl, by omega, by omega, by omega, HP.out, hB1⟩
        case measure => simp [intOf]; omega
    · have hdk : decide ((k : Int) < (N : Int)) = false := by simp; omega
      obtain rfl : k = N := by omega
      obtain rfl : c = m := by rw [← HP0.out, ← HM.out, HN.out]
      go_wp2
      go_ret
      exact ⟨rfl, Below.next HB0.out hB⟩
end Go.Proofs.Ytncnaaohihmjnaa
