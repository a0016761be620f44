/- What is wrong with makers: the walks of checkOne, Check, MemberFault, GroupFault. -/
import Derived.Test.YtmaplmgecohjbaaPList
import Derived.Deep.QuietTactic
import Derived.BigQuiet
import Derived.Test.YtmaplmgecohjbaaGB
import Derived.Test.YtmaplmgecohjbaaP28
/- The walk of PermFault. -/
namespace Go.Proofs.Ytmaplmgecohjbaa
open Go.RowKit

set_option maxHeartbeats 1000000 in
theorem PermFault_any (l : List Int) (v : Value) (w : World) (hl : Sl w v l) (hll : l.length ≤ maxLen) :
    Calls Try.prog 56 #[v] w fun e w' => e = .returned (.int .i64 (pF l)) ∧ Below w.heap.size w w' := by
  unfold maxLen at hll
  obtain ⟨z, Hz⟩ : ∃ z : Int, Hid (pF l = z) := ⟨_, rfl⟩
  rw [Hz.out]
  obtain ⟨n, Hn⟩ : ∃ n : Nat, Hid (l.length = n) := ⟨_, rfl⟩
  obtain ⟨a, cap, rfl, hc⟩ := hl
  rw [Hn.out] at hc hll ⊢
  have HC : Hid (∀ j, j < n → ∃ b off, a = some ⟨b, off, none⟩ ∧ w.cell? ⟨b, off + j, none⟩ = some (.int .i64 (l.getD j 0))) := hc
  clear hc
  by_cases h1 : 12 < n
  · have hd : decide ((12 : Int) < (n : Int)) = true := by simp; omega
    have hz : z = 3 := by rw [← Hz.out]; unfold pF; rw [if_pos (by rw [Hn.out]; exact h1)]
    subst hz
    go_enter Try.func56, Try.ntmps56
    go_wp2
    go_ret
    exact ⟨rfl, Below.refl _ _⟩
  · have hd : decide ((12 : Int) < (n : Int)) = false := by simp; omega
    have hn12 : n ≤ 12 := by omega
    clear hll
    have HZ : Hid (z = if inLB n l = false then 1 else if dupB l = true then 6 else 0) := by
      show z = _
      rw [← Hz.out]; unfold pF; rw [Hn.out, if_neg h1]
    go_enter Try.func56, Try.ntmps56
    go_wp2
    go_loop [3] (fun i => ∃ j : Nat, i = .int .i64 j ∧ j ≤ n ∧ Hid (∀ t, t < j → 0 ≤ l.getD t 0 ∧ l.getD t 0 < n)) (fun i => (n - intOf i).toNat)
    case atStart => exact ⟨0, rfl, by omega, (fun t ht => by omega : ∀ t, t < 0 → _)⟩
    case round =>
      obtain ⟨j, rfl, hj, HALL⟩ := hrel
      by_cases hlt : j < n
      · obtain ⟨x, Hx⟩ : ∃ x : Int, Hid (x = l.getD j 0) := ⟨_, rfl⟩
        obtain ⟨b, off, rfl, hcz⟩ := HC.out j hlt
        rw [← Hx.out] at hcz
        have hji : (j : Int) < n := by omega
        have hdec : decide ((j : Int) < n) = true := by simp; omega
        by_cases hz0 : x < 0
        · have hd : decide (x < 0) = true := by simpa using hz0
          have hz : z = 1 := by
            rw [HZ.out, inLB_no (fun h => ?_), if_pos rfl]
            have := h j (by have := Hn.out; omega)
            rw [← Hx.out] at this
            omega
          subst hz
          go_wp2
          go_ret
          exact ⟨rfl, Below.refl _ _⟩
        · have hd : decide (x < 0) = false := by simpa using hz0
          by_cases hzp : (n : Int) ≤ x
          · have hd2 : decide ((n : Int) ≤ x) = true := by simpa using hzp
            have hz : z = 1 := by
              rw [HZ.out, inLB_no (fun h => ?_), if_pos rfl]
              have := h j (by have := Hn.out; omega)
              rw [← Hx.out] at this
              omega
            subst hz
            go_wp2
            go_ret
            exact ⟨rfl, Below.refl _ _⟩
          · have hd2 : decide ((n : Int) ≤ x) = false := by simpa using hzp
            go_wp2
            go_round
            case rel =>
              refine ⟨j + 1, by go_num, by omega, (fun t ht => ?_ : ∀ t, t < j + 1 → _)⟩
              by_cases e : t = j
              · subst e; rw [← Hx.out]; omega
              · exact HALL.out t (by omega)
            case measure => simp [intOf]; omega
      · obtain rfl : j = n := by omega
        have hjd : decide ((j : Int) < (j : Int)) = false := by simp
        have hin : inLB j l = true := (inLB_iff _ _).2 fun t ht => HALL.out t (by have := Hn.out; omega)
        have HZ2 : Hid (z = if dupB l = true then 6 else 0) := by
          show z = _
          rw [HZ.out, hin, if_neg (by simp)]
        clear HALL hin
        go_wp2
        clear hlt hjd
        go_loopw [4] (fun i wr => ∃ k : Nat, i = .int .i64 k ∧ k ≤ j ∧ Hid (∀ i j', j' < i → i < k → l.getD i 0 ≠ l.getD j' 0) ∧ Below w.heap.size w wr) (fun i _ => (j - intOf i).toNat)
        case atStart => exact ⟨0, rfl, by omega, (fun i j' h1 h2 => by omega : ∀ i j', j' < i → i < 0 → _), Below.refl _ _⟩
        case round =>
          obtain ⟨k, rfl, hk, HD, hB⟩ := hrel
          by_cases hkj : k < j
          · have hkji : (k : Int) < j := by omega
            have hdec : decide ((k : Int) < j) = true := by simp; omega
            obtain ⟨x, Hx⟩ : ∃ x : Int, Hid (x = l.getD k 0) := ⟨_, rfl⟩
            obtain ⟨b, off, rfl, hcz⟩ := HC.out k hkj
            rw [← Hx.out] at hcz
            have hbw : b < w.heap.size := by simpa using block_lt_of_cell hcz
            go_wp2
            go_loopw [5] (fun i wr => ∃ t : Nat, i = .int .i64 t ∧ t ≤ k ∧ Hid (∀ j', j' < t → l.getD k 0 ≠ l.getD j' 0) ∧ Below w.heap.size w wr) (fun i _ => (k - intOf i).toNat)
            case atStart => exact ⟨0, rfl, by omega, (fun j' h1 => by omega : ∀ j', j' < 0 → _), hB⟩
            case round =>
              clear hB
              obtain ⟨t, rfl, ht, HE, hB⟩ := hrel
              by_cases htk : t < k
              · have htki : (t : Int) < k := by omega
                have hdect : decide ((t : Int) < k) = true := by simp; omega
                obtain ⟨y, Hy⟩ : ∃ y : Int, Hid (y = l.getD t 0) := ⟨_, rfl⟩
                obtain ⟨b', off', e, hct⟩ := HC.out t (by omega)
                simp only [Option.some.injEq, Addr.mk.injEq, and_true] at e
                obtain ⟨rfl, rfl⟩ := e
                rw [← Hy.out] at hct
                have hck2 := (hB.cell (p := ⟨b, off + k, none⟩) hbw).trans hcz
                have hct2 := (hB.cell (p := ⟨b, off + t, none⟩) hbw).trans hct
                have htji : (t : Int) < j := by omega
                by_cases hxy : x = y
                · have hbn : (x == y) = true := by simpa using hxy
                  have hz : z = 6 := by
                    rw [HZ2.out, (dupB_iff l).2 ⟨k, t, htk, by rw [Hn.out]; exact hkj, by rw [← Hx.out, ← Hy.out]; exact hxy⟩, if_pos rfl]
                  subst hz
                  clear hxy
                  go_wp2
                  go_quiet (fail)
                  go_wp2
                  go_ret
                  exact ⟨rfl, bdrewN hB _⟩
                · have hbn : (x == y) = false := by simpa using hxy
                  have HXY : Hid (x ≠ y) := hxy
                  clear hxy
                  go_wp2
                  go_quiet (fail)
                  go_wp2
                  go_roundw
                  case rel =>
                    refine ⟨t + 1, by go_num, by omega, (fun j' h1 => ?_ : ∀ j', j' < t + 1 → _), bdrewN hB _⟩
                    by_cases e : j' = t
                    · subst e; rw [← Hx.out, ← Hy.out]; exact HXY.out
                    · exact HE.out j' (by omega)
                  case measure => simp [intOf]; omega
              · obtain rfl : t = k := by omega
                have htd : decide ((t : Int) < (t : Int)) = false := by simp
                go_wp2
                go_roundw
                case rel =>
                  refine ⟨t + 1, by go_num, by omega, (fun i j' h1 h2 => ?_ : ∀ i j', j' < i → i < t + 1 → _), hB⟩
                  by_cases e : i = t
                  · subst e; exact HE.out j' h1
                  · exact HD.out i j' h1 (by omega)
                case measure => simp [intOf]; omega
          · obtain rfl : k = j := by omega
            have hkd : decide ((k : Int) < (k : Int)) = false := by simp
            have hz : z = 0 := by
              rw [HZ2.out, dupB_no (fun i j' h1 h2 => HD.out i j' h1 (by rw [← Hn.out]; exact h2)), if_neg (by simp)]
            subst hz
            go_wp2
            go_ret
            exact ⟨rfl, hB⟩

end Go.Proofs.Ytmaplmgecohjbaa

namespace Go.Proofs.Ytmaplmgecohjbaa
open Go.RowKit

/-- What is wrong with a permutation of n points. -/
def mF (n : Int) (l : List Int) : Int := if pF l ≠ 0 then pF l else if (l.length : Int) ≠ n then 2 else 0
/-- The first that is no nought. -/
def firstE : List Int → Int
  | [] => 0
  | e :: r => if e = 0 then firstE r else e
/-- What is wrong with a group. -/
def gF (n : Int) (ls : List (List Int)) : Int := if n < 1 ∨ 7 < n then 1 else if 4 < ls.length then 3 else firstE (ls.map (mF n))
theorem isP_of_pm {n : Nat} {f : Nat → Nat} (P : Pm n f) : IsP n ((List.range n).map f) := isP_of P
theorem mF_ok {n : Nat} {l : List Int} (h : mF n l = 0) : ∃ m, IsP n m ∧ l = m.map Int.ofNat := by
  unfold mF at h
  by_cases h1 : pF l ≠ 0
  · rw [if_pos h1] at h; exact absurd h h1
  · rw [if_neg h1] at h
    by_cases h2 : (l.length : Int) ≠ n
    · rw [if_pos h2] at h; omega
    · obtain ⟨n', f, _, P, rfl⟩ := pF_ok (by simpa using h1)
      rw [pl_len] at h2
      obtain rfl : n' = n := by omega
      exact ⟨_, isP_of P, by rw [← pl_map (n := n') (by simp)]; exact pl_congr fun i hi => by simp [hi]⟩
theorem mF_isP {n : Nat} (hn : n ≤ 7) {m : List Nat} (h : IsP n m) : mF n (m.map Int.ofNat) = 0 := by
  unfold mF
  have h0 : pF (m.map Int.ofNat) = 0 := by rw [← pl_map h.len]; exact pF_pl h.pm (by omega)
  rw [if_neg (by simpa using h0), if_neg (by simp [h.len])]
theorem firstE_zero {l : List Int} : firstE l = 0 ↔ ∀ e ∈ l, e = 0 := by
  induction l with
  | nil => simp [firstE]
  | cons e r ih =>
    unfold firstE
    by_cases h : e = 0
    · rw [if_pos h, ih]; simp [h]
    · rw [if_neg h]; simp [h]
theorem gF_ok {n : Int} {ls : List (List Int)} (h : gF n ls = 0) : ∃ (k : Nat) (ms : List (List Nat)), n = k ∧ 1 ≤ k ∧ k ≤ 7 ∧ ms.length ≤ 4 ∧ (∀ m ∈ ms, IsP k m) ∧ ls = ms.map fun m => m.map Int.ofNat := by
  unfold gF at h
  by_cases h1 : n < 1 ∨ 7 < n
  · rw [if_pos h1] at h; omega
  · rw [if_neg h1] at h
    by_cases h2 : 4 < ls.length
    · rw [if_pos h2] at h; omega
    · rw [if_neg h2] at h
      obtain ⟨k, rfl⟩ : ∃ k : Nat, n = k := ⟨n.toNat, by omega⟩
      have h3 : ∀ l ∈ ls, ∃ m, IsP k m ∧ l = m.map Int.ofNat := fun l hl => mF_ok (firstE_zero.1 h _ (List.mem_map.2 ⟨l, hl, rfl⟩))
      have key : ∀ ls : List (List Int), (∀ l ∈ ls, ∃ m, IsP k m ∧ l = m.map Int.ofNat) → ∃ ms : List (List Nat), (∀ m ∈ ms, IsP k m) ∧ ls = ms.map fun m => m.map Int.ofNat := by
        intro ls
        induction ls with
        | nil => exact fun _ => ⟨[], by simp, rfl⟩
        | cons l r ih =>
          intro h
          obtain ⟨m, h1, h2⟩ := h l (by simp)
          obtain ⟨ms, h3, h4⟩ := ih (fun x hx => h x (by simp [hx]))
          exact ⟨m :: ms, fun x hx => (List.mem_cons.1 hx).elim (fun e => e ▸ h1) (h3 x), by rw [List.map_cons, ← h4, ← h2]⟩
      obtain ⟨ms, h4, rfl⟩ := key ls h3
      exact ⟨k, ms, rfl, by omega, by omega, by simpa using h2, h4, rfl⟩
theorem gF_isP {k : Nat} {ms : List (List Nat)} (h1 : 1 ≤ k) (h7 : k ≤ 7) (hl : ms.length ≤ 4) (hm : ∀ m ∈ ms, IsP k m) : gF k (ms.map fun m => m.map Int.ofNat) = 0 := by
  unfold gF
  rw [if_neg (by omega), if_neg (by rw [List.length_map]; omega), firstE_zero]
  intro e he
  obtain ⟨l, hl, rfl⟩ := List.mem_map.1 he
  obtain ⟨m, hm', rfl⟩ := List.mem_map.1 hl
  exact mF_isP h7 (hm m hm')

set_option maxHeartbeats 1000000 in
theorem checkOne_any (n : Int) (l : List Int) (v : Value) (w : World) (hl : Sl w v l) (hll : l.length ≤ maxLen) :
    Calls Try.prog 57 #[.int .i64 n, v] w fun e w' => e = .returned (.int .i64 (mF n l)) ∧ Below w.heap.size w w' := by
  have C := Check_any l v w hl hll
  obtain ⟨z, Hz⟩ : ∃ z : Int, Hid (pF l = z) := ⟨_, rfl⟩
  rw [Hz.out] at C
  obtain ⟨m, Hm⟩ : ∃ m : Nat, Hid (l.length = m) := ⟨_, rfl⟩
  obtain ⟨a, cap, rfl, _⟩ := hl
  unfold maxLen at hll
  rw [Hm.out] at C hll ⊢
  by_cases hz : z = 0
  · subst hz
    by_cases hm : (m : Int) = n
    · have hr : mF n l = 0 := by unfold mF; rw [if_neg (by rw [Hz.out]; simp), if_neg (by rw [Hm.out]; simpa using hm)]
      have hne : ((m : Int) != n) = false := by simpa using hm
      rw [hr]
      clear hm
      go_enter Try.func57, Try.ntmps57
      go_wp2_with (first | (go_at_call 75; refine C.mono ?_; rintro e w1 ⟨rfl, b1⟩))
      go_ret
      exact ⟨rfl, b1⟩
    · have hr : mF n l = 2 := by unfold mF; rw [if_neg (by rw [Hz.out]; simp), if_pos (by rw [Hm.out]; exact hm)]
      have hne : ((m : Int) != n) = true := by simpa using hm
      rw [hr]
      clear hm
      go_enter Try.func57, Try.ntmps57
      go_wp2_with (first | (go_at_call 75; refine C.mono ?_; rintro e w1 ⟨rfl, b1⟩))
      go_ret
      exact ⟨rfl, b1⟩
  · have hr : mF n l = z := by unfold mF; rw [if_pos (by rw [Hz.out]; exact hz), Hz.out]
    have hzd : (z != 0) = true := by simpa using hz
    rw [hr]
    clear hz
    go_enter Try.func57, Try.ntmps57
    go_wp2_with (first | (go_at_call 75; refine C.mono ?_; rintro e w1 ⟨rfl, b1⟩))
    go_ret
    exact ⟨rfl, b1⟩

set_option maxHeartbeats 1000000 in
theorem MemberFault_any (n : Int) (l : List Int) (v : Value) (w : World) (hl : Sl w v l) (hll : l.length ≤ maxLen) :
    Calls Try.prog 33 #[.int .i64 n, v] w fun e w' => e = .returned (.int .i64 (mF n l)) ∧ Below w.heap.size w w' := by
  have C := PermFault_any l v w hl hll
  obtain ⟨z, Hz⟩ : ∃ z : Int, Hid (pF l = z) := ⟨_, rfl⟩
  rw [Hz.out] at C
  obtain ⟨m, Hm⟩ : ∃ m : Nat, Hid (l.length = m) := ⟨_, rfl⟩
  obtain ⟨a, cap, rfl, _⟩ := hl
  unfold maxLen at hll
  rw [Hm.out] at C hll ⊢
  by_cases hz : z = 0
  · subst hz
    by_cases hm : (m : Int) = n
    · have hr : mF n l = 0 := by unfold mF; rw [if_neg (by rw [Hz.out]; simp), if_neg (by rw [Hm.out]; simpa using hm)]
      have hne : ((m : Int) != n) = false := by simpa using hm
      rw [hr]
      clear hm
      go_enter Try.func33, Try.ntmps33
      go_wp2_with (first | (go_at_call 56; refine C.mono ?_; rintro e w1 ⟨rfl, b1⟩))
      go_ret
      exact ⟨rfl, b1⟩
    · have hr : mF n l = 2 := by unfold mF; rw [if_neg (by rw [Hz.out]; simp), if_pos (by rw [Hm.out]; exact hm)]
      have hne : ((m : Int) != n) = true := by simpa using hm
      rw [hr]
      clear hm
      go_enter Try.func33, Try.ntmps33
      go_wp2_with (first | (go_at_call 56; refine C.mono ?_; rintro e w1 ⟨rfl, b1⟩))
      go_ret
      exact ⟨rfl, b1⟩
  · have hr : mF n l = z := by unfold mF; rw [if_pos (by rw [Hz.out]; exact hz), Hz.out]
    have hzd : (z != 0) = true := by simpa using hz
    rw [hr]
    clear hz
    go_enter Try.func33, Try.ntmps33
    go_wp2_with (first | (go_at_call 56; refine C.mono ?_; rintro e w1 ⟨rfl, b1⟩))
    go_ret
    exact ⟨rfl, b1⟩

set_option maxRecDepth 100000 in
set_option maxHeartbeats 1000000 in
theorem GCheck_any (n : Int) (ls : List (List Int)) (v : Value) (w : World) (hv : Sls w v ls) (hls : ∀ l ∈ ls, l.length ≤ maxLen) (hlm : ls.length ≤ maxLen) :
    Calls Try.prog 34 #[.int .i64 n, v] w fun e w' => e = .returned (.int .i64 (gF n ls)) ∧ Below w.heap.size w w' := by
  obtain ⟨k, Hk⟩ : ∃ k, Hid (ls.length = k) := ⟨_, rfl⟩
  obtain ⟨a, cap, rfl, _⟩ := id hv
  have HV : Hid (Sls w (.slice a ls.length cap) ls) := hv
  have HL : Hid (∀ l ∈ ls, l.length ≤ maxLen) := hls
  unfold maxLen at hlm
  rw [Hk.out] at HV hlm ⊢
  clear hv hls
  obtain ⟨z, Hz⟩ : ∃ z : Int, Hid (gF n ls = z) := ⟨_, rfl⟩
  rw [Hz.out]
  by_cases h1 : n < 1
  · have hz : z = 1 := by rw [← Hz.out]; unfold gF; rw [if_pos (.inl h1)]
    subst hz
    have hd : decide (n < 1) = true := decide_eq_true h1
    go_enter Try.func34, Try.ntmps34
    go_wp2
    go_ret
    exact ⟨rfl, Below.refl _ _⟩
  have hd1 : decide (n < 1) = false := decide_eq_false h1
  by_cases h7 : 7 < n
  · have hz : z = 1 := by rw [← Hz.out]; unfold gF; rw [if_pos (.inr h7)]
    subst hz
    have hd : decide (7 < n) = true := decide_eq_true h7
    go_enter Try.func34, Try.ntmps34
    go_wp2
    go_ret
    exact ⟨rfl, Below.refl _ _⟩
  have hd7 : decide (7 < n) = false := decide_eq_false h7
  by_cases h4 : 4 < k
  · have hz : z = 3 := by rw [← Hz.out]; unfold gF; rw [if_neg (by omega), if_pos (by rw [Hk.out]; exact h4)]
    subst hz
    have hd : decide ((4 : Int) < (k : Int)) = true := by simp; omega
    go_enter Try.func34, Try.ntmps34
    go_wp2
    go_ret
    exact ⟨rfl, Below.refl _ _⟩
  have hd4 : decide ((4 : Int) < (k : Int)) = false := by simp; omega
  have HZ : Hid (firstE (ls.map (mF n)) = z) := by
    rw [← Hz.out]; show _ = gF n ls; unfold gF; rw [if_neg (by omega), if_neg (by rw [Hk.out]; exact h4)]
  go_enter Try.func34, Try.ntmps34
  go_wp2
  go_loopw [19] (fun i wr => ∃ j : Nat, i = .int .i64 j ∧ j ≤ k ∧ Hid (firstE ((ls.drop j).map (mF n)) = z) ∧ Below w.heap.size w wr) (fun i _ => (k - intOf i).toNat)
  case atStart => exact ⟨0, rfl, by omega, HZ, Below.refl _ _⟩
  case round =>
    obtain ⟨j, rfl, hj, HF, hB⟩ := hrel
    by_cases hlt : j < k
    · have hji : (j : Int) < k := by omega
      have hdec : decide ((j : Int) < k) = true := by simp; omega
      obtain ⟨l, hl⟩ : ∃ l, ls[j]? = some l := ⟨ls[j]'(by have := Hk.out; omega), by simp⟩
      have hll := HL.out l (List.mem_of_getElem? hl)
      obtain ⟨b, off, u, rfl, hbw, hcu, hsu⟩ := HV.out.at hl
      have hcu3 : wr.cell? ⟨b, off + j, none⟩ = some u := (hB.cell (p := ⟨b, off + j, none⟩) hbw).trans hcu
      have C := fun W (h : Below w.heap.size w W) => checkOne_any n l u W (hsu.below h) hll
      have hdr : ls.drop j = l :: ls.drop (j + 1) := by
        obtain ⟨h0, h1⟩ := List.getElem?_eq_some_iff.1 hl
        rw [← h1]; exact List.drop_eq_getElem_cons h0
      have HF2 : Hid (firstE (mF n l :: (ls.drop (j + 1)).map (mF n)) = z) := by have := HF.out; rwa [hdr] at this
      obtain ⟨e0, He⟩ : ∃ e0, Hid (mF n l = e0) := ⟨_, rfl⟩
      rw [He.out] at C HF2
      obtain ⟨ua, uc, rfl, _⟩ := hsu
      clear hcu hl hdr HF hll
      by_cases hz : e0 = 0
      · subst hz
        go_wp2_with (first | (go_at_call 57; refine (C _ hB).mono ?_; rintro e w1 ⟨rfl, b1⟩; replace b1 := Below.next hB b1))
        go_roundw
        case rel => exact ⟨j + 1, by go_num, by omega, HF2.out, b1⟩
        case measure => simp [intOf]; omega
      · have hzd : (e0 != 0) = true := by simpa using hz
        obtain rfl : e0 = z := by have := HF2.out; unfold firstE at this; rwa [if_neg hz] at this
        clear hz
        go_wp2_with (first | (go_at_call 57; refine (C _ hB).mono ?_; rintro e w1 ⟨rfl, b1⟩; replace b1 := Below.next hB b1))
        go_ret
        exact ⟨rfl, b1⟩
    · obtain rfl : j = k := by omega
      have hkd : decide ((j : Int) < (j : Int)) = false := by simp
      have hz : z = 0 := by
        have := HF.out
        rw [List.drop_of_length_le (by rw [Hk.out]; exact Nat.le_refl _)] at this
        exact this.symm
      subst hz
      go_wp2
      go_ret
      exact ⟨rfl, hB⟩

set_option maxRecDepth 100000 in
set_option maxHeartbeats 1000000 in
theorem GroupFault_any (n : Int) (ls : List (List Int)) (v : Value) (w : World) (hv : Sls w v ls) (hls : ∀ l ∈ ls, l.length ≤ maxLen) (hlm : ls.length ≤ maxLen) :
    Calls Try.prog 14 #[.int .i64 n, v] w fun e w' => e = .returned (.int .i64 (gF n ls)) ∧ Below w.heap.size w w' := by
  obtain ⟨k, Hk⟩ : ∃ k, Hid (ls.length = k) := ⟨_, rfl⟩
  obtain ⟨a, cap, rfl, _⟩ := id hv
  have HV : Hid (Sls w (.slice a ls.length cap) ls) := hv
  have HL : Hid (∀ l ∈ ls, l.length ≤ maxLen) := hls
  unfold maxLen at hlm
  rw [Hk.out] at HV hlm ⊢
  clear hv hls
  obtain ⟨z, Hz⟩ : ∃ z : Int, Hid (gF n ls = z) := ⟨_, rfl⟩
  rw [Hz.out]
  by_cases h1 : n < 1
  · have hz : z = 1 := by rw [← Hz.out]; unfold gF; rw [if_pos (.inl h1)]
    subst hz
    have hd : decide (n < 1) = true := decide_eq_true h1
    go_enter Try.func14, Try.ntmps14
    go_wp2
    go_ret
    exact ⟨rfl, Below.refl _ _⟩
  have hd1 : decide (n < 1) = false := decide_eq_false h1
  by_cases h7 : 7 < n
  · have hz : z = 1 := by rw [← Hz.out]; unfold gF; rw [if_pos (.inr h7)]
    subst hz
    have hd : decide (7 < n) = true := decide_eq_true h7
    go_enter Try.func14, Try.ntmps14
    go_wp2
    go_ret
    exact ⟨rfl, Below.refl _ _⟩
  have hd7 : decide (7 < n) = false := decide_eq_false h7
  by_cases h4 : 4 < k
  · have hz : z = 3 := by rw [← Hz.out]; unfold gF; rw [if_neg (by omega), if_pos (by rw [Hk.out]; exact h4)]
    subst hz
    have hd : decide ((4 : Int) < (k : Int)) = true := by simp; omega
    go_enter Try.func14, Try.ntmps14
    go_wp2
    go_ret
    exact ⟨rfl, Below.refl _ _⟩
  have hd4 : decide ((4 : Int) < (k : Int)) = false := by simp; omega
  have HZ : Hid (firstE (ls.map (mF n)) = z) := by
    rw [← Hz.out]; show _ = gF n ls; unfold gF; rw [if_neg (by omega), if_neg (by rw [Hk.out]; exact h4)]
  go_enter Try.func14, Try.ntmps14
  go_wp2
  go_loopw [5] (fun i wr => ∃ j : Nat, i = .int .i64 j ∧ j ≤ k ∧ Hid (firstE ((ls.drop j).map (mF n)) = z) ∧ Below w.heap.size w wr) (fun i _ => (k - intOf i).toNat)
  case atStart => exact ⟨0, rfl, by omega, HZ, Below.refl _ _⟩
  case round =>
    obtain ⟨j, rfl, hj, HF, hB⟩ := hrel
    by_cases hlt : j < k
    · have hji : (j : Int) < k := by omega
      have hdec : decide ((j : Int) < k) = true := by simp; omega
      obtain ⟨l, hl⟩ : ∃ l, ls[j]? = some l := ⟨ls[j]'(by have := Hk.out; omega), by simp⟩
      have hll := HL.out l (List.mem_of_getElem? hl)
      obtain ⟨b, off, u, rfl, hbw, hcu, hsu⟩ := HV.out.at hl
      have hcu3 : wr.cell? ⟨b, off + j, none⟩ = some u := (hB.cell (p := ⟨b, off + j, none⟩) hbw).trans hcu
      have C := fun W (h : Below w.heap.size w W) => MemberFault_any n l u W (hsu.below h) hll
      have hdr : ls.drop j = l :: ls.drop (j + 1) := by
        obtain ⟨h0, h1⟩ := List.getElem?_eq_some_iff.1 hl
        rw [← h1]; exact List.drop_eq_getElem_cons h0
      have HF2 : Hid (firstE (mF n l :: (ls.drop (j + 1)).map (mF n)) = z) := by have := HF.out; rwa [hdr] at this
      obtain ⟨e0, He⟩ : ∃ e0, Hid (mF n l = e0) := ⟨_, rfl⟩
      rw [He.out] at C HF2
      obtain ⟨ua, uc, rfl, _⟩ := hsu
      clear hcu hl hdr HF hll
      by_cases hz : e0 = 0
      · subst hz
        go_wp2_with (first | (go_at_call 33; refine (C _ hB).mono ?_; rintro e w1 ⟨rfl, b1⟩; replace b1 := Below.next hB b1))
        go_roundw
        case rel => exact ⟨j + 1, by go_num, by omega, HF2.out, b1⟩
        case measure => simp [intOf]; omega
      · have hzd : (e0 != 0) = true := by simpa using hz
        obtain rfl : e0 = z := by have := HF2.out; unfold firstE at this; rwa [if_neg hz] at this
        clear hz
        go_wp2_with (first | (go_at_call 33; refine (C _ hB).mono ?_; rintro e w1 ⟨rfl, b1⟩; replace b1 := Below.next hB b1))
        go_ret
        exact ⟨rfl, b1⟩
    · obtain rfl : j = k := by omega
      have hkd : decide ((j : Int) < (j : Int)) = false := by simp
      have hz : z = 0 := by
        have := HF.out
        rw [List.drop_of_length_le (by rw [Hk.out]; exact Nat.le_refl _)] at this
        exact this.symm
      subst hz
      go_wp2
      go_ret
      exact ⟨rfl, hB⟩

end Go.Proofs.Ytmaplmgecohjbaa
