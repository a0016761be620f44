/- The walk of checkRows. -/
import Derived.Test.YtagpbkcnjogbgaaX5
import Derived.Test.YtagpbkcnjogbgaaL2
namespace Go.Proofs.Ytagpbkcnjogbgaa
open Go.RowKit Go.Maps

theorem flatI_len {n : Nat} : ∀ {ls : List (List Int)}, (∀ r ∈ ls, r.length = n) → ls.flatten.length = ls.length * n
  | [], _ => by simp
  | r :: ls, h => by
    rw [List.flatten_cons, List.length_append, flatI_len fun r hr => h r (List.mem_cons_of_mem _ hr), h r List.mem_cons_self, List.length_cons, Nat.add_mul]
    omega
theorem flatI_at {n : Nat} : ∀ {ls : List (List Int)}, (∀ r ∈ ls, r.length = n) → ∀ {i j : Nat}, i < ls.length → j < n → ls.flatten.getD (i * n + j) 0 = (ls.getD i []).getD j 0
  | [], _, i, _, h, _ => by simp at h
  | r :: ls, h, i, j, hi, hj => by
    have hr := h r List.mem_cons_self
    rw [List.flatten_cons]
    cases i with
    | zero =>
      rw [List.getD_eq_getElem?_getD, List.getElem?_append_left (by omega)]
      simp [List.getD_eq_getElem?_getD]
    | succ i =>
      rw [List.getD_eq_getElem?_getD, List.getElem?_append_right (by rw [hr, Nat.add_mul]; omega), hr, show (i + 1) * n + j - n = i * n + j from by rw [Nat.add_mul]; omega, ← List.getD_eq_getElem?_getD]
      rw [flatI_at (fun r hr => h r (List.mem_cons_of_mem _ hr)) (by simpa using hi) hj]
      simp
theorem rowsF_ok {n : Nat} : ∀ {ls : List (List Int)}, rowsF n ls = 0 → ∀ l ∈ ls, l.length = n ∧ ∀ c, c < n → 0 ≤ l.getD c 0 ∧ l.getD c 0 < n
  | [], _, l, hl => by simp at hl
  | r :: ls, h, l, hl => by
    unfold rowsF at h
    split at h
    · cases h
    · rename_i h1
      split at h
      · cases h
      · rename_i h2
        have h1 : r.length = n := by simpa using h1
        have h2 : inLB n r = true := by simpa using h2
        rw [inLB_iff] at h2
        rcases List.mem_cons.1 hl with rfl | hl
        · exact ⟨h1, fun c hc => h2 c (by omega)⟩
        · exact rowsF_ok h l hl
theorem rowsF_drop {n j : Nat} {ls : List (List Int)} {l : List Int} (hj : ls[j]? = some l) : rowsF n (ls.drop j) = if l.length ≠ n then 2 else if inLB n l = false then 1 else rowsF n (ls.drop (j + 1)) := by
  have hlt := (List.getElem?_eq_some_iff.1 hj).1
  have he := (List.getElem?_eq_some_iff.1 hj).2
  rw [List.drop_eq_getElem_cons hlt, he]
  rfl
theorem eF_on {n : Nat} {ls : List (List Int)} (h1 : 1 ≤ n) (h8 : n ≤ 8) (hl : ls.length ≤ n) : eF n ls = if rowsF n ls ≠ 0 then rowsF n ls else if onB n ls.flatten then 0 else 6 := by
  unfold eF
  have hn : ((n : Int)).toNat = n := by omega
  rw [if_neg (by omega), if_neg (by omega), hn]

set_option maxHeartbeats 4000000 in
theorem checkRows_far (n : Int) (ls : List (List Int)) (v : Value) (w : World) (hv : Rw w v ls) (h : n < 1 ∨ 8 < n) : Calls Try.prog 28 #[.int .i64 n, v] w fun e w' => e = .returned (.int .i64 1) ∧ Below w.heap.size w w' := by
  obtain ⟨va, vc, rfl, _⟩ := hv
  generalize ls.length = m at *
  have C := fun W => isSide_any n W
  have hs : sideB n = false := by unfold sideB; rcases h with h | h <;> simp <;> omega
  rw [hs] at C
  clear hs h
  go_enter Try.func28, Try.ntmps28
  go_wp2_with (go_at_call 32; refine (C _).mono ?_; rintro e w1 ⟨rfl, rfl⟩)
  go_ret
  exact ⟨rfl, balloc w _⟩
set_option maxHeartbeats 4000000 in
theorem checkRows_full (n : Nat) (ls : List (List Int)) (v : Value) (w : World) (h1 : 1 ≤ n) (h8 : n ≤ 8) (hv : Rw w v ls) (h : n < ls.length) : Calls Try.prog 28 #[.int .i64 (n : Int), v] w fun e w' => e = .returned (.int .i64 3) ∧ Below w.heap.size w w' := by
  have C := fun W => isSide_any n W
  have hs : sideB n = true := by unfold sideB; simp; omega
  rw [hs] at C
  obtain ⟨a, cap, rfl, _⟩ := hv
  have hd : decide ((n : Int) < (ls.length : Int)) = true := by simp; omega
  generalize ls.length = m at *
  have hd' : decide (n < m) = true := decide_eq_true h
  clear hs
  go_enter Try.func28, Try.ntmps28
  go_wp2_with (go_at_call 32; refine (C _).mono ?_; rintro e w1 ⟨rfl, rfl⟩)
  go_ret
  exact ⟨rfl, balloc w _⟩
set_option maxRecDepth 100000 in
set_option maxHeartbeats 8000000 in
theorem checkRows_main (n : Nat) (ls : List (List Int)) (v : Value) (w : World) (h1 : 1 ≤ n) (h8 : n ≤ 8) (hv : Rw w v ls) (hll : ∀ l ∈ ls, l.length ≤ maxLen) (hle : ls.length ≤ n) : Calls Try.prog 28 #[.int .i64 (n : Int), v] w fun e w' => e = .returned (.int .i64 (eF n ls : Int)) ∧ Below w.heap.size w w' := by
  have C := fun W => isSide_any n W
  have hs : sideB n = true := by unfold sideB; simp; omega
  rw [hs] at C
  have HV : Hid (Rw w v ls) := hv
  have HLL : Hid (∀ l ∈ ls, l.length ≤ maxLen) := hll
  obtain ⟨z, hz⟩ : ∃ z, z = eF n ls := ⟨_, rfl⟩
  have HZ : Hid (z = if rowsF n ls ≠ 0 then rowsF n ls else if onB n ls.flatten then 0 else 6) := by show _ = _; rw [hz, eF_on h1 h8 hle]
  rw [← hz]
  obtain ⟨a, cap, rfl, _⟩ := id hv
  obtain ⟨m, hm⟩ : ∃ m, m = ls.length := ⟨_, rfl⟩
  have HM : Hid (m = ls.length) := hm
  rw [← hm] at HV hle ⊢
  have hd : decide ((n : Int) < (m : Int)) = false := by simp; omega
  have hd' : decide (n < m) = false := decide_eq_false (by omega)
  have b0 := balloc w (.cells #[.slice a m cap] 34)
  have hx0 : (w.alloc (.cells #[.slice a m cap] 34)).heap[w.heap.size]? = some (.cells #[.slice a m cap] 34 (0, 0)) := heap_alloc_new w _
  clear hs hv hll hz hm
  go_enter Try.func28, Try.ntmps28
  go_wp2_with (go_at_call 32; refine (C _).mono ?_; rintro e w1 ⟨rfl, rfl⟩)
  clear C
  go_loopw [18] (fun i_ wr => ∃ j : Nat, i_ = .int .i64 (j : Int) ∧ j ≤ m ∧ Hid (rowsF n (ls.drop j) = rowsF n ls) ∧ wr.heap[w.heap.size]? = some (.cells #[.slice a m cap] 34 (0, 0)) ∧ Below w.heap.size w wr) (fun i _ => (m - intOf i).toNat)
  case atStart => exact ⟨0, rfl, by omega, (rfl : rowsF n (ls.drop 0) = rowsF n ls), hx0, b0⟩
  case round =>
    clear hx0 b0
    obtain ⟨j, rfl, hj, HJ, hx0, hB⟩ := hrel
    have hx : wr.cell? ⟨w.heap.size, 0, none⟩ = some (.slice a m cap) := by rw [cell_of_row _ _ _ _ _ _ hx0]; rfl
    by_cases hlt : j < m
    · have hdj : decide ((j : Int) < (m : Int)) = true := by simp; omega
      have hji : (j : Int) < m := by omega
      have hj0 : (0 : Int) ≤ (j : Int) := by omega
      obtain ⟨l, hl⟩ : ∃ l, ls[j]? = some l := ⟨ls[j]'(by rw [← HM.out]; exact hlt), by simp⟩
      have hlm := HLL.out l (List.mem_of_getElem? hl)
      have hrd := rowsF_drop (n := n) hl
      rw [HJ.out] at hrd
      obtain ⟨a', cap', e', hr⟩ := HV.out.below hB
      simp only [Value.slice.injEq] at e'
      obtain ⟨rfl, -, rfl⟩ := e'
      obtain ⟨b, off, u, rfl, hcj, hsl⟩ := hr j l hl
      obtain ⟨ua, uc, rfl, hcu⟩ := id hsl
      unfold maxLen at hlm
      by_cases hln : l.length = n
      · have hne : ((n : Int) != (n : Int)) = false := by simp
        have HCU : Hid (∀ c, c < n → ∃ b off, ua = some ⟨b, off, none⟩ ∧ wr.cell? ⟨b, off + c, none⟩ = some (.int .i64 (l.getD c 0))) := by rw [← hln]; exact hcu
        have HLN : Hid (l.length = n) := hln
        rw [if_neg (by simpa using hln)] at hrd
        have HRD : Hid (rowsF n ls = if inLB n l = false then 1 else rowsF n (ls.drop (j + 1))) := hrd
        rw [hln] at hcj
        clear hr hsl hcu hrd hln hlm hl
        go_wp2
        go_loopw [28] (fun i_ wr' => ∃ c : Nat, i_ = .int .i64 (c : Int) ∧ c ≤ n ∧ Hid (∀ t, t < c → 0 ≤ l.getD t 0 ∧ l.getD t 0 < n) ∧ wr' = wr) (fun i _ => (n - intOf i).toNat)
        case atStart => exact ⟨0, rfl, by omega, (fun t h => by omega : ∀ t, t < 0 → _), rfl⟩
        case round =>
          obtain ⟨c, rfl, hc, HCc, hw⟩ := hrel
          replace hw := hw.symm
          subst hw
          by_cases hcl : c < n
          · have hdc : decide ((c : Int) < (n : Int)) = true := by simp; omega
            have hci : (c : Int) < n := by omega
            have hc0 : (0 : Int) ≤ (c : Int) := by omega
            obtain ⟨b3, o3, rfl, hcc⟩ := HCU.out c hcl
            obtain ⟨x, hx'⟩ : ∃ x, x = l.getD c 0 := ⟨_, rfl⟩
            rw [← hx'] at hcc
            have C2 := fun W => isOf_any n x W
            by_cases hin : 0 ≤ x ∧ x < n
            · have ho : ofB n x = true := by unfold ofB; simp; omega
              have HC2 : Hid (∀ t, t < c + 1 → 0 ≤ l.getD t 0 ∧ l.getD t 0 < n) := fun t ht => by
                by_cases e : t = c
                · subst e; rw [← hx']; exact hin
                · exact HCc.out t (by omega)
              rw [ho] at C2
              clear hin HCc hx'
              go_wp2_with (go_at_call 33; refine (C2 _).mono ?_; rintro e w3 ⟨rfl, rfl⟩)
              go_roundw
              case rel => exact ⟨c + 1, by go_num, by omega, HC2, trivial⟩
              case measure => simp [intOf]; omega
            · have ho : ofB n x = false := by unfold ofB; simp; omega
              have hz1 : z = 1 := by
                have h0 : inLB n l = false := inLB_no fun k => hin (by rw [hx']; exact k c (by rw [HLN.out]; exact hcl))
                have := HRD.out
                rw [if_pos h0] at this
                rw [HZ.out, this]; rfl
              subst hz1
              rw [ho] at C2
              clear hin HCc hx'
              go_wp2_with (go_at_call 33; refine (C2 _).mono ?_; rintro e w3 ⟨rfl, rfl⟩)
              go_ret
              exact ⟨rfl, hB⟩
          · have hdc : decide ((c : Int) < (n : Int)) = false := by simp; omega
            obtain rfl : c = n := by omega
            have HJ2 : Hid (rowsF c (ls.drop (j + 1)) = rowsF c ls) := by
              have := HRD.out
              rw [if_neg (by rw [(inLB_iff _ _).2 fun t ht => HCc.out t (by rw [← HLN.out]; exact ht)]; simp)] at this
              exact this.symm
            clear HCc HRD
            go_wp2
            go_roundw
            case rel => exact ⟨j + 1, by go_num, by omega, HJ2, hx0, hB⟩
            case measure => simp [intOf]; omega
      · have hz2 : z = 2 := by
          rw [if_pos (by simpa using hln)] at hrd
          rw [HZ.out, hrd]; rfl
        subst hz2
        have hne : ((l.length : Int) != (n : Int)) = true := by simp; omega
        clear hrd hr hsl hcu hln
        go_wp2
        go_ret
        exact ⟨rfl, hB⟩
    · have hdj : decide ((j : Int) < (m : Int)) = false := by simp; omega
      obtain rfl : j = m := by omega
      have hz0 : rowsF n ls = 0 := by
        rw [← HJ.out, List.drop_of_length_le (by rw [← HM.out]; omega)]; rfl
      have hok := rowsF_ok hz0
      have hfl := flatI_len fun r hr => (hok r hr).1
      have hat : ∀ {i c : Nat}, i < ls.length → c < n → ls.flatten.getD (i * n + c) 0 = (ls.getD i []).getD c 0 := fun hi hc => flatI_at (fun r hr => (hok r hr).1) hi hc
      have hgd : ∀ r, r < ls.length → ls.getD r [] ∈ ls ∧ ls[r]? = some (ls.getD r []) := fun r hr => by
        have : ls.getD r [] = ls[r] := by simp [List.getD_eq_getElem?_getD, hr]
        rw [this]; exact ⟨List.getElem_mem hr, List.getElem?_eq_getElem hr⟩
      have hcell : ∀ r c, r < j → c < n → 0 ≤ (ls.getD r []).getD c 0 ∧ (ls.getD r []).getD c 0 < n := fun r c hr hc => (hok _ (hgd r (by rw [← HM.out]; exact hr)).1).2 c hc
      have hon : onB n ls.flatten = true ↔ Ap j n (sq n ls.flatten) := onB_ap (by rw [hfl, ← HM.out]) (fun p hp => by
        have hn0 : 0 < n := by omega
        have e : p / n * n + p % n = p := Nat.div_add_mod' p n
        have hpr : p / n < ls.length := Nat.div_lt_of_lt_mul (by rw [Nat.mul_comm]; omega)
        have := hat hpr (Nat.mod_lt p hn0)
        rw [e] at this
        rw [this]
        exact (hcell _ _ (by rw [HM.out]; exact hpr) (Nat.mod_lt p hn0)).1)
      have hsq : ∀ r c, r < j → c < n → sq n ls.flatten r c = ((ls.getD r []).getD c 0).toNat := fun r c hr hc => by unfold sq; rw [hat (by rw [← HM.out]; exact hr) hc]
      have D := apart_any j n (sq n ls.flatten) (.func (.func 37) #[] #[.pointer (some ⟨w.heap.size, 0, none⟩)]) wr (onB n ls.flatten) (by omega) h8 (fun r c hr hc => by rw [hsq r c hr hc]; have := hcell r c hr hc; omega) ⟨_, _, rfl, e37, fun W bW r c hr hc => by
        rw [hsq r c hr hc]
        have hr' : r < ls.length := by rw [← HM.out]; exact hr
        have k1 := (bW.block w.heap.size (Array.getElem?_eq_some_iff.1 hx0).1).trans hx0
        exact checkRows1_any n w.heap.size r c ls _ (.slice a j cap) W ((HV.out.below hB).below bW) (by rw [← HM.out]; omega) (hgd r hr').2 (hok _ (hgd r hr').1).1 hc h8 (hcell r c hr hc).1 (by rw [cell_of_row _ _ _ _ _ _ k1]; rfl)⟩ hon
      have hzz := HZ.out
      rw [hz0, if_neg (by simp)] at hzz
      generalize onB n ls.flatten = o at *
      cases o with
      | true =>
        have hz0' : z = 0 := hzz
        subst hz0'
        clear hzz hon hsq hcell hgd hat hfl hok hz0 HZ HJ
        go_wp2_with (go_at_call 34; refine D.mono ?_; rintro e w3 ⟨rfl, b3⟩)
        go_ret
        exact ⟨rfl, Below.next hB b3⟩
      | false =>
        have hz0' : z = 6 := hzz
        subst hz0'
        clear hzz hon hsq hcell hgd hat hfl hok hz0 HZ HJ
        go_wp2_with (go_at_call 34; refine D.mono ?_; rintro e w3 ⟨rfl, b3⟩)
        go_ret
        exact ⟨rfl, Below.next hB b3⟩
end Go.Proofs.Ytagpbkcnjogbgaa
