/- The walk of the document's ExtendFault. -/
import Derived.Test.YtagpbkcnjogbgaaX7
import Derived.Test.YtagpbkcnjogbgaaL4
import Derived.OwnWalk
namespace Go.Proofs.Ytagpbkcnjogbgaa
open Go.RowKit Go.Maps

def vz (l : List Int) : List Value := l.map (Value.int .i64)
theorem vz_snoc (l : List Int) (x : Int) : vz (l ++ [x]) = vz l ++ [.int .i64 x] := by simp [vz]
theorem take_snocI {l : List Int} {c : Nat} (h : c < l.length) : l.take (c + 1) = l.take c ++ [l.getD c 0] := by
  rw [List.take_add_one]
  simp [h, List.getD_eq_getElem?_getD]
theorem flat_take {ls : List (List Int)} {j : Nat} {l : List Int} (h : ls[j]? = some l) : (ls.take (j + 1)).flatten = (ls.take j).flatten ++ l := by
  rw [List.take_add_one, h]
  simp
set_option maxHeartbeats 4000000 in
theorem ExtendFault_low (n : Int) (v : Value) (w : World) (h : n < 1) : Calls Try.prog 14 #[.int .i64 n, v] w fun e w' => e = .returned (.int .i64 1) ∧ Below w.heap.size w w' := by
  have hd : decide (n < 1) = true := decide_eq_true h
  go_enter Try.func14, Try.ntmps14
  go_wp2
  go_ret
  exact ⟨rfl, Below.refl _ _⟩
set_option maxHeartbeats 4000000 in
theorem ExtendFault_high (n : Int) (v : Value) (w : World) (h : 8 < n) : Calls Try.prog 14 #[.int .i64 n, v] w fun e w' => e = .returned (.int .i64 1) ∧ Below w.heap.size w w' := by
  have hd : decide (n < 1) = false := decide_eq_false (by omega)
  have hd2 : decide (8 < n) = true := decide_eq_true h
  go_enter Try.func14, Try.ntmps14
  go_wp2
  go_ret
  exact ⟨rfl, Below.refl _ _⟩
set_option maxHeartbeats 4000000 in
theorem ExtendFault_full (n : Nat) (ls : List (List Int)) (v : Value) (w : World) (h1 : 1 ≤ n) (h8 : n ≤ 8) (hv : Rw w v ls) (h : n < ls.length) : Calls Try.prog 14 #[.int .i64 (n : Int), v] w fun e w' => e = .returned (.int .i64 3) ∧ Below w.heap.size w w' := by
  have hd : decide ((n : Int) < 1) = false := by simp; omega
  have hd2 : decide ((8 : Int) < n) = false := by simp; omega
  obtain ⟨a, cap, rfl, _⟩ := hv
  have hd3 : decide ((n : Int) < (ls.length : Int)) = true := by simp; omega
  generalize ls.length = m at *
  have hd4 : decide (n < m) = true := decide_eq_true h
  go_enter Try.func14, Try.ntmps14
  go_wp2
  go_ret
  exact ⟨rfl, Below.refl _ _⟩
set_option maxRecDepth 100000 in
set_option maxHeartbeats 8000000 in
theorem ExtendFault_main (n : Nat) (ls : List (List Int)) (v : Value) (w : World) (h1 : 1 ≤ n) (h8 : n ≤ 8) (hv : Rw w v ls) (hll : ∀ l ∈ ls, l.length ≤ maxLen) (hle : ls.length ≤ n) : Calls Try.prog 14 #[.int .i64 (n : Int), v] w fun e w' => e = .returned (.int .i64 (eF n ls : Int)) ∧ Below w.heap.size w w' := by
  obtain ⟨i3, ti, tz0, tz1, tz2⟩ := info3
  have hd : decide ((n : Int) < 1) = false := by simp; omega
  have hd2 : decide ((8 : Int) < n) = false := by simp; omega
  have HV : Hid (Rw w v ls) := hv
  have HLL : Hid (∀ l ∈ ls, l.length ≤ maxLen) := hll
  obtain ⟨z, hz⟩ : ∃ z, z = eF n ls := ⟨_, rfl⟩
  have HZ : Hid (z = if rowsF n ls ≠ 0 then rowsF n ls else if onB n ls.flatten then 0 else 6) := by show _ = _; rw [hz, eF_on h1 h8 hle]
  rw [← hz]
  obtain ⟨a, cap, rfl, _⟩ := id hv
  obtain ⟨m, hm⟩ : ∃ m, m = ls.length := ⟨_, rfl⟩
  have HM : Hid (m = ls.length) := hm
  rw [← hm] at HV hle ⊢
  have hd3 : decide ((n : Int) < (m : Int)) = false := by simp; omega
  have hd4 : decide (n < m) = false := decide_eq_false (by omega)
  clear hv hll hz hm
  go_enter Try.func14, Try.ntmps14
  go_wp2
  go_loopw [5, 6] (fun o i_ wr => ∃ (j K : Nat), i_ = .int .i64 (j : Int) ∧ j ≤ m ∧ Hid (rowsF n (ls.drop j) = rowsF n ls) ∧ K = j * n ∧ wr.ownsRow w.heap.size 3 1 o K (vz (ls.take j).flatten) ∧ Below w.heap.size w wr) (fun _ i _ => (m - intOf i).toNat)
  case atStart => exact ⟨0, 0, rfl, by omega, (rfl : rowsF n (ls.drop 0) = rowsF n ls), by omega, World.ownsRow_nil _ _ _ _, Below.refl _ _⟩
  case round =>
    obtain ⟨j, K, rfl, hj, HJ, hK, hO, hB⟩ := hrel
    have HK : Hid (K = j * n) := hK
    clear hK
    by_cases hlt : j < m
    · have hdj : decide ((j : Int) < (m : Int)) = true := by simp; omega
      have hji : (j : Int) < m := by omega
      have hj0 : (0 : Int) ≤ (j : Int) := by omega
      obtain ⟨l, hl⟩ : ∃ l, ls[j]? = some l := ⟨ls[j]'(by rw [← HM.out]; exact hlt), by simp⟩
      have hlm := HLL.out l (List.mem_of_getElem? hl)
      have HLJ : Hid (ls[j]? = some l) := hl
      have hrd := rowsF_drop (n := n) hl
      rw [HJ.out] at hrd
      have HRW := HV.out
      obtain ⟨a', cap', e', hr⟩ := HRW
      simp only [Value.slice.injEq] at e'
      obtain ⟨rfl, -, rfl⟩ := e'
      obtain ⟨b, off, u, rfl, hcj0, hsl⟩ := hr j l hl
      obtain ⟨ua, uc, rfl, hcu⟩ := id hsl
      have hbl := block_lt_of_cell hcj0
      have hcj := (hB.cell (p := ⟨b, off + j, none⟩) hbl).trans hcj0
      have hK99 : K ≤ 99 := by
        rw [HK.out]
        exact Nat.le_trans (Nat.mul_le_mul (show j ≤ 8 by omega) h8) (by decide)
      unfold maxLen at hlm
      by_cases hln : l.length = n
      · have hne : ((n : Int) != (n : Int)) = false := by simp
        have HCU : Hid (∀ c, c < n → ∃ b off, ua = some ⟨b, off, none⟩ ∧ w.cell? ⟨b, off + c, none⟩ = some (.int .i64 (l.getD c 0))) := by rw [← hln]; exact hcu
        have HLN : Hid (l.length = n) := hln
        rw [if_neg (by simpa using hln)] at hrd
        have HRD : Hid (rowsF n ls = if inLB n l = false then 1 else rowsF n (ls.drop (j + 1))) := hrd
        rw [hln] at hcj hcj0
        have HCJ : Hid (w.cell? ⟨b, off + j, none⟩ = some (.slice ua n uc)) := hcj0
        clear hr hsl hcu hrd hln hlm hl hcj0
        go_wp2
        go_loopw [5, 7] (fun o i_ wr => ∃ (c Q : Nat), i_ = .int .i64 (c : Int) ∧ c ≤ n ∧ Hid (∀ t, t < c → 0 ≤ l.getD t 0 ∧ l.getD t 0 < n) ∧ Q = K + c ∧ wr.ownsRow w.heap.size 3 1 o Q (vz ((ls.take j).flatten ++ l.take c)) ∧ Below w.heap.size w wr) (fun _ i _ => (n - intOf i).toNat)
        case atStart => exact ⟨0, K, rfl, by omega, (fun t h => by omega : ∀ t, t < 0 → _), rfl, by rw [List.take_zero, List.append_nil]; exact hO, hB⟩
        case round =>
          clear hO hB hcj
          obtain ⟨c, Q, rfl, hc, HCc, hQ, hO, hB⟩ := hrel
          have hcj := (hB.cell (p := ⟨b, off + j, none⟩) hbl).trans HCJ.out
          have hQ9 : Q ≤ 999 := by omega
          have HQ : Hid (Q = K + c) := hQ
          clear hQ
          by_cases hcl : c < n
          · have hdc : decide ((c : Int) < (n : Int)) = true := by simp; omega
            have hci : (c : Int) < n := by omega
            have hc0 : (0 : Int) ≤ (c : Int) := by omega
            obtain ⟨b3, o3, rfl, hcc0⟩ := HCU.out c hcl
            have hcc := (hB.cell (p := ⟨b3, o3 + c, none⟩) (block_lt_of_cell hcc0)).trans hcc0
            have HTK : Hid (vz ((ls.take j).flatten ++ l.take (c + 1)) = vz ((ls.take j).flatten ++ l.take c) ++ [.int .i64 (l.getD c 0)]) := by
              show _ = _
              rw [take_snocI (by rw [HLN.out]; exact hcl), ← List.append_assoc, vz_snoc]
            obtain ⟨x, hx'⟩ : ∃ x, x = l.getD c 0 := ⟨_, rfl⟩
            rw [← hx'] at hcc HTK
            have Hx : Hid (x = l.getD c 0) := hx'
            obtain ⟨vs, Hvs⟩ : ∃ vs, Hid (vz ((ls.take j).flatten ++ l.take c) = vs) := ⟨_, rfl⟩
            rw [Hvs.out] at hO HTK
            clear hx' hcc0
            by_cases hneg : x < 0
            · have hz1 : z = 1 := by
                have h0 : inLB n l = false := inLB_no fun k => by have := (k c (by rw [HLN.out]; exact hcl)).1; rw [← Hx.out] at this; omega
                have := HRD.out
                rw [if_pos h0] at this
                rw [HZ.out, this]; rfl
              subst hz1
              have hdx : decide (x < 0) = true := decide_eq_true hneg
              clear HCc
              go_wp2
              go_ret
              exact ⟨rfl, hB⟩
            · have hdx : decide (x < 0) = false := decide_eq_false hneg
              by_cases hbig : (n : Int) ≤ x
              · have hz1 : z = 1 := by
                  have h0 : inLB n l = false := inLB_no fun k => by have := (k c (by rw [HLN.out]; exact hcl)).2; rw [← Hx.out] at this; omega
                  have := HRD.out
                  rw [if_pos h0] at this
                  rw [HZ.out, this]; rfl
                subst hz1
                have hdx2 : decide ((n : Int) ≤ x) = true := decide_eq_true hbig
                clear HCc
                go_wp2
                go_ret
                exact ⟨rfl, hB⟩
              · have hdx2 : decide ((n : Int) ≤ x) = false := decide_eq_false hbig
                have HC2 : Hid (∀ t, t < c + 1 → 0 ≤ l.getD t 0 ∧ l.getD t 0 < n) := fun t ht => by
                  by_cases e : t = c
                  · subst e; rw [← Hx.out]; omega
                  · exact HCc.out t (by omega)
                clear HCc hneg hbig
                go_wp2_with (first
                  | (at_builtin; refine wpList_append_own _ rfl _ _ 22 rfl w.heap.size 3 i3 (.int .i64 0) 1 8 und22 ti tz0 tz1 tz2 rfl (by decide) _ _ _ rfl (hO.alloc _) ⟨wr.heap.size, 0, none⟩ 1 1 [.int .i64 x] rfl rfl (news_one wr _) (fun u hu => by simp at hu; subst hu; rfl) ?c3 ?c4 ?c5 ?_)
                  | go_in)
                case c3 => unfold maxLen; omega
                case c4 => omega
                case c5 => have := hB.size; simp; omega
                intro o' w2 hO2 hg2 _
                have hB2 : Below w.heap.size w w2 := (Below.next hB (balloc wr _)).grown hg2 (by have := hB.size; simp; omega) (fun k hk => (hO.lt k hk).1)
                go_wp2
                go_roundw
                case rel => exact ⟨c + 1, Q + 1, by go_num, by omega, HC2, by have := HQ.out; omega, by rw [HTK.out]; exact hO2, hB2⟩
                case measure => simp [intOf]; omega
          · have hdc : decide ((c : Int) < (n : Int)) = false := by simp; omega
            obtain rfl : c = n := by omega
            have HJ2 : Hid (rowsF c (ls.drop (j + 1)) = rowsF c ls) := by
              have := HRD.out
              rw [if_neg (by rw [(inLB_iff _ _).2 fun t ht => HCc.out t (by rw [← HLN.out]; exact ht)]; simp)] at this
              exact this.symm
            have htl : l.take c = l := List.take_of_length_le (by rw [HLN.out]; omega)
            rw [htl, ← flat_take HLJ.out] at hO
            clear HCc HRD
            go_wp2
            go_roundw
            case rel => exact ⟨j + 1, Q, by go_num, by omega, HJ2, by rw [HQ.out, HK.out, Nat.add_mul]; omega, hO, hB⟩
            case measure => simp [intOf]; omega
      · have hz2 : z = 2 := by
          rw [if_pos (by simpa using hln)] at hrd
          rw [HZ.out, hrd]; rfl
        subst hz2
        have hne : ((l.length : Int) != (n : Int)) = true := by simp; omega
        clear hrd hr hsl hcu hln
        go_wp2
        go_ret
        exact ⟨rfl, hB⟩
    · have hdj : decide ((j : Int) < (m : Int)) = false := by simp; omega
      obtain rfl : j = m := by omega
      have hz0 : rowsF n ls = 0 := by
        rw [← HJ.out, List.drop_of_length_le (by rw [← HM.out]; omega)]; rfl
      rw [List.take_of_length_le (by rw [← HM.out]; omega)] at hO
      have hfl := flatI_len fun r hr => (rowsF_ok hz0 r hr).1
      have hS : Sl wr _ ls.flatten := Sl.owned (base := w.heap.size) (by rw [hfl, ← HM.out, ← HK.out]; exact hO)
      have C := onceD_any n ls.flatten _ wr (onB n ls.flatten) h1 h8 hS (by
        rw [hfl, ← HM.out]
        exact Nat.le_trans (Nat.mul_le_mul (show j ≤ 8 by omega) h8) (by decide)) rfl
      have hzz := HZ.out
      rw [hz0, if_neg (by simp)] at hzz
      generalize onB n ls.flatten = o at *
      cases o with
      | true =>
        have hz0' : z = 0 := hzz
        subst hz0'
        clear hzz hS hO hfl hz0 HZ HJ
        go_wp2_with (go_at_call 21; refine C.mono ?_; rintro e w3 ⟨rfl, b3⟩)
        go_ret
        exact ⟨rfl, Below.next hB b3⟩
      | false =>
        have hz0' : z = 6 := hzz
        subst hz0'
        clear hzz hS hO hfl hz0 HZ HJ
        go_wp2_with (go_at_call 21; refine C.mono ?_; rintro e w3 ⟨rfl, b3⟩)
        go_ret
        exact ⟨rfl, Below.next hB b3⟩
end Go.Proofs.Ytagpbkcnjogbgaa
