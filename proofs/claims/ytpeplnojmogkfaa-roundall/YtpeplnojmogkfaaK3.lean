/- Check, walked. -/
import Derived.Test.YtpeplnojmogkfaaK1
import Derived.Test.YtpeplnojmogkfaaK2
namespace Go.Proofs.Ytpeplnojmogkfaa
open Go.RowKit Go.Maps

theorem getD_get {α : Type} {L : List α} {i : Nat} {d : α} (h : i < L.length) : L.getD i d = L[i] := by
  rw [List.getD_eq_getElem?_getD, List.getElem?_eq_getElem h]; rfl
theorem lkd_of {N : Nat} {ls : List (List Int)} (h2 : 2 ≤ N) (h16 : N ≤ 16) (hf : ls.length ≤ 15) (h : ∀ (j : Nat) m, ls[j]? = some m → rdF N m = 0) : ∃ L, ls = toZ L ∧ Lkd N L := by
  obtain ⟨L, hL, hP⟩ := nat_lists (P := fun s => s.length = N ∧ Rnd N fun x => s.getD x 0) (ls := ls) fun l hl => by
    obtain ⟨j, hj⟩ := List.getElem?_of_mem hl
    exact rdF_ok (h j l hj)
  refine ⟨L, hL, h2, h16, ?_, fun i hi => ?_, fun i hi => ?_⟩
  · rw [hL, List.length_map] at hf
    exact hf
  · rw [getD_get hi]
    exact (hP _ (List.getElem_mem hi)).1
  · rw [getD_get hi]
    exact (hP _ (List.getElem_mem hi)).2
theorem GoodR.lkd {N : Nat} {L : List (List Nat)} (h : GoodR N L) : Lkd N L where
  two := h.two
  le := h.le
  few := by have := h.few; have := h.le; omega
  len := fun i hi => by rw [getD_get hi]; exact h.rds.len _ (List.getElem_mem hi)
  rnd := fun i hi => by rw [getD_get hi]; exact h.rds.rnd _ (List.getElem_mem hi)
theorem tw_z {N z : Nat} {L : List (List Nat)} (_hL : Lkd N L) (h : RfZ N (toZ L) z) (ha : ∀ (j : Nat) m, (toZ L)[j]? = some m → rdF N m = 0) : (NoTw L N L.length → z = 0) ∧ (¬ NoTw L N L.length → z = 6) := by
  have get : ∀ {i : Nat} {l : List Int}, (toZ L)[i]? = some l → i < L.length ∧ l = (L.getD i []).map Int.ofNat := fun {i l} hi => by
    have hlt : i < L.length := by
      have := (List.getElem?_eq_some_iff.1 hi).1
      rwa [toZ_len] at this
    rw [toZ_at hlt] at hi
    exact ⟨hlt, (Option.some.inj hi).symm⟩
  constructor
  · intro hn
    refine h.ok ha fun i j a l m hi hj hji ha e => ?_
    obtain ⟨h1, rfl⟩ := get hi
    obtain ⟨_, rfl⟩ := get hj
    rw [nat_at, nat_at] at e
    exact hn i j a h1 hji ha (by omega)
  · intro hn
    refine Classical.byContradiction fun hz => hn fun x y a hx hy ha' e => hz ?_
    exact h.two ha x y a _ _ (toZ_at hx) (toZ_at (by omega)) hy ha' (by rw [nat_at, nat_at, e])
set_option maxRecDepth 100000 in
set_option maxHeartbeats 16000000 in
theorem Check_any : FCheck := by
  intro n ls v w hv
  obtain ⟨hv, hl, hll⟩ := hv
  obtain ⟨z, Hz⟩ : ∃ z, Hid (rF n ls = z) := ⟨_, rfl⟩
  have HV : Hid (∀ W, Below w.heap.size w W → Rw W v ls) := fun W b => hv.below b
  have HLL : Hid (∀ (i : Nat) l, ls[i]? = some l → l.length ≤ maxLen) := fun i l h => hll l (List.mem_of_getElem? h)
  obtain ⟨a, cap, rfl, -⟩ := hv
  unfold maxLen at hl
  have HAT : Hid (∀ i, i < ls.length → ∃ l, ls[i]? = some l) := fun i hi => ⟨_, List.getElem?_eq_getElem hi⟩
  have HLT : Hid (∀ (i : Nat) l, ls[i]? = some l → i < ls.length) := fun i l h => (List.getElem?_eq_some_iff.1 h).1
  have CT := fun W => isTeams_any n W
  rw [Hz.out]
  obtain ⟨m, Hm⟩ : ∃ m, Hid (ls.length = m) := ⟨_, rfl⟩
  by_cases h1 : n < 2 ∨ 16 < n ∨ n % 2 = 1
  · have HZ : Hid (z = 1) := by show _ = _; rw [← Hz.out]; exact rF_range ls h1
    rw [show (decide ¬ (n < 2 ∨ 16 < n ∨ n % 2 = 1)) = false by simp [h1]] at CT
    rw [Hm.out, HZ.out]
    clear HV HAT HLT HLL hll hl h1
    go_enter Try.func9, Try.ntmps9
    go_wp2_with (go_at_call 25; refine (CT _).mono ?_; rintro e w6 ⟨rfl, hw⟩; replace hw := hw.symm; subst hw; clear CT)
    go_ret
    exact ⟨rfl, Below.refl _ _⟩
  · rw [show (decide ¬ (n < 2 ∨ 16 < n ∨ n % 2 = 1)) = true by simp [h1]] at CT
    obtain ⟨N, rfl⟩ : ∃ N : Nat, n = N := ⟨n.toNat, by omega⟩
    have hN2 : 2 ≤ N := by omega
    have hN16 : N ≤ 16 := by omega
    by_cases h2 : N - 1 < m
    · have HZ : Hid (z = 3) := by show _ = _; rw [← Hz.out]; exact rF_full h1 (by rw [Hm.out]; exact h2)
      rw [HZ.out]
      rw [Hm.out] at hl ⊢
      have hd3 : decide ((N : Int) - 1 < (m : Int)) = true := by simp; omega
      clear HV HAT HLT HLL hll h1
      go_enter Try.func9, Try.ntmps9
      go_wp2_with (go_at_call 25; refine (CT _).mono ?_; rintro e w6 ⟨rfl, hw⟩; replace hw := hw.symm; subst hw; clear CT)
      go_ret
      exact ⟨rfl, Below.refl _ _⟩
    · have hd3 : decide ((N : Int) - 1 < (m : Int)) = false := by simp; omega
      have HZ : Hid (RfZ N ls z) := by show RfZ N ls z; rw [← Hz.out]; exact rfZ_of h1 (by rw [Hm.out]; omega)
      have hm15 : m ≤ 15 := by omega
      have HLK : Hid ((∀ (j : Nat) m, ls[j]? = some m → rdF N m = 0) → ∃ L, ls = toZ L ∧ Lkd N L) := lkd_of hN2 hN16 (by rw [Hm.out]; exact hm15)
      rw [Hm.out] at hl HAT HLT ⊢
      have HSZ : Hid (ls.length = m) := Hm.out
      clear hll h1 hl h2 Hz Hm
      go_enter Try.func9, Try.ntmps9
      go_wp2_with (go_at_call 25; refine (CT _).mono ?_; rintro e w6 ⟨rfl, hw⟩; replace hw := hw.symm; subst hw; clear CT)
      go_loopw [20] (fun iv wr => ∃ i : Nat, iv = .int .i64 (i : Int) ∧ i ≤ m ∧ Hid (∀ (j : Nat) l, j < i → ls[j]? = some l → rdF N l = 0) ∧ Below w.heap.size w wr) (fun iv _ => (m - intOf iv).toNat)
      case atStart => exact ⟨0, rfl, by omega, (show ∀ (j : Nat) l, j < 0 → _ from fun j l h => by omega), Below.refl _ _⟩
      case round =>
        obtain ⟨i, rfl, hi, HO, hB⟩ := hrel
        by_cases hlt : i < m
        · have hdi : decide ((i : Int) < (m : Int)) = true := by simp; omega
          have hii : (i : Int) < (m : Int) := by omega
          obtain ⟨l, hli⟩ := HAT.out i hlt
          obtain ⟨b, off, u, rfl, hc, hs⟩ := (HV.out wr hB).at hli rfl
          have HROW : Hid (rdF N l ≠ 0 → z = rdF N l) := fun h => HZ.out.row i l hli (fun j q hj hq => HO.out j q hj hq) h
          have HO2 : Hid (rdF N l = 0 → ∀ (j : Nat) q, j < i + 1 → ls[j]? = some q → rdF N q = 0) := fun h j q hj hq => by
            by_cases e : j = i
            · subst e; rw [hli] at hq; cases hq; exact h
            · exact HO.out j q (by omega) hq
          have hlm := HLL.out i l hli
          have CR := fun (W : World) (bW : Below wr.heap.size wr W) => checkRound_any N l u W (hs.below bW) hlm hN2 hN16
          have C := CR wr (Below.refl _ _)
          obtain ⟨r, Hr⟩ : ∃ r, Hid (rdF N l = r) := ⟨_, rfl⟩
          rw [Hr.out] at C
          obtain ⟨ua, uc, rfl⟩ := hs.dest
          by_cases hr : r = 0
          · have HO3 := HO2.out (Hr.out.trans hr)
            have HO4 : Hid (∀ (j : Nat) q, j < i + 1 → ls[j]? = some q → rdF N q = 0) := HO3
            subst hr
            clear CR HO3 HO2 HROW hlm hs hli HO
            go_wp2_with (go_at_call 26; refine C.mono ?_; rintro e w6 ⟨rfl, b6⟩; clear C)
            have hB6 := hB.trans (b6.mono hB.size)
            go_roundw
            case rel => exact ⟨i + 1, by go_num, by omega, HO4, hB6⟩
            case measure => simp [intOf]; omega
          · have HZ1 : Hid (z = r) := by
              show _ = _
              rw [← Hr.out]
              exact HROW.out (by rw [Hr.out]; exact hr)
            have hrb : ((r : Int) != 0) = true := by simp; omega
            clear CR HO2 HROW hlm hs hli HO
            go_wp2_with (go_at_call 26; refine C.mono ?_; rintro e w6 ⟨rfl, b6⟩; clear C)
            have hB6 := hB.trans (b6.mono hB.size)
            go_ret
            exact ⟨by rw [HZ1.out]; rfl, hB6⟩
        · have hdi : decide ((i : Int) < (m : Int)) = false := by simp; omega
          have hdin : decide (i < m) = false := by simp; omega
          have HA : Hid (∀ (j : Nat) l, ls[j]? = some l → rdF N l = 0) := fun j l h => HO.out j l (by have := HLT.out j l h; omega) h
          obtain ⟨L, HLe, hLk⟩ := HLK.out HA.out
          have HL : Hid ((NoTw L N L.length → z = 0) ∧ (¬ NoTw L N L.length → z = 6)) := tw_z hLk (by rw [← HLe]; exact HZ.out) (by rw [← HLe]; exact HA.out)
          have hrw := HV.out wr hB
          rw [HSZ.out, HLe] at hrw
          have C := meetings_any N L _ wr hrw hLk
          unfold MeetAns at C
          clear HO HLK HLe hLk hrw HA HLT HAT HLL HV HSZ
          go_wp2_with fail
          refine C.mono ?_
          rintro e w6 (⟨B, m', D, rfl, _, _, _, _, hN, b6⟩ | ⟨rfl, hN, b6⟩)
          · have HZ1 : Hid (z = 0) := HL.out.1 hN
            have hB6 := hB.trans (b6.mono hB.size)
            clear C HL
            go_wp2
            go_ret
            exact ⟨by rw [HZ1.out]; rfl, hB6⟩
          · have HZ1 : Hid (z = 6) := HL.out.2 hN
            have hB6 := hB.trans (b6.mono hB.size)
            clear C HL
            go_wp2
            go_ret
            exact ⟨by rw [HZ1.out]; rfl, hB6⟩
end Go.Proofs.Ytpeplnojmogkfaa
