/- The walk of PermOfText. -/
import Derived.Test.YteocfkkdjejgdaaDoorPTx
import Derived.Test.YteocfkkdjejgdaaDoorPRd
import Derived.Test.YteocfkkdjejgdaaDoorP7
import Derived.BigRegion
namespace Go.Proofs.YteocfkkdjejgdaaDoor
open Go.RowKit

theorem PermOfText_n (n : Int) (T : ByteArray) (w : World) (h : n < 0 ∨ 12 < n) :
    Calls Tryd.prog 9 #[.string T, .int .i64 n] w fun e w' => e = .returned (.tuple #[.slice none 0 0, .int .i64 1]) ∧ Below w.heap.size w w' := by
  by_cases h1 : n < 0
  · have hd : decide (n < 0) = true := by simpa using h1
    go_enter Tryd.func9, Tryd.ntmps9
    go_wp2
    exact bodyPost_ret (v := .tuple #[.slice none 0 0, .int .i64 1]) (by simp [results, Tryd.results9, go_sem]) rfl ⟨rfl, Below.refl _ _⟩
  · have hd : decide (n < 0) = false := by simpa using h1
    have hd2 : decide (12 < n) = true := by simp; omega
    clear h
    go_enter Tryd.func9, Tryd.ntmps9
    go_wp2
    exact bodyPost_ret (v := .tuple #[.slice none 0 0, .int .i64 1]) (by simp [results, Tryd.results9, go_sem]) rfl ⟨rfl, Below.refl _ _⟩

/-- A row of numbers from a block's beginning on, if there are any. -/
def OI (w : World) (oa : Option Addr) (n B0 B1 : Nat) (h : Nat → Nat) : Prop := n = 0 ∨ ∃ g, oa = some ⟨g, 0, none⟩ ∧ B0 ≤ g ∧ g < B1 ∧ Own w g n (fun t => (h t : Int))
theorem OI.below {w w' : World} {oa : Option Addr} {n B0 B1 : Nat} {h : Nat → Nat} (k : OI w oa n B0 B1 h) (hb : Below B1 w w') : OI w' oa n B0 B1 h := by
  rcases k with k | ⟨g, h1, h2, h3, h4⟩
  · exact .inl k
  · obtain ⟨cur, c1, c2⟩ := h4
    exact .inr ⟨g, h1, h2, h3, cur, (hb.block g h3).trans c1, c2⟩
theorem OI.sl {w : World} {oa : Option Addr} {n B0 B1 oc : Nat} {h : Nat → Nat} (k : OI w oa n B0 B1 h) {f : Nat → Nat} (e : ∀ t, t < n → h t = f t) : Sl w (.slice oa n oc) (pl n f) := by
  rcases k with rfl | ⟨g, rfl, _, _, h4⟩
  · exact ⟨oa, oc, rfl, fun j hj => by simp at hj⟩
  · exact h4.pl oc (fun j hj => by rw [e j hj])
theorem OI.of {w : World} {base n : Nat} {v : Value} (h : w.ownsRow base 3 1 v n ((pl n fun x => x).map (Value.int .i64))) : ∃ oa oc, v = .slice oa n oc ∧ OI w oa n base w.heap.size id := by
  by_cases h0 : n = 0
  · obtain ⟨_, ⟨rfl, rfl⟩ | ⟨g, cap, cur, rfl, _⟩⟩ := h
    · exact ⟨none, 0, rfl, .inl rfl⟩
    · exact ⟨_, cap, rfl, .inl h0⟩
  · obtain ⟨g, cap, rfl, hg, hO⟩ := Own.of h (by omega)
    exact ⟨_, cap, rfl, .inr ⟨g, rfl, hg, hO.lt, hO.congr fun t ht => by rw [pl_at _ ht]; rfl⟩⟩
theorem drop_cons {T : List UInt8} {p : Nat} (h : p < T.length) : T.drop p = T.getD p 0 :: T.drop (p + 1) := by
  rw [List.drop_eq_getElem_cons h]; simp [List.getD_eq_getElem?_getD, h]

theorem byte_at {T : List UInt8} {p : Nat} {b : UInt8} (h : T.getD p 0 = b) (hp : p < T.length) : ∀ h' : p < (⟨T.toArray⟩ : ByteArray).size, ((⟨T.toArray⟩ : ByteArray)[p]'h').toNat = b.toNat := by
  intro h'
  have e : (⟨T.toArray⟩ : ByteArray)[p]'h' = T[p] := rfl
  rw [e, ← h]
  simp [List.getD_eq_getElem?_getD, hp]
theorem u8_eq (b : UInt8) (k : Nat) (hk : k < 256) : b = UInt8.ofNat k ↔ b.toNat = k := by
  constructor
  · intro h; rw [h]; simp [Nat.mod_eq_of_lt hk]
  · intro h; apply UInt8.toNat_inj.1; rw [h]; simp [Nat.mod_eq_of_lt hk]

theorem inn_nil {n k x : Nat} {S : List UInt8} {c : List Nat} (h : digs 3 S 0 = (x, [])) : inn n (k + 1) S c = none := by rw [inn, h]
theorem inn_bad {n k x : Nat} {b : UInt8} {S S' : List UInt8} {c : List Nat} (h : digs 3 S 0 = (x, b :: S')) (h2 : (b :: S').length = S.length ∨ n ≤ x) : inn n (k + 1) S c = none := by
  rw [inn, h]
  show (if _ ∨ n ≤ x then _ else _) = _
  rw [if_pos h2]
theorem inn_end {n k x : Nat} {S S' : List UInt8} {c : List Nat} (h : digs 3 S 0 = (x, 41 :: S')) (h2 : ¬ ((41 :: S').length = S.length ∨ n ≤ x)) : inn n (k + 1) S c = some (c ++ [x], S') := by
  rw [inn, h]
  show (if _ ∨ n ≤ x then _ else _) = _
  rw [if_neg h2]; rfl
theorem inn_go {n k x : Nat} {S S' : List UInt8} {c : List Nat} (h : digs 3 S 0 = (x, 32 :: S')) (h2 : ¬ ((32 :: S').length = S.length ∨ n ≤ x)) : inn n (k + 1) S c = inn n k S' (c ++ [x]) := by
  rw [inn, h]
  show (if _ ∨ n ≤ x then _ else _) = _
  rw [if_neg h2]; rfl
theorem inn_no {n k x : Nat} {b : UInt8} {S S' : List UInt8} {c : List Nat} (h : digs 3 S 0 = (x, b :: S')) (h2 : ¬ ((b :: S').length = S.length ∨ n ≤ x)) (h3 : b ≠ 41) (h4 : b ≠ 32) : inn n (k + 1) S c = none := by
  rw [inn, h]
  show (if _ ∨ n ≤ x then _ else _) = _
  rw [if_neg h2, if_neg h3, if_neg h4]
/-- Digits, one more or no more. -/
theorem digs_go {m x : Nat} {b : UInt8} {S : List UInt8} {nb : Nat} (hb : b.toNat = nb) (h1 : 48 ≤ nb) (h2 : nb ≤ 57) : digs (m + 1) (b :: S) x = digs m S (x * 10 + (nb - 48)) := by
  rw [digs, hb, if_pos ⟨h1, h2⟩]
theorem digs_stop {m x : Nat} {b : UInt8} {S : List UInt8} {nb : Nat} (hb : b.toNat = nb) (h : ¬ (48 ≤ nb ∧ nb ≤ 57)) : digs m (b :: S) x = (x, b :: S) := by
  cases m with
  | zero => rfl
  | succ m => rw [digs, hb, if_neg h]
theorem digs_nil (m x : Nat) : digs m [] x = (x, []) := by cases m <;> rfl
/-- How great a number of so many digits is. -/
def XB (m x : Nat) : Prop := (m = 3 ∧ x = 0) ∨ (m = 2 ∧ x ≤ 9) ∨ (m = 1 ∧ x ≤ 99) ∨ (m = 0 ∧ x ≤ 999)
theorem XB.le {m x : Nat} (h : XB m x) : x ≤ 999 ∧ m ≤ 3 := by unfold XB at h; omega
theorem XB.more {m x d : Nat} (h : XB (m + 1) x) (hd : d ≤ 9) : XB m (x * 10 + d) := by unfold XB at h ⊢; omega

set_option maxRecDepth 100000 in
set_option maxHeartbeats 8000000 in
theorem PermOfText_any (n : Nat) (T : List UInt8) (hn : n ≤ 12) (hT : T.length ≤ 2000000) (w : World) :
    Calls Tryd.prog 9 #[.string ⟨T.toArray⟩, .int .i64 (n : Int)] w fun e w' => ParseIs n T e w' ∧ Below w.heap.size w w' := by
  obtain ⟨i3, hi, hz0, hz1, hz2⟩ := info3
  have C0 := Still_any n w hn
  have hTs : (⟨T.toArray⟩ : ByteArray).size = T.length := by show T.toArray.size = _; simp
  obtain ⟨tl, Htl⟩ : ∃ tl, Hid (T.length = tl) := ⟨_, rfl⟩
  rw [Htl.out] at hTs hT
  have hTi : (((⟨T.toArray⟩ : ByteArray).size : Nat) : Int) = (tl : Int) := by rw [hTs]
  have hd0 : decide ((n : Int) < 0) = false := decide_eq_false (by omega)
  have hd1 : decide (12 < (n : Int)) = false := decide_eq_false (by omega)
  obtain ⟨Z, HZ⟩ : ∃ Z, Hid ((if T = [40, 41] then some id else outV n T.length T id) = Z) := ⟨_, rfl⟩
  have HF : Hid (∀ f, Pm n f → permT n f = T → ∃ h, Z = some h ∧ ∀ x, x < n → h x = f x) := fun f P e => by
    obtain ⟨h, h1, h2⟩ := doc_permT P hn
    rw [e, HZ.out] at h1
    exact ⟨h, h1, h2⟩
  have HNo : Hid (Z = none → ∀ f, Pm n f → permT n f ≠ T) := fun hz f P e => by
    obtain ⟨h, h1, _⟩ := HF.out f P e
    rw [hz] at h1; cases h1
  have PF := fun l v A h1 h2 => PermFault_any l v A h1 h2
  have PT := fun f v A h1 h2 => PermText_any n f v A hn h1 h2
  go_enter Tryd.func9, Tryd.ntmps9
  go_wp2_with (first
    | (go_at_call 18; refine C0.mono ?_; rintro e w1 ⟨x, rfl, hrow, hb1⟩; obtain ⟨oa, oc, rfl, hoi⟩ := OI.of hrow; clear hrow))
  clear C0
  obtain ⟨B1, HB1⟩ : ∃ B1, Hid (w1.heap.size = B1) := ⟨_, rfl⟩
  have hs1 := hb1.size
  rw [HB1.out] at hoi hs1
  go_loopw [7] (fun av wr => ∃ (p : Nat) (h : Nat → Nat), av = .int .i64 p ∧ p ≤ tl ∧ OI wr oa n w.heap.size B1 h ∧ Hid (∀ t, t < n → h t < n) ∧ Hid (if T = [40, 41] then Z = some h else ∃ k, (T.drop p).length ≤ k ∧ outV n k (T.drop p) h = Z) ∧ B1 ≤ wr.heap.size ∧ Below w.heap.size w wr) (fun av _ => (tl - intOf av).toNat)
  case atStart =>
    refine ⟨0, id, rfl, by omega, hoi, (fun t ht => ht : ∀ t, t < n → t < n), ?_, by rw [HB1.out]; exact Nat.le_refl _, hb1⟩
    show if T = [40, 41] then Z = some id else _
    have := HZ.out
    split
    · rename_i e; rw [if_pos e] at this; exact this.symm
    · rename_i e; rw [if_neg e] at this
      exact ⟨T.length, by rw [List.drop_zero]; exact Nat.le_refl _, by rw [List.drop_zero]; exact this⟩
  case round =>
    clear hoi hb1
    obtain ⟨p, h, rfl, hp, hoi, HR, HK, hs, hB⟩ := hrel
    by_cases hgo : p < tl ∧ T ≠ [40, 41]
    · obtain ⟨hpt, hTT⟩ := hgo
      have hpi : (p : Int) < tl := by omega
      have hpd : decide ((p : Int) < tl) = true := decide_eq_true hpi
      have hTb : (T == [40, 41]) = false := by simpa using hTT
      have HK2 := HK.out
      rw [if_neg hTT] at HK2
      obtain ⟨k, hk1, hk2⟩ := HK2
      have hpT : p < T.length := by rw [Htl.out]; exact hpt
      rw [drop_cons hpT] at hk1 hk2
      obtain ⟨b, Hb⟩ : ∃ b, Hid (T.getD p 0 = b) := ⟨_, rfl⟩
      rw [Hb.out] at hk1 hk2
      have hix := byte_at Hb.out hpT
      obtain ⟨nb, Hnb⟩ : ∃ nb, Hid (b.toNat = nb) := ⟨_, rfl⟩
      rw [Hnb.out] at hix
      obtain ⟨k', rfl⟩ : ∃ k', k = k' + 1 := ⟨k - 1, by rw [List.length_cons] at hk1; omega⟩
      rw [outV] at hk2
      clear HK
      by_cases hb40 : nb = 40
      · have hbd : ((nb : Int) != 40) = false := by simp; omega
        rw [if_neg (by rw [ne_eq, Classical.not_not]; exact (u8_eq b 40 (by omega)).2 (by rw [Hnb.out, hb40]))] at hk2
        rw [List.length_cons] at hk1
        have HKK : Hid ((T.drop (p + 1)).length ≤ k') := by show (T.drop (p + 1)).length ≤ k'; omega
        obtain ⟨Y, HY⟩ : ∃ Y, Hid (inn n ((T.drop (p + 1)).length + 1) (T.drop (p + 1)) [] = Y) := ⟨_, rfl⟩
        rw [HY.out] at hk2
        have HZn : Hid (Y = none → Z = none) := fun e => by rw [e] at hk2; exact hk2.symm
        have HZs : Hid (∀ c S', Y = some (c, S') → outV n k' S' (setC c h) = Z) := fun c S' e => by rw [e] at hk2; exact hk2
        have hpi1 : (p : Int) + 1 ≤ tl := by omega
        clear hk1 hk2 hTT hpT
        go_wp2
        go_loopw [7, 8] (fun av cv wr => ∃ (p' : Nat) (c : List Nat), av = .int .i64 p' ∧ p' ≤ tl ∧ p < p' ∧ c.length ≤ p' ∧ wr.ownsRow B1 3 1 cv c.length (vl c) ∧ Hid (∀ x ∈ c, x < n) ∧ Hid (∃ k, (T.drop p').length < k ∧ inn n k (T.drop p') c = Y) ∧ OI wr oa n w.heap.size B1 h ∧ B1 ≤ wr.heap.size ∧ Below w.heap.size w wr) (fun av _ _ => (tl - intOf av).toNat)
        case atStart => exact ⟨p + 1, [], rfl, by omega, by omega, by simp, World.ownsRow_nil _ _ _ _, (fun x hx => (by cases hx) : ∀ x ∈ ([] : List Nat), x < n), ⟨_, Nat.lt_succ_self _, HY.out⟩, hoi, hs, hB⟩
        case round =>
          clear hoi hs hB hix
          obtain ⟨p', c, rfl, hp', hpp, hcl, hown, HC, HI, hoi, hs, hB⟩ := hrel
          obtain ⟨k, hk1, hk2⟩ := HI.out
          obtain ⟨k2, rfl⟩ : ∃ k2, k = k2 + 1 := ⟨k - 1, by omega⟩
          have HK1 : Hid ((T.drop p').length < k2 + 1) := hk1
          have HK2 : Hid (inn n (k2 + 1) (T.drop p') c = Y) := hk2
          clear hk1 hk2 HI
          obtain ⟨D, HD⟩ : ∃ D, Hid (digs 3 (T.drop p') 0 = D) := ⟨_, rfl⟩
          go_wp2
          go_loopw [7, 9] (fun av xv wr' => ∃ (q x m : Nat), av = .int .i64 q ∧ xv = .int .i64 x ∧ p' ≤ q ∧ q ≤ tl ∧ q + m = p' + 3 ∧ Hid (XB m x) ∧ Hid (digs m (T.drop q) x = D) ∧ wr' = wr) (fun av _ _ => (tl - intOf av).toNat)
          case atStart => exact ⟨p', 0, 3, rfl, rfl, by omega, hp', by omega, (.inl ⟨rfl, rfl⟩ : XB 3 0), HD, rfl⟩
          case round =>
            obtain ⟨q, x, m, rfl, rfl, hpq, hq, hm, HX, HDq, hwr⟩ := hrel
            subst hwr
            have hx9 := HX.out.le.1
            have hm3 := HX.out.le.2
            by_cases hgo2 : q < tl ∧ (48 ≤ (T.getD q 0).toNat ∧ (T.getD q 0).toNat ≤ 57) ∧ 0 < m
            · obtain ⟨hqt, ⟨h48, h57⟩, hm0⟩ := hgo2
              have hqi : (q : Int) < tl := by omega
              have hqd : decide ((q : Int) < tl) = true := decide_eq_true hqi
              have hqT : q < T.length := by rw [Htl.out]; exact hqt
              obtain ⟨b2, Hb2⟩ : ∃ b, Hid (T.getD q 0 = b) := ⟨_, rfl⟩
              have hix2 := byte_at Hb2.out hqT
              rw [Hb2.out] at h48 h57
              obtain ⟨nb2, Hnb2⟩ : ∃ nb, Hid (b2.toNat = nb) := ⟨_, rfl⟩
              rw [Hnb2.out] at hix2 h48 h57
              obtain ⟨m', rfl⟩ : ∃ m', m = m' + 1 := ⟨m - 1, by omega⟩
              have h48d : decide ((48 : Int) ≤ (nb2 : Int)) = true := decide_eq_true (by omega)
              have h57d : decide ((nb2 : Int) ≤ (57 : Int)) = true := decide_eq_true (by omega)
              have hmd : decide ((q : Int) < (p' : Int) + 3) = true := decide_eq_true (by omega)
              obtain ⟨d, Hd⟩ : ∃ d, Hid (nb2 - 48 = d) := ⟨_, rfl⟩
              have hd9 : d ≤ 9 := by rw [← Hd.out]; omega
              have hdi : (nb2 : Int) - 48 = (d : Int) := by rw [← Hd.out]; omega
              have HX2 : Hid (XB m' (x * 10 + d)) := HX.out.more hd9
              have HD2 : Hid (digs m' (T.drop (q + 1)) (x * 10 + d) = D) := by
                show digs m' (T.drop (q + 1)) (x * 10 + d) = D
                rw [← HDq.out, drop_cons hqT, Hb2.out, digs_go Hnb2.out h48 h57, Hd.out]
              clear hqT HDq HX
              go_wp2
              go_roundw
              case rel => exact ⟨q + 1, x * 10 + d, m', by go_num, by go_num, by omega, by omega, by omega, HX2, HD2, trivial⟩
              case measure => simp [intOf]; omega
            · have HDx : Hid (D = (x, T.drop q)) := by
                show D = (x, T.drop q)
                rw [← HDq.out]
                by_cases hqt : q < tl
                · have hqT : q < T.length := by rw [Htl.out]; exact hqt
                  rw [drop_cons hqT]
                  by_cases hdg : 48 ≤ (T.getD q 0).toNat ∧ (T.getD q 0).toNat ≤ 57
                  · have hm0 : m = 0 := Nat.eq_zero_of_not_pos fun h => hgo2 ⟨hqt, hdg, h⟩
                    subst hm0; rfl
                  · exact digs_stop rfl hdg
                · rw [List.drop_of_length_le (by rw [Htl.out]; omega)]; exact digs_nil _ _
              have HDD : Hid (digs 3 (T.drop p') 0 = (x, T.drop q)) := HD.out.trans HDx.out
              have hix2 : q < tl → ∀ h' : q < (⟨T.toArray⟩ : ByteArray).size, ((⟨T.toArray⟩ : ByteArray)[q]'h').toNat = (T.getD q 0).toNat := fun h => byte_at rfl (by rw [Htl.out]; exact h)
              obtain ⟨b2, Hb2⟩ : ∃ b, Hid (T.getD q 0 = b) := ⟨_, rfl⟩
              rw [Hb2.out] at hix2 hgo2
              obtain ⟨nb2, Hnb2⟩ : ∃ nb, Hid (b2.toNat = nb) := ⟨_, rfl⟩
              rw [Hnb2.out] at hix2 hgo2
              have HCO : Hid (q < tl → T.drop q = b2 :: T.drop (q + 1)) := fun h => by rw [drop_cons (by rw [Htl.out]; exact h), Hb2.out]
              have HLE : Hid (∀ j, (T.drop j).length = tl - j) := fun j => by rw [List.length_drop, Htl.out]
              have hexit : q = tl ∨ ((q < tl ∧ decide ((q : Int) < tl) = true) ∧ (decide ((48 : Int) ≤ (nb2 : Int)) = false ∨ (decide ((48 : Int) ≤ (nb2 : Int)) = true ∧ (decide ((nb2 : Int) ≤ 57) = false ∨ (decide ((nb2 : Int) ≤ 57) = true ∧ decide ((q : Int) < (p' : Int) + 3) = false))))) := by
                by_cases h1 : q < tl
                · refine .inr ⟨⟨h1, decide_eq_true (by omega)⟩, ?_⟩
                  by_cases h2 : 48 ≤ nb2
                  · refine .inr ⟨decide_eq_true (by omega), ?_⟩
                    by_cases h3 : nb2 ≤ 57
                    · refine .inr ⟨decide_eq_true (by omega), decide_eq_false ?_⟩
                      have : ¬ 0 < m := fun h => hgo2 ⟨h1, ⟨h2, h3⟩, h⟩
                      omega
                    · exact .inl (decide_eq_false (by omega))
                  · exact .inl (decide_eq_false (by omega))
                · exact .inl (by omega)
              clear HDq HX hgo2 HD HDx
              by_cases herr : q = p' ∨ n ≤ x ∨ q = tl
              · have hYn : Y = none := by
                  rw [← HK2.out]
                  by_cases hqt : q = tl
                  · have e := HDD.out
                    have e0 : T.drop q = [] := List.drop_of_length_le (by rw [Htl.out]; omega)
                    rw [e0] at e
                    exact inn_nil e
                  · have e := HDD.out
                    rw [HCO.out (by omega)] at e
                    refine inn_bad e ?_
                    rw [← HCO.out (by omega), HLE.out, HLE.out]
                    omega
                have HN := HNo.out (HZn.out hYn)
                have herr2 : ((q : Int) == (p' : Int)) = true ∨ (((q : Int) == (p' : Int)) = false ∧ ((n ≤ x ∧ decide ((n : Int) ≤ (x : Int)) = true) ∨ (x < n ∧ decide ((n : Int) ≤ (x : Int)) = false ∧ q = tl))) := by
                  by_cases h1 : q = p'
                  · exact .inl (by simp; omega)
                  · refine .inr ⟨by simp; omega, ?_⟩
                    by_cases h2 : n ≤ x
                    · exact .inl ⟨h2, decide_eq_true (by omega)⟩
                    · exact .inr ⟨by omega, decide_eq_false (by omega), by omega⟩
                clear herr hYn
                rcases hexit with hx1 | ⟨⟨hx0, hx1⟩, hx2 | ⟨hx2, hx3 | ⟨hx3, hx4⟩⟩⟩ <;> rcases herr2 with hy1 | ⟨hy1, ⟨hy0, hy2⟩ | ⟨hy0, hy2, hy3⟩⟩
                all_goals
                  first
                  | (exfalso; have h1 := hx0; have h2 := hy3; omega)
                  | (try (have hx1' : q = tl := hx1; clear hx1; subst hx1'; try clear hy3)
                     (first | (have hix3 := hix2 hx0; clear hix2) | (clear hix2))
                     go_wp2
                     exact bodyPost_ret (v := .tuple #[.slice none 0 0, .int .i64 5]) (by simp [results, Tryd.results9, go_sem]) rfl ⟨.inr ⟨HN, rfl⟩, hB⟩)
              · have hxn : x < n := by omega
                have hqt : q < tl := by omega
                have hqp : p' < q := by omega
                have hqi : (q : Int) < tl := by omega
                have hxd : decide ((n : Int) ≤ (x : Int)) = false := decide_eq_false (by omega)
                have hy1 : ((q : Int) == (p' : Int)) = false := by simp; omega
                have hy2 : ((q : Int) == (tl : Int)) = false := by simp; omega
                have hix3 := hix2 hqt
                have HE := HDD.out
                rw [HCO.out hqt] at HE
                have HLn : ¬ ((b2 :: T.drop (q + 1)).length = (T.drop p').length ∨ n ≤ x) := by
                  rw [← HCO.out hqt, HLE.out, HLE.out]; omega
                have hTn : T ≠ [40, 41] := by simpa using hTb
                have HTn : Hid (T ≠ [40, 41]) := hTn
                have HLk : Hid ((T.drop (q + 1)).length ≤ k') := by
                  have h1 := HKK.out
                  rw [HLE.out] at h1
                  show (T.drop (q + 1)).length ≤ k'
                  rw [HLE.out]; omega
                have HLk2 : Hid ((T.drop (q + 1)).length < k2) := by
                  have h1 := HK1.out
                  rw [HLE.out] at h1
                  show (T.drop (q + 1)).length < k2
                  rw [HLE.out]; omega
                have HC2 : Hid (∀ y ∈ c ++ [x], y < n) := fun y hy => by
                  rcases List.mem_append.1 hy with h | h
                  · exact HC.out y h
                  · rw [List.mem_singleton.1 h]; exact hxn
                have hexit2 := hexit.resolve_left (by omega)
                clear hexit herr hix2 hTn
                by_cases h41 : nb2 = 41
                · have hb2 : b2 = 41 := (u8_eq b2 41 (by omega)).2 (by rw [Hnb2.out, h41])
                  rw [hb2] at HE HLn
                  have HYs : Hid (Y = some (c ++ [x], T.drop (q + 1))) := by
                    show Y = _
                    rw [← HK2.out]; exact inn_end HE HLn
                  have h41d : ((nb2 : Int) == 41) = true := by simp; omega
                  clear HE HLn hb2 h41
                  obtain ⟨pc, Hpc⟩ : ∃ pc, Hid (c.length = pc) := ⟨_, rfl⟩
                  rw [Hpc.out] at hown hcl
                  obtain ⟨⟨_, hx1⟩, hx2 | ⟨hx2, hx3 | ⟨hx3, hx4⟩⟩⟩ := hexit2
                  all_goals
                    go_wp2_with (first
                      | (at_builtin; refine wpList_append_own _ rfl _ _ 22 rfl B1 3 i3 (.int .i64 0) 1 8 und22 hi hz0 hz1 hz2 rfl (by decide) _ _ _ rfl (hown.alloc _) ⟨wr.heap.size, 0, none⟩ 1 1 [.int .i64 (x : Int)] rfl rfl ?c1 ?c2 ?c3 ?c4 ?c5 ?_))
                    case c1 =>
                      intro j u hj
                      match j, hj with
                      | 0, hj => simp at hj; subst hj; simp [Addr.add]
                    case c2 => intro u hu; simp at hu; subst hu; rfl
                    case c3 => unfold maxLen; omega
                    case c4 => omega
                    case c5 => simp; omega
                    intro v' w4 hown4 hgrow _
                    have hU4 : Below B1 wr w4 := ((Below.refl _ _).alloc (by omega) _).grown hgrow (by simp; omega) (fun k hk => (hown.lt k hk).1)
                    have hoi4 := hoi.below hU4
                    have hB4 := hB.trans (hU4.mono hs1)
                    have hs4 : B1 ≤ w4.heap.size := Nat.le_trans hs hU4.size
                    obtain ⟨pd, Hpd⟩ : ∃ pd, Hid (pc + 1 = pd) := ⟨_, rfl⟩
                    have hpd2 : pd ≤ 2000001 := by rw [← Hpd.out]; omega
                    obtain ⟨xa, xc, rfl, hci⟩ := CI.of (c := c ++ [x]) (p := pd) (by rw [List.length_append, Hpc.out, vl_append]; exact hown4) (by rw [List.length_append, Hpc.out, ← Hpd.out]; rfl)
                    obtain ⟨c', Hc'⟩ : ∃ c', Hid (c ++ [x] = c') := ⟨_, rfl⟩
                    have HL' : Hid (c'.length = pd) := by show c'.length = pd; rw [← Hc'.out, List.length_append, Hpc.out, ← Hpd.out]; rfl
                    rw [Hc'.out] at hci
                    have HC3 : Hid (∀ y ∈ c', y < n) := by rw [← Hc'.out]; exact HC2.out
                    have HZf : Hid (outV n k' (T.drop (q + 1)) (setC c' h) = Z) := HZs.out _ _ (by rw [HYs.out, Hc'.out])
                    clear hgrow hU4 hown hown4 hoi hs hB HC HC2 HYs
                    go_wp2
                    go_loopw [11] (fun iv wr => ∃ (r : Nat), iv = .int .i64 r ∧ r ≤ pd ∧ OI wr oa n w.heap.size B1 (stC c' h r) ∧ CI wr xa pd B1 c' ∧ B1 ≤ wr.heap.size ∧ Below w.heap.size w wr) (fun iv _ => (pd - intOf iv).toNat)
                    case atStart => exact ⟨0, rfl, by omega, hoi4, hci, hs4, hB4⟩
                    case round =>
                      clear hoi4 hci hs4 hB4
                      obtain ⟨r, rfl, hr, hoi, hci, hs, hB⟩ := hrel
                      by_cases hrp : r < pd
                      · have hri : (r : Int) < pd := by omega
                        have hrd : decide ((r : Int) < pd) = true := decide_eq_true hri
                        obtain ⟨g2, rfl, hg2, hOg⟩ := hci.resolve_left (by omega)
                        obtain ⟨s, Hs⟩ : ∃ s, Hid ((r + 1) % pd = s) := ⟨_, rfl⟩
                        have hsp : s < pd := by rw [← Hs.out]; exact Nat.mod_lt _ (by omega)
                        have hse : ((r : Int) + 1) % (pd : Int) = (s : Int) := by rw [← Hs.out, Int.natCast_emod, Int.natCast_add]; rfl
                        have hpz : ((pd : Int) == 0) = false := by simp; omega
                        have hsi : (s : Int) < pd := by omega
                        have hcq := hOg.cell r hrp
                        have hcs := hOg.cell s hsp
                        obtain ⟨y, Hy⟩ : ∃ y, Hid (c'.getD r 0 = y) := ⟨_, rfl⟩
                        obtain ⟨z, Hz⟩ : ∃ z, Hid (c'.getD s 0 = z) := ⟨_, rfl⟩
                        have hyn : y < n := by rw [← Hy.out]; exact HC3.out _ (getD_mem (by rw [HL'.out]; exact hrp))
                        have hyi : (y : Int) < n := by omega
                        rw [Hy.out] at hcq
                        rw [Hz.out] at hcs
                        obtain ⟨g, rfl, hg0, hg1, hO⟩ := hoi.resolve_left (by omega)
                        have hcy := hO.cell y hyn
                        have hfy := hO.frozen y
                        have hset : Own (wr.setCell ⟨g, y, none⟩ (.int .i64 (z : Int))) g n (fun t => (stC c' h (r + 1) t : Int)) := (hO.set y z).congr fun t _ => by
                          show upd (fun t => (stC c' h r t : Int)) y z t = ((if t = c'.getD r 0 then c'.getD ((r + 1) % c'.length) 0 else stC c' h r t : Nat) : Int)
                          rw [Hy.out, HL'.out, Hs.out, Hz.out]
                          unfold upd
                          by_cases e : t = y
                          · rw [if_pos e, if_pos e]
                          · rw [if_neg e, if_neg e]
                        have hci2 : CI (wr.setCell ⟨g, y, none⟩ (.int .i64 (z : Int))) (some ⟨g2, 0, none⟩) pd B1 c' := CI.other (.inr ⟨g2, rfl, hg2, hOg⟩) _ _ (by simpa using hg1)
                        have hB2 := hB.setCell (p := ⟨g, y, none⟩) hg0 (.int .i64 (z : Int))
                        have hs2 : B1 ≤ (wr.setCell ⟨g, y, none⟩ (.int .i64 (z : Int))).heap.size := by simpa using hs
                        go_wp2
                        go_region
                        all_goals
                          go_wp2
                          go_roundw
                          case rel => exact ⟨r + 1, by go_num, by omega, .inr ⟨g, rfl, hg0, hg1, hset⟩, hci2, hs2, bdrewN hB2 1⟩
                          case measure => simp [intOf]; omega
                      · obtain rfl : r = pd := by omega
                        have hrd : decide ((r : Int) < (r : Int)) = false := by simp
                        have HR2 : Hid (∀ t, t < n → setC c' h t < n) := stC_lt HC3.out HR.out _ (Nat.le_refl _)
                        have hoi2 : OI wr oa n w.heap.size B1 (setC c' h) := by
                          show OI wr oa n w.heap.size B1 (stC c' h c'.length)
                          rw [HL'.out]; exact hoi
                        go_wp2
                        go_roundw
                        case rel =>
                          refine ⟨q + 1, setC c' h, by go_num, by omega, hoi2, HR2, ?_, hs, hB⟩
                          show if T = [40, 41] then _ else _
                          rw [if_neg HTn.out]
                          exact ⟨k', HLk.out, HZf.out⟩
                        case measure => simp [intOf]; omega
                · have h41d : ((nb2 : Int) == 41) = false := by simp; omega
                  obtain ⟨pc, Hpc⟩ : ∃ pc, Hid (c.length = pc) := ⟨_, rfl⟩
                  rw [Hpc.out] at hown hcl
                  have hb41 : b2 ≠ 41 := fun e => h41 (by rw [← Hnb2.out]; exact (u8_eq b2 41 (by omega)).1 e)
                  by_cases h32 : nb2 = 32
                  · have hb2 : b2 = 32 := (u8_eq b2 32 (by omega)).2 (by rw [Hnb2.out, h32])
                    rw [hb2] at HE HLn
                    have HIn : Hid (inn n k2 (T.drop (q + 1)) (c ++ [x]) = Y) := by
                      show inn n k2 (T.drop (q + 1)) (c ++ [x]) = Y
                      rw [← HK2.out, inn_go HE HLn]
                    have h32d : ((nb2 : Int) != 32) = false := by simp; omega
                    clear HE HLn hb2 h41 h32 hb41
                    obtain ⟨⟨_, hx1⟩, hx2 | ⟨hx2, hx3 | ⟨hx3, hx4⟩⟩⟩ := hexit2
                    all_goals
                      go_wp2_with (first
                        | (at_builtin; refine wpList_append_own _ rfl _ _ 22 rfl B1 3 i3 (.int .i64 0) 1 8 und22 hi hz0 hz1 hz2 rfl (by decide) _ _ _ rfl (hown.alloc _) ⟨wr.heap.size, 0, none⟩ 1 1 [.int .i64 (x : Int)] rfl rfl ?c1 ?c2 ?c3 ?c4 ?c5 ?_))
                      case c1 =>
                        intro j u hj
                        match j, hj with
                        | 0, hj => simp at hj; subst hj; simp [Addr.add]
                      case c2 => intro u hu; simp at hu; subst hu; rfl
                      case c3 => unfold maxLen; omega
                      case c4 => omega
                      case c5 => simp; omega
                      intro v' w4 hown4 hgrow _
                      have hU4 : Below B1 wr w4 := ((Below.refl _ _).alloc (by omega) _).grown hgrow (by simp; omega) (fun k hk => (hown.lt k hk).1)
                      have hoi4 := hoi.below hU4
                      have hB4 := hB.trans (hU4.mono hs1)
                      have hs4 : B1 ≤ w4.heap.size := Nat.le_trans hs hU4.size
                      clear hgrow hU4 hown hoi hs hB
                      go_wp2
                      go_roundw
                      case rel =>
                        refine ⟨q + 1, c ++ [x], by go_num, by omega, by omega, ?_, ?_, HC2, ⟨k2, HLk2.out, HIn.out⟩, hoi4, hs4, hB4⟩
                        · rw [List.length_append, Hpc.out, List.length_singleton]; omega
                        · rw [List.length_append, Hpc.out, vl_append]; exact hown4
                      case measure => simp [intOf]; omega
                  · have hb32 : b2 ≠ 32 := fun e => h32 (by rw [← Hnb2.out]; exact (u8_eq b2 32 (by omega)).1 e)
                    have hYn : Y = none := by rw [← HK2.out]; exact inn_no HE HLn hb41 hb32
                    have HN := HNo.out (HZn.out hYn)
                    have h32d : ((nb2 : Int) != 32) = true := by simp; omega
                    clear HE HLn h41 h32 hb41 hb32 hYn
                    obtain ⟨⟨_, hx1⟩, hx2 | ⟨hx2, hx3 | ⟨hx3, hx4⟩⟩⟩ := hexit2
                    all_goals
                      go_wp2_with (first
                        | (at_builtin; refine wpList_append_own _ rfl _ _ 22 rfl B1 3 i3 (.int .i64 0) 1 8 und22 hi hz0 hz1 hz2 rfl (by decide) _ _ _ rfl (hown.alloc _) ⟨wr.heap.size, 0, none⟩ 1 1 [.int .i64 (x : Int)] rfl rfl ?c1 ?c2 ?c3 ?c4 ?c5 ?_))
                      case c1 =>
                        intro j u hj
                        match j, hj with
                        | 0, hj => simp at hj; subst hj; simp [Addr.add]
                      case c2 => intro u hu; simp at hu; subst hu; rfl
                      case c3 => unfold maxLen; omega
                      case c4 => omega
                      case c5 => simp; omega
                      intro v' w4 hown4 hgrow _
                      have hU4 : Below B1 wr w4 := ((Below.refl _ _).alloc (by omega) _).grown hgrow (by simp; omega) (fun k hk => (hown.lt k hk).1)
                      have hB4 := hB.trans (hU4.mono hs1)
                      clear hgrow hU4 hown hoi hs hB
                      go_wp2
                      exact bodyPost_ret (v := .tuple #[.slice none 0 0, .int .i64 5]) (by simp [results, Tryd.results9, go_sem]) rfl ⟨.inr ⟨HN, rfl⟩, hB4⟩
      · have hbd : ((nb : Int) != 40) = true := by simp; omega
        rw [if_pos (fun e => hb40 (by rw [← Hnb.out]; exact (u8_eq b 40 (by omega)).1 e))] at hk2
        have HN := HNo.out hk2.symm
        clear hk1 hk2 hTT hpT hb40
        go_wp2
        exact bodyPost_ret (v := .tuple #[.slice none 0 0, .int .i64 5]) (by simp [results, Tryd.results9, go_sem]) rfl ⟨.inr ⟨HN, rfl⟩, hB⟩
    · have hZ : Z = some h := by
        have h1 := HK.out
        by_cases e : T = [40, 41]
        · rw [if_pos e] at h1; exact h1
        · rw [if_neg e] at h1
          have hpt : p = tl := by
            rcases Nat.lt_or_ge p tl with h2 | h2
            · exact absurd ⟨h2, e⟩ hgo
            · omega
          obtain ⟨k, _, hk⟩ := h1
          rw [List.drop_of_length_le (by rw [Htl.out]; omega)] at hk
          rw [← hk]
          cases k <;> rfl
      have hfin : p = tl ∨ (p < tl ∧ decide ((p : Int) < tl) = true ∧ (T == [40, 41]) = true) := by
        rcases Nat.lt_or_ge p tl with h2 | h2
        · refine .inr ⟨h2, decide_eq_true (by omega), ?_⟩
          have : T = [40, 41] := Classical.byContradiction fun e => hgo ⟨h2, e⟩
          rw [this]; rfl
        · exact .inl (by omega)
      clear hgo HK
      by_cases hex : ∃ f, Pm n f ∧ permT n f = T
      · obtain ⟨f, P, hPT⟩ := hex
        obtain ⟨h0, e0, e1⟩ := HF.out f P hPT
        have e2 : h = h0 := Option.some.inj (hZ.symm.trans e0)
        have hsl : Sl wr (.slice oa n oc) (pl n f) := hoi.sl (fun t ht => by rw [e2, e1 t ht])
        have F1 := PF (pl n f) _ wr hsl (by rw [pl_len]; unfold maxLen; omega)
        rw [pF_pl P hn] at F1
        have F2 := fun A (hb : Below wr.heap.size wr A) => PT f _ A (hsl.below hb) P
        rw [hPT] at F2
        have hfn := fun A (hb : Below wr.heap.size wr A) => hsl.below hb
        have HPf : Hid (Pm n f ∧ permT n f = T) := ⟨P, hPT⟩
        clear hoi HR hZ e0 e1 e2 P hPT PF PT hsl
        rcases hfin with hp1 | ⟨hp1, hp2, hp3⟩
        · have hp1' : p = tl := hp1
          clear hp1
          subst hp1'
          go_wp2_with (first
            | (go_at_call 5; refine F1.mono ?_; rintro e w3 ⟨rfl, hb3⟩)
            | (go_at_call 7; refine (F2 _ hb3).mono ?_; rintro e w4 ⟨rfl, hb4⟩))
          exact bodyPost_ret (v := .tuple #[.slice oa n oc, .int .i64 0]) (by simp [results, Tryd.results9, go_sem]) rfl ⟨.inl ⟨f, _, HPf.out.1, HPf.out.2, rfl, hfn _ (Below.next hb3 hb4)⟩, Below.next hB (Below.next hb3 hb4)⟩
        · go_wp2_with (first
            | (go_at_call 5; refine F1.mono ?_; rintro e w3 ⟨rfl, hb3⟩)
            | (go_at_call 7; refine (F2 _ hb3).mono ?_; rintro e w4 ⟨rfl, hb4⟩))
          exact bodyPost_ret (v := .tuple #[.slice oa n oc, .int .i64 0]) (by simp [results, Tryd.results9, go_sem]) rfl ⟨.inl ⟨f, _, HPf.out.1, HPf.out.2, rfl, hfn _ (Below.next hb3 hb4)⟩, Below.next hB (Below.next hb3 hb4)⟩
      · have HN : Hid (∀ f, Pm n f → permT n f ≠ T) := fun f P e => hex ⟨f, P, e⟩
        obtain ⟨z, Hz⟩ : ∃ z, Hid (pF (pl n h) = z) := ⟨_, rfl⟩
        by_cases hz : z = 0
        · subst hz
          obtain ⟨n', f, _, P, e⟩ := pF_ok Hz.out
          have hnn : n = n' := by have := congrArg List.length e; simpa using this
          subst hnn
          have hsl : Sl wr (.slice oa n oc) (pl n f) := by rw [← e]; exact hoi.sl (fun t _ => rfl)
          have F1 := PF (pl n f) _ wr hsl (by rw [pl_len]; unfold maxLen; omega)
          rw [pF_pl P hn] at F1
          have F2 := fun A (hb : Below wr.heap.size wr A) => PT f _ A (hsl.below hb) P
          have hne := HN.out f P
          obtain ⟨T', HT'⟩ : ∃ T', Hid (permT n f = T') := ⟨_, rfl⟩
          rw [HT'.out] at F2 hne
          have hnb : (T' == T) = false := by simpa using hne
          clear hoi HR hZ P e PF PT hsl hex Hz
          rcases hfin with hp1 | ⟨hp1, hp2, hp3⟩
          · have hp1' : p = tl := hp1
            clear hp1
            subst hp1'
            go_wp2_with (first
              | (go_at_call 5; refine F1.mono ?_; rintro e w3 ⟨rfl, hb3⟩)
              | (go_at_call 7; refine (F2 _ hb3).mono ?_; rintro e w4 ⟨rfl, hb4⟩))
            exact bodyPost_ret (v := .tuple #[.slice none 0 0, .int .i64 5]) (by simp [results, Tryd.results9, go_sem]) rfl ⟨.inr ⟨HN.out, rfl⟩, Below.next hB (Below.next hb3 hb4)⟩
          · go_wp2_with (first
              | (go_at_call 5; refine F1.mono ?_; rintro e w3 ⟨rfl, hb3⟩)
              | (go_at_call 7; refine (F2 _ hb3).mono ?_; rintro e w4 ⟨rfl, hb4⟩))
            exact bodyPost_ret (v := .tuple #[.slice none 0 0, .int .i64 5]) (by simp [results, Tryd.results9, go_sem]) rfl ⟨.inr ⟨HN.out, rfl⟩, Below.next hB (Below.next hb3 hb4)⟩
        · have hsl : Sl wr (.slice oa n oc) (pl n h) := hoi.sl (fun t _ => rfl)
          have F1 := PF (pl n h) _ wr hsl (by rw [pl_len]; unfold maxLen; omega)
          rw [Hz.out] at F1
          have hzd : (z != 0) = true := by simpa using hz
          clear hoi HR hZ PF PT hsl hex Hz hz
          rcases hfin with hp1 | ⟨hp1, hp2, hp3⟩
          · have hp1' : p = tl := hp1
            clear hp1
            subst hp1'
            go_wp2_with (first
              | (go_at_call 5; refine F1.mono ?_; rintro e w3 ⟨rfl, hb3⟩))
            exact bodyPost_ret (v := .tuple #[.slice none 0 0, .int .i64 5]) (by simp [results, Tryd.results9, go_sem]) rfl ⟨.inr ⟨HN.out, rfl⟩, Below.next hB hb3⟩
          · go_wp2_with (first
              | (go_at_call 5; refine F1.mono ?_; rintro e w3 ⟨rfl, hb3⟩))
            exact bodyPost_ret (v := .tuple #[.slice none 0 0, .int .i64 5]) (by simp [results, Tryd.results9, go_sem]) rfl ⟨.inr ⟨HN.out, rfl⟩, Below.next hB hb3⟩

end Go.Proofs.YteocfkkdjejgdaaDoor
