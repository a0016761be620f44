/- The document's SomeOf, walked. -/
import Derived.Test.YtgkfddcmngodgabS1
import Derived.Test.YtgkfddcmngodgabP14
namespace Go.Proofs.Ytgkfddcmngodgab
open Go.RowKit

theorem made_z {n t : Nat} (ht : t < n) : (madeCells #[Value.int .i64 0] n)[t]? = some (.int .i64 0) := by
  have hs : t < (madeCells #[Value.int .i64 0] n).size := by rw [size_madeCells]; exact ht
  rw [Array.getElem?_eq_getElem hs]
  simp [madeCells, Nat.mod_one]
theorem run_makeT (n : Nat) (hn : n ≤ 100000) (w : World) : (Instr.makeSlice 22 (.int .i64 (n : Int)) (.int .i64 (n : Int))).run Try.prog w = .ok (.slice (some ⟨w.heap.size, 0, none⟩) n n) (w.alloc (.cells (madeCells #[.int .i64 0] n) 3)) := by
  obtain ⟨i4, hi, hz0, hz1, hz2⟩ := info3
  have h := run_make (P := Try.prog) w 22 3 i4 (.int .i64 0) und22 hi hz0 .i64 .i64 n n (by omega) (by omega) (by rw [hz2]; omega) (by omega)
  simpa [hz1, Value.cells] using h
/-- A table of one's own in its box. -/
structure TbS (w1 wr : World) (n nn : Nat) (f : Nat → Int) : Prop where
  own : Own wr w1.heap.size nn f
  box : wr.heap[w1.heap.size + 1]? = some (.cells #[.int .i64 (n : Int), .slice (some ⟨w1.heap.size, 0, none⟩) nn nn] 24 (0, 0))
  bel : Below w1.heap.size w1 wr
theorem TbS.set {w1 wr : World} {n nn : Nat} {f f' : Nat → Int} (h : TbS w1 wr n nn f) (p : Nat) (e : ∀ j, j < nn → upd f p 1 j = f' j) : TbS w1 (wr.setCell ⟨w1.heap.size, p, none⟩ (.int .i64 1)) n nn f' :=
  ⟨(h.own.set p 1).congr e, (heap_setCell_other wr ⟨w1.heap.size, p, none⟩ (w1.heap.size + 1) (.int .i64 1) (show w1.heap.size + 1 ≠ w1.heap.size by omega)).trans h.box, h.bel.setCell (p := ⟨w1.heap.size, p, none⟩) (Nat.le_refl _) (.int .i64 1)⟩
theorem TbS.cells {w1 wr : World} {n nn : Nat} {f : Nat → Int} (h : TbS w1 wr n nn f) : wr.cell? ⟨w1.heap.size + 1, 0, none⟩ = some (.int .i64 (n : Int)) ∧ wr.cell? ⟨w1.heap.size + 1, 1, none⟩ = some (.slice (some ⟨w1.heap.size, 0, none⟩) nn nn) :=
  ⟨by rw [cell_of_row _ _ _ _ _ _ h.box]; rfl, by rw [cell_of_row _ _ _ _ _ _ h.box]; rfl⟩
theorem TbS.congr {w1 wr : World} {n nn : Nat} {f f' : Nat → Int} (h : TbS w1 wr n nn f) (e : ∀ j, j < nn → f j = f' j) : TbS w1 wr n nn f' := ⟨h.own.congr e, h.box, h.bel⟩
theorem tbs_new (w : World) (n nn : Nat) : TbS w ((w.alloc (.cells (madeCells #[.int .i64 0] nn) 3)).alloc (.cells #[.int .i64 (n : Int), .slice (some ⟨w.heap.size, 0, none⟩) nn nn] 24)) n nn (fun _ => 0) := by
  have e1 : (w.alloc (.cells (madeCells #[.int .i64 0] nn) 3)).heap.size = w.heap.size + 1 := by simp
  have b1 := balloc w (.cells (madeCells #[.int .i64 0] nn) 3)
  have b2 := balloc (w.alloc (.cells (madeCells #[.int .i64 0] nn) 3)) (.cells #[.int .i64 (n : Int), .slice (some ⟨w.heap.size, 0, none⟩) nn nn] 24)
  refine ⟨⟨_, (b2.block w.heap.size (by simp)).trans (heap_alloc_new w _), fun j hj => made_z hj⟩, ?_, b1.trans (b2.mono b1.size)⟩
  have := heap_alloc_new (w.alloc (.cells (madeCells #[.int .i64 0] nn) 3)) (.cells #[.int .i64 (n : Int), .slice (some ⟨w.heap.size, 0, none⟩) nn nn] 24)
  rwa [e1] at this
theorem tri_next (a : Nat) : (a + 1) * (a + 1 - 1) / 2 = a * (a - 1) / 2 + a := by
  cases a with
  | zero => rfl
  | succ a =>
    simp only [Nat.add_sub_cancel]
    have : (a + 1 + 1) * (a + 1) = (a + 1) * a + (a + 1) * 2 := by rw [Nat.mul_comm (a + 1 + 1), ← Nat.mul_add]
    rw [this, Nat.add_mul_div_right _ _ (by omega)]
theorem btC_bit {c a b : Nat} (h : b < a) : btC c a b = c.testBit (a * (a - 1) / 2 + b) := by unfold btC; rw [if_pos h]
set_option maxRecDepth 100000 in
set_option maxHeartbeats 16000000 in
theorem SomeOf_any (n : Nat) (L : List Nat) (h1 : 1 ≤ n) (h5 : n ≤ 5) (hl : L.length = n) (v : Value) (w : World) (hv : Sl w v (L.map Int.ofNat)) (q : Bool) (hq : q = true ↔ ∃ c, c < 2 ^ (n * (n - 1) / 2) ∧ scT (btC c) n = L) :
    Calls Try.prog 7 #[v] w fun e w' => e = .returned (.bool q) ∧ Below w.heap.size w w' := by
  have HV : Hid (∀ W, Below w.heap.size w W → Sl W v (L.map Int.ofNat)) := fun W b => hv.below b
  obtain ⟨a0, c0, rfl, _⟩ := hv
  rw [List.length_map] at HV ⊢
  obtain ⟨P, HP⟩ : ∃ P, Hid (n * (n - 1) / 2 = P) := ⟨_, (rfl : n * (n - 1) / 2 = _)⟩
  obtain ⟨pp, Hpp⟩ : ∃ pp, Hid (n * (n - 1) = pp) := ⟨_, (rfl : n * (n - 1) = _)⟩
  obtain ⟨nn, Hnn⟩ : ∃ nn, Hid (n * n = nn) := ⟨_, (rfl : n * n = _)⟩
  obtain ⟨n1, Hn1⟩ : ∃ n1, Hid (n - 1 = n1) := ⟨_, rfl⟩
  have hpp20 : pp ≤ 20 := by rw [← Hpp.out]; exact Nat.le_trans (Nat.mul_le_mul h5 (show n - 1 ≤ 4 by omega)) (by decide)
  have hnn25 : nn ≤ 25 := by rw [← Hnn.out]; exact Nat.mul_le_mul h5 h5
  have hPp : pp / 2 = P := by rw [← Hpp.out]; exact HP.out
  have hP10 : P ≤ 10 := by omega
  obtain ⟨T, HT⟩ : ∃ T, Hid (2 ^ P = T) := ⟨_, (rfl : 2 ^ P = _)⟩
  have hT : T ≤ 1024 := by rw [← HT.out]; exact Nat.pow_le_pow_right (n := 2) (by omega) hP10
  have hTi : (2 : Int) ^ P = (T : Int) := by rw [← HT.out]; simp
  have hni : (n : Int) - 1 = (n1 : Int) := by rw [← Hn1.out]; omega
  have hmi : (n : Int) * (n1 : Int) = (pp : Int) := by rw [← Hpp.out, Hn1.out]; simp
  have hqi : (pp : Int) / 2 = (P : Int) := by rw [← hPp]; simp
  have hqi2 : (pp : Int).tdiv 2 = (P : Int) := by rw [Int.tdiv_eq_ediv_of_nonneg (by omega)]; exact hqi
  have hnni : (n : Int) * (n : Int) = (nn : Int) := by rw [← Hnn.out]; simp
  have hn19 : n1 ≤ 9 := by rw [← Hn1.out]; omega
  have HYES : Hid (∀ c, c < T → scT (btC c) n = L → q = true) := fun c hc e => hq.2 ⟨c, by rw [HP.out, HT.out]; exact hc, e⟩
  have HNO : Hid ((∀ c, c < T → scT (btC c) n ≠ L) → q = false) := fun h => by
    rw [Bool.eq_false_iff]
    intro hqt
    obtain ⟨c, hc, e⟩ := hq.1 hqt
    rw [HP.out, HT.out] at hc
    exact h c hc e
  have hmk := fun w => run_makeT nn (by omega) w
  have HLL : Hid (L.length = n) := hl
  rw [hl] at HV ⊢
  clear hq hl hPp
  go_enter Try.func7, Try.ntmps7
  go_wp2
  go_loopw [5] (fun cv wr => ∃ c : Nat, cv = .int .i64 (c : Int) ∧ c ≤ T ∧ Hid (∀ c', c' < c → scT (btC c') n ≠ L) ∧ Below w.heap.size w wr) (fun cv _ => (T - intOf cv).toNat)
  case atStart => exact ⟨0, rfl, by omega, (show ∀ c', c' < 0 → _ from fun c' h => by omega), Below.refl _ _⟩
  case round =>
    obtain ⟨c, rfl, hcT, HC, hB⟩ := hrel
    by_cases hlc : c < T
    · have hdc : decide ((c : Int) < (T : Int)) = true := by simp; omega
      have hci : (c : Int) < (T : Int) := by omega
      obtain ⟨w1, hw1⟩ : ∃ w1 : World, w1 = wr := ⟨_, rfl⟩
      subst hw1
      have hS0 := (tbs_new w1 n nn).congr (f' := soM c n 0 0) fun j _ => (so_zero c n j).symm
      have HB1 : Hid (Below w.heap.size w w1) := hB
      have HSZ : Hid (w.heap.size ≤ w1.heap.size) := hB.size
      clear hB
      go_wp2
      go_loopw [7, 8] (fun kv av wr => ∃ a kk : Nat, av = .int .i64 (a : Int) ∧ kv = .int .i64 (kk : Int) ∧ a ≤ n ∧ kk ≤ 12 ∧ Hid (kk = a * (a - 1) / 2) ∧ TbS w1 wr n nn (soM c n a 0)) (fun _ av _ => (n - intOf av).toNat)
      case atStart => exact ⟨0, 0, rfl, rfl, by omega, by omega, rfl, hS0⟩
      case round =>
        clear hS0
        obtain ⟨a, kk, rfl, rfl, han, hk9, HK, hS⟩ := hrel
        by_cases hla : a < n
        · have hda : decide ((a : Int) < (n : Int)) = true := by simp; omega
          have hai : (a : Int) < (n : Int) := by omega
          go_wp2
          go_loopw [7, 9] (fun kv bv wr => ∃ b kb : Nat, bv = .int .i64 (b : Int) ∧ kv = .int .i64 (kb : Int) ∧ b ≤ a ∧ Hid (kb = kk + b) ∧ TbS w1 wr n nn (soM c n a b)) (fun _ bv _ => (a - intOf bv).toNat)
          case atStart => exact ⟨0, kk, rfl, rfl, by omega, rfl, hS⟩
          case round =>
            clear hS
            obtain ⟨b, kb, rfl, rfl, hba, HKB, hS⟩ := hrel
            have hkb9 : kb ≤ 17 := by rw [HKB.out]; omega
            have HK2 : Hid (kb + 1 = kk + (b + 1)) := by show _ = _; rw [HKB.out]; omega
            by_cases hlb : b < a
            · have hdb : decide ((b : Int) < (a : Int)) = true := by simp; omega
              have hbi : (b : Int) < (a : Int) := by omega
              have hbit : btC c a b = c.testBit kb := by rw [btC_bit hlb, HKB.out, HK.out]
              have hb64 := bit_i64 (x := c) (Nat.lt_of_lt_of_le hlc (Nat.le_trans hT (by decide))) kb
              obtain ⟨x0, x1⟩ := hS.cells
              rw [← hbit] at hb64
              have HBT := hbit
              have HST : Hid (∀ p, p = (if btC c a b then a * n + b else b * n + a) → TbS w1 (wr.setCell ⟨w1.heap.size, p, none⟩ (.int .i64 1)) n nn (soM c n a (b + 1))) := fun p hp => hS.set p fun j hj => by
                have h := so_step hla hlb p hp j (by rw [Hnn.out]; exact hj)
                unfold upd
                exact h
              obtain ⟨t, Ht⟩ : ∃ t, Hid (btC c a b = t) := ⟨_, rfl⟩
              rw [Ht.out] at hb64 HST
              cases t with
              | true =>
                have hp : a * n + b < nn := by rw [← Hnn.out]; exact idx_lt hla (by omega)
                have e3 := hS.own.cell (a * n + b) hp
                have fz := hS.own.frozen (a * n + b)
                have hS2 := HST.out _ rfl
                rw [if_pos rfl] at hS2
                generalize soM c n a b (a * n + b) = z3 at e3
                obtain ⟨an, Han⟩ : ∃ an, Hid (a * n = an) := ⟨_, rfl⟩
                rw [Han.out] at e3 fz hS2 hp
                obtain ⟨p, Hp⟩ : ∃ p, Hid (an + b = p) := ⟨_, rfl⟩
                rw [Hp.out] at e3 fz hS2 hp
                have i1 : (a : Int) * (n : Int) = (an : Int) := by rw [← Han.out]; simp
                have i2 : (an : Int) + (b : Int) = (p : Int) := by rw [← Hp.out]; simp
                have hpi : (p : Int) < (nn : Int) := by omega
                have han9 : an ≤ 99 := by have := Hp.out; omega
                clear hS hbit HBT
                go_wp2
                go_roundw
                case rel => exact ⟨b + 1, kb + 1, by go_num, by go_num, by omega, HK2, hS2⟩
                case measure => simp [intOf]; omega
              | false =>
                have hp : b * n + a < nn := by rw [← Hnn.out]; exact idx_lt (by omega) hla
                have e3 := hS.own.cell (b * n + a) hp
                have fz := hS.own.frozen (b * n + a)
                have hS2 := HST.out _ rfl
                rw [if_neg (by simp)] at hS2
                generalize soM c n a b (b * n + a) = z3 at e3
                obtain ⟨bn, Hbn⟩ : ∃ bn, Hid (b * n = bn) := ⟨_, rfl⟩
                rw [Hbn.out] at e3 fz hS2 hp
                obtain ⟨p, Hp⟩ : ∃ p, Hid (bn + a = p) := ⟨_, rfl⟩
                rw [Hp.out] at e3 fz hS2 hp
                have i1 : (b : Int) * (n : Int) = (bn : Int) := by rw [← Hbn.out]; simp
                have i2 : (bn : Int) + (a : Int) = (p : Int) := by rw [← Hp.out]; simp
                have hpi : (p : Int) < (nn : Int) := by omega
                have hbn9 : bn ≤ 99 := by have := Hp.out; omega
                clear hS hbit HBT
                go_wp2
                go_roundw
                case rel => exact ⟨b + 1, kb + 1, by go_num, by go_num, by omega, HK2, hS2⟩
                case measure => simp [intOf]; omega
            · have hdb : decide ((b : Int) < (a : Int)) = false := by simp; omega
              have hdbn : decide (b < a) = false := by simp; omega
              obtain rfl : b = a := by omega
              have HKN : Hid (kb = (b + 1) * (b + 1 - 1) / 2) := by show _ = _; rw [tri_next, HKB.out, HK.out]
              have hS2 := hS.congr (f' := soM c n (b + 1) 0) fun j _ => by rw [so_next]
              have hkb99 : kb ≤ 12 := by
                rw [HKN.out]
                have h : (b + 1) * (b + 1 - 1) ≤ 5 * 4 := Nat.mul_le_mul (by omega) (by omega)
                omega
              clear hS
              go_wp2
              go_roundw
              case rel => exact ⟨b + 1, kb, by go_num, rfl, by omega, hkb99, HKN, hS2⟩
              case measure => simp [intOf]; omega
        · have hda : decide ((a : Int) < (n : Int)) = false := by simp; omega
          have hdan : decide (a < n) = false := by simp; omega
          obtain rfl : a = n := by omega
          have hg := soL_good (c := c) h1 (by omega)
          have hsl : Sl wr (.slice (some ⟨w1.heap.size, 0, none⟩) nn nn) (soL c a) := by
            have e : (soL c a).length = nn := by rw [← Hnn.out]; unfold soL; simp
            refine ⟨_, nn, by rw [e], fun j hj => ⟨w1.heap.size, 0, rfl, ?_⟩⟩
            rw [e] at hj
            rw [Nat.zero_add, hS.own.cell j hj]
            unfold soL
            rw [List.getD_eq_getElem?_getD, List.getElem?_map, List.getElem?_range (by rw [Hnn.out]; exact hj)]
            rfl
          have C12 := ScoresOf_any hg _ wr hsl
          rw [soL_score] at C12
          obtain ⟨x0, x1⟩ := hS.cells
          have hBw : Below w.heap.size w wr := HB1.out.trans (hS.bel.mono HSZ.out)
          obtain ⟨S, HS⟩ : ∃ S, Hid (scT (btC c) a = S) := ⟨_, rfl⟩
          have hSl : S.length = a := by rw [← HS.out]; exact scT_len _ _
          rw [HS.out] at C12
          have HI : Hid (∀ W y, Below w.heap.size w W → Sl W y (S.map Int.ofNat) → Calls Try.prog 15 #[y, .slice a0 a c0] W fun e w' => ∃ b : Bool, e = .returned (.bool b) ∧ (b = true ↔ S.map Int.ofNat = L.map Int.ofNat) ∧ Below W.heap.size W w') := fun W y bW hy => ints_any _ _ y _ W hy (HV.out W bW) (by rw [List.length_map, hSl]; unfold maxLen; omega) (by rw [List.length_map, HLL.out]; unfold maxLen; omega)
          clear hS hg hsl
          go_wp2_with fail
          refine C12.mono ?_
          rintro e w5 ⟨⟨y, rfl, hy⟩, b5⟩
          have hB5 := hBw.trans (b5.mono hBw.size)
          have C14 := HI.out w5 y hB5 hy.sl
          obtain ⟨ya, yn, yc, rfl⟩ : ∃ x m k, y = .slice x m k := by obtain ⟨x, k, e, _⟩ := hy.sl; exact ⟨x, _, k, e⟩
          clear C12 hy
          go_wp2_with fail
          refine C14.mono ?_
          rintro e w6 ⟨g, rfl, hgq, b6⟩
          have hB6 := hB5.trans (b6.mono hB5.size)
          cases g with
          | true =>
            have hSL : S = L := List.map_inj_right (fun x y e => Int.ofNat.inj e) |>.1 (hgq.1 rfl)
            have HQT : Hid (q = true) := HYES.out c hlc (by rw [HS.out, hSL])
            clear hgq C14
            go_wp2
            go_ret
            exact ⟨by rw [HQT.out]; rfl, hB6⟩
          | false =>
            have HC2 : Hid (∀ c', c' < c + 1 → scT (btC c') a ≠ L) := fun c' hc' e => by
              by_cases ec : c' = c
              · subst ec
                have := hgq.2 (by rw [← HS.out, e])
                cases this
              · exact HC.out c' (by omega) e
            clear hgq C14
            go_wp2
            go_roundw
            case rel => exact ⟨c + 1, by go_num, by omega, HC2, hB6⟩
            case measure => simp [intOf]; omega
    · have hdc : decide ((c : Int) < (T : Int)) = false := by simp; omega
      have hdcn : decide (c < T) = false := by simp; omega
      have HQF : Hid (q = false) := HNO.out fun c' hc' => HC.out c' (by omega)
      go_wp2
      go_ret
      exact ⟨by rw [HQF.out]; rfl, hB⟩
end Go.Proofs.Ytgkfddcmngodgab
