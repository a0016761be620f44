/- The walk of the document's LevelOf: the search. -/
import Derived.Test.YtnnopfdckillpaaDLv
namespace Go.Proofs.Ytnnopfdckillpaa
open Go.RowKit

/-- The rows of a design in memory. -/
def DRow (w : World) (a : Option Addr) (B : List (List Nat)) : Prop := ∀ (i : Nat) (b : List Nat), B[i]? = some b → ∃ bb off ua uc, a = some ⟨bb, off, none⟩ ∧ ∀ W, Below w.heap.size w W → W.cell? ⟨bb, off + i, none⟩ = some (.slice ua b.length uc) ∧ Sl W (.slice ua b.length uc) (b.map Int.ofNat)
theorem drow_of {w : World} {v : Value} {B : List (List Nat)} (h : Rw w v (toZ B)) : ∃ a cap, v = .slice a B.length cap ∧ DRow w a B := by
  obtain ⟨a, cap, rfl, h⟩ := h
  have hl : (toZ B).length = B.length := by simp [toZ]
  rw [hl]
  refine ⟨a, cap, rfl, fun i b hb => ?_⟩
  obtain ⟨bb, off, u, e, hc, hS⟩ := h i (b.map Int.ofNat) (by unfold toZ; rw [List.getElem?_map, hb]; rfl)
  have hS' := hS
  obtain ⟨ua, uc, rfl, _⟩ := hS
  rw [List.length_map] at hc hS'
  exact ⟨bb, off, ua, uc, e, fun W bW => ⟨(bW.cell (World.block_lt_of_cell? _ _ hc)).trans hc, hS'.below bW⟩⟩
theorem take_count (B : List (List Nat)) (p : List Nat → Bool) {i : Nat} {b : List Nat} (h : B[i]? = some b) : (B.take (i + 1)).countP p = (B.take i).countP p + if p b = true then 1 else 0 := by
  rw [List.take_add_one, h, List.countP_append]
  simp [List.countP_cons]
set_option maxRecDepth 100000 in
set_option maxHeartbeats 32000000 in
theorem LevelOf_main (v k t : Nat) (B : List (List Nat)) (u : Value) (w : World) (G : GoodD v B) (hu : Rw w u (toZ B)) (h4 : t ≤ 4) (htv : t ≤ v) (hne : B ≠ []) (hk : ∀ b ∈ B, b.length = k) :
    Calls Try.prog 8 #[.agg #[.int .i64 (v : Int), u], .int .i64 (t : Int)] w fun e w' => ((∃ l : Nat, e = .returned (.tuple #[.int .i64 (k : Int), .int .i64 (l : Int), .int .i64 0]) ∧ Lev v B t l) ∨ (e = .returned (.tuple #[.int .i64 0, .int .i64 0, .int .i64 4]) ∧ ¬ ∃ l, Lev v B t l)) ∧ Below w.heap.size w w' := by
  obtain ⟨a, cap, rfl, hD⟩ := drow_of hu
  have h200 := G.few
  have hv40 := G.le
  have HD : Hid (DRow w a B) := hD
  have HBL : Hid (∀ b ∈ B, b.length ≤ 40) := fun b hb => G.len hb
  have HK : Hid (∀ (i : Nat) (b : List Nat), B[i]? = some b → b.length = k) := fun i b h => hk b (List.mem_of_getElem? h)
  have HAT : Hid (∀ i, i < B.length → ∃ b, B[i]? = some b) := fun i hi => ⟨_, List.getElem?_eq_getElem hi⟩
  have HNB : Hid (∀ s, nb B s = (B.take B.length).countP fun b => s.all fun x => b.contains x) := fun s => by rw [List.take_length]; rfl
  have hpos : 0 < B.length := List.length_pos_iff.2 hne
  have HC : Hid (∀ W, Below (w.alloc (.cells #[.int .i64 (v : Int), .slice a B.length cap] 24)).heap.size (w.alloc (.cells #[.int .i64 (v : Int), .slice a B.length cap] 24)) W → W.cell? ⟨w.heap.size, 0, none⟩ = some (.int .i64 (v : Int)) ∧ W.cell? ⟨w.heap.size, 1, none⟩ = some (.slice a B.length cap)) := des_box v (.slice a B.length cap) w
  obtain ⟨w0, Hw0⟩ : ∃ w0, Hid (w0 = w.alloc (.cells #[.int .i64 (v : Int), .slice a B.length cap] 24)) := ⟨_, rfl⟩
  rw [← Hw0.out] at HC
  have HB0 : Hid (Below w.heap.size w w0) := by rw [Hw0.out]; exact balloc _ _
  have hd1 : decide ((t : Int) < 0) = false := decide_eq_false (by omega)
  have hd2 : decide ((4 : Int) < (t : Int)) = false := decide_eq_false (by omega)
  have hd3 : decide ((v : Int) < (t : Int)) = false := decide_eq_false (by omega)
  obtain ⟨x0, x1⟩ := HC.out _ (Below.refl _ _)
  rw [Hw0.out] at x0 x1
  obtain ⟨b0, hb0⟩ := HAT.out 0 hpos
  obtain ⟨bb, off, ua, uc, rfl, hrow⟩ := HD.out 0 b0 hb0
  have hr0 := (hrow _ (balloc w (.cells #[.int .i64 (v : Int), .slice (some ⟨bb, off, none⟩) B.length cap] 24))).1
  rw [HK.out 0 b0 hb0, Nat.add_zero] at hr0
  have hk40 : k ≤ 40 := by rw [← HK.out 0 b0 hb0]; exact HBL.out b0 (List.mem_of_getElem? hb0)
  have hn0 : ((B.length : Int) == 0) = false := beq_eq_false_iff_ne.2 (by omega)
  have hni : (0 : Int) < (B.length : Int) := by omega
  have C28 := fun W => Still_any t W (by omega)
  generalize hBn : B.length = n at *
  clear hrow hb0 hk hne hD hu
  go_enter Try.func8, Try.ntmps8
  go_wp2
  go_loopw [8] (fun iv wr => ∃ i : Nat, iv = .int .i64 (i : Int) ∧ i ≤ n ∧ Below w0.heap.size w0 wr) (fun iv _ => (n - intOf iv).toNat)
  case atStart => exact ⟨0, rfl, by omega, by rw [Hw0.out]; exact Below.refl _ _⟩
  case round =>
    clear x0 x1 hr0
    obtain ⟨i, rfl, hi, hB⟩ := hrel
    obtain ⟨x0, x1⟩ := HC.out _ hB
    by_cases hlt : i < n
    · have hdi : decide ((i : Int) < (n : Int)) = true := by simp; omega
      have hii : (i : Int) < (n : Int) := by omega
      obtain ⟨b, hbi⟩ := HAT.out i hlt
      obtain ⟨bb', off', va, vc, e, hrow⟩ := HD.out i b hbi
      obtain ⟨rfl, rfl⟩ : bb = bb' ∧ off = off' := by
        simp only [Option.some.injEq, Addr.mk.injEq] at e
        exact ⟨e.1, e.2.1⟩
      have hr := (hrow _ (Below.next HB0.out hB)).1
      rw [HK.out i b hbi] at hr
      have hne : ((k : Int) != (k : Int)) = false := by simp
      clear hrow hbi e
      go_wp2
      go_roundw
      case rel => exact ⟨i + 1, by go_num, by omega, hB⟩
      case measure => simp [intOf]; omega
    · have hdi : decide ((i : Int) < (n : Int)) = false := by simp; omega
      obtain rfl : i = n := by omega
      clear hlt hi
      go_wp2_with (go_at_call 13; refine (C28 _).mono ?_; rintro e w1 ⟨sv, rfl, hown, c1⟩; have hB1 := Below.next hB c1)
      obtain ⟨g, hCu0⟩ := cur_start hown
      replace hCu0 : Cur w0.heap.size t g sv w1 fun x => x := by
        rcases hCu0 with h | ⟨q1, q2, q3⟩
        · exact .inl h
        · exact .inr ⟨q1, Nat.le_trans hB.size q2, q3⟩
      obtain ⟨sa, sc, rfl⟩ := hCu0.slice
      have hRs0 : Rs v 0 (fl t fun x => x) := by rw [fl_id]; exact rs_range (by omega)
      have HLS0 : Hid (LvS v t B (-1) (fl t fun x => x)) := .inl ⟨rfl, fun s' a1 a2 => by rw [fl_id]; exact range_least a1 a2⟩
      clear hown c1 hB x0 x1
      go_loopw [10] (fun lv wr => ∃ (f : Nat → Nat) (lam : Int), lv = .int .i64 lam ∧ Cur w0.heap.size t g (.slice sa t sc) wr f ∧ Rs v 0 (fl t f) ∧ Hid (LvS v t B lam (fl t f)) ∧ Below w0.heap.size w0 wr) (fun _ wr => 41 ^ 4 - vlN (rdN wr g t))
      case atStart => exact ⟨_, -1, rfl, hCu0, hRs0, HLS0, hB1⟩
      case round =>
        clear hCu0 hRs0 HLS0 hB1
        obtain ⟨f, lam, rfl, hCu, hRs, HLS, hB⟩ := hrel
        obtain ⟨x0, x1⟩ := HC.out _ hB
        have HRS : Hid (Rs v 0 (fl t f)) := hRs
        have HRD : Hid (rdN wr g t = fl t f) := hCu.rd
        obtain ⟨w2, Hw2⟩ : ∃ w2 : World, Hid (w2 = wr) := ⟨_, rfl⟩
        have HCU : Hid (Cur w0.heap.size t g (.slice sa t sc) w2 f) := by rw [Hw2.out]; exact hCu
        have HB2 : Hid (Below w0.heap.size w0 w2) := by rw [Hw2.out]; exact hB
        obtain ⟨s, Hs⟩ : ∃ s, Hid (fl t f = s) := ⟨_, rfl⟩
        have HSL : Hid (∀ W, Below w2.heap.size w2 W → Sl W (.slice sa t sc) (s.map Int.ofNat)) := fun W b => by rw [← Hs.out]; exact (HCU.out.below b).sl
        have hsl : Hid (s.length = t) := by rw [← Hs.out]; exact fl_len t f
        clear hCu hRs
        go_wp2
        go_loopw [11, 12] (fun cv iv wr' => ∃ c j : Nat, cv = .int .i64 (c : Int) ∧ iv = .int .i64 (j : Int) ∧ j ≤ i ∧ c ≤ j ∧ Hid (((B.take j).countP fun b => s.all fun x => b.contains x) = c) ∧ Below w2.heap.size w2 wr') (fun _ iv _ => (i - intOf iv).toNat)
        case atStart => exact ⟨0, 0, rfl, rfl, by omega, by omega, rfl, by rw [Hw2.out]; exact Below.refl _ _⟩
        case round =>
          clear x0 x1 hB
          obtain ⟨c, j, rfl, rfl, hj, hcj, HCN, hB3⟩ := hrel
          obtain ⟨x0, x1⟩ := HC.out _ (Below.next HB2.out hB3)
          by_cases hlj : j < i
          · have hdj : decide ((j : Int) < (i : Int)) = true := by simp; omega
            have hji : (j : Int) < (i : Int) := by omega
            obtain ⟨b, hbj⟩ := HAT.out j hlj
            obtain ⟨bb', off', va, vc, e, hrow⟩ := HD.out j b hbj
            obtain ⟨rfl, rfl⟩ : bb = bb' ∧ off = off' := by
              simp only [Option.some.injEq, Addr.mk.injEq] at e
              exact ⟨e.1, e.2.1⟩
            obtain ⟨hr, hrs⟩ := hrow _ (Below.next HB0.out (Below.next HB2.out hB3))
            have hb40 := HBL.out b (List.mem_of_getElem? hbj)
            have CA := all_any b s _ _ _ _ hrs (HSL.out _ hB3) (by omega) (by rw [hsl.out]; omega) rfl
            have HCN2 : Hid (((B.take (j + 1)).countP fun b => s.all fun x => b.contains x) = c + if (s.all fun x => b.contains x) = true then 1 else 0) := by show _ = _; rw [take_count B _ hbj, HCN.out]
            generalize (s.all fun x => b.contains x) = q at *
            generalize b.length = bl at *
            clear hrow hbj e hrs HCN
            cases q with
            | true =>
              go_wp2_with (go_at_call 14; refine CA.mono ?_; rintro e w4 ⟨rfl, hw⟩; replace hw := hw.symm; subst hw; clear CA)
              go_roundw
              case rel => exact ⟨c + 1, j + 1, by go_num, by go_num, by omega, by omega, HCN2.out, hB3⟩
              case measure => simp [intOf]; omega
            | false =>
              go_wp2_with (go_at_call 14; refine CA.mono ?_; rintro e w4 ⟨rfl, hw⟩; replace hw := hw.symm; subst hw; clear CA)
              go_roundw
              case rel => exact ⟨c, j + 1, rfl, by go_num, by omega, by omega, HCN2.out, hB3⟩
              case measure => simp [intOf]; omega
          · have hdj : decide ((j : Int) < (i : Int)) = false := by simp; omega
            obtain rfl : j = i := by omega
            have hN : nb B s = c := by rw [HNB.out]; exact HCN.out
            have HN : Hid (nb B s = c) := hN
            have hCu3 := HCU.out.below hB3
            have CN := NextSet_cur v w0.heap.size t g _ f wr h4 hv40 htv HRS.out hCu3
            have hB4 := Below.next HB2.out hB3
            have hmin : min w0.heap.size wr.heap.size = w0.heap.size := by have := hB4.size; omega
            rw [hmin] at CN
            have h41 : ∀ s', Rs v 0 s' → ∀ x ∈ s', x < 41 := fun s' h x hx => by have := (Rs.mem h x hx).2; omega
            have HME : Hid (∀ f' W, nx v (fl t f) = some (fl t f') → Cur w0.heap.size t g (.slice sa t sc) W f' → Rs v 0 (fl t f') ∧ 41 ^ 4 - vlN (rdN W g t) < 41 ^ 4 - vlN (fl t f)) := fun f' W hn hc => by
              obtain ⟨q1, q2, q3, _⟩ := nx_some HRS.out hn
              refine ⟨q1, ?_⟩
              rw [hc.rd]
              have a1 := vlN_llt (h41 _ HRS.out) (h41 _ q1) q2.symm q3
              have a2 := vlN_lt (h41 _ q1)
              rw [fl_len] at a2
              have a3 : 41 ^ t ≤ 41 ^ 4 := Nat.pow_le_pow_right (by decide) h4
              omega
            clear hlj hN hmin h41 hB3 hCu3
            rw [Hs.out] at HLS HRS HME CN HRD
            cases hnx : nx v s with
            | none =>
              have CN' : Calls Try.prog 15 #[.slice sa t sc, .int .i64 (v : Int)] wr fun e w' => e = .returned (.bool false) ∧ Below w0.heap.size wr w' := CN.mono (by
                rintro e w' ⟨h, b⟩
                refine ⟨?_, b⟩
                rcases h with ⟨f', _, h, _⟩ | ⟨h, _⟩
                · rw [hnx] at h; cases h
                · exact h)
              have HDN : Hid ((lam = -1 ∨ lam = c) → Lev v B t c) := fun hl => HLS.out.done HRS.out hsl.out hl HN.out hnx
              clear CN HME hnx
              rcases HLS.out with ⟨hl, _⟩ | ⟨l, hl, hl200, _, _⟩
              · have HLV : Hid (Lev v B t c) := HDN.out (.inl hl)
                subst hl
                clear HDN
                go_wp2_with (go_at_call 15; refine CN'.mono ?_; rintro e w5 ⟨rfl, b5⟩; clear CN')
                exact bodyPost_ret (v := .tuple #[.int .i64 (k : Int), .int .i64 (c : Int), .int .i64 0]) (by simp [results, Try.results8, go_sem]) rfl ⟨.inl ⟨c, rfl, HLV.out⟩, Below.next HB0.out (hB4.trans b5)⟩
              · subst hl
                have hd0 : decide ((0 : Int) ≤ (l : Int)) = true := by simp
                by_cases hcl : c = l
                · subst hcl
                  have HLV : Hid (Lev v B t c) := HDN.out (.inr rfl)
                  have hne : ((c : Int) != (c : Int)) = false := by simp
                  clear HDN
                  go_wp2_with (go_at_call 15; refine CN'.mono ?_; rintro e w5 ⟨rfl, b5⟩; clear CN')
                  exact bodyPost_ret (v := .tuple #[.int .i64 (k : Int), .int .i64 (c : Int), .int .i64 0]) (by simp [results, Try.results8, go_sem]) rfl ⟨.inl ⟨c, rfl, HLV.out⟩, Below.next HB0.out (hB4.trans b5)⟩
                · have HNO : Hid (¬ ∃ m, Lev v B t m) := HLS.out.no HRS.out hsl.out (by rw [HN.out]; exact hcl)
                  have hne : ((c : Int) != (l : Int)) = true := bne_iff_ne.2 (by omega)
                  clear HDN hcl
                  go_wp2
                  exact bodyPost_ret (v := .tuple #[.int .i64 0, .int .i64 0, .int .i64 4]) (by simp [results, Try.results8, go_sem]) rfl ⟨.inr ⟨rfl, HNO.out⟩, Below.next HB0.out hB4⟩
            | some s2 =>
              have CN' : Calls Try.prog 15 #[.slice sa t sc, .int .i64 (v : Int)] wr fun e w' => (∃ f', e = .returned (.bool true) ∧ s2 = fl t f' ∧ Cur w0.heap.size t g (.slice sa t sc) w' f') ∧ Below w0.heap.size wr w' := CN.mono (by
                rintro e w' ⟨h, b⟩
                refine ⟨?_, b⟩
                rcases h with ⟨f', h1, h, h2⟩ | ⟨_, h⟩
                · rw [hnx] at h; exact ⟨f', h1, Option.some.inj h, h2⟩
                · rw [hnx] at h; cases h)
              have HNX : Hid (nx v s = some s2) := hnx
              have HGO : Hid ((lam = -1 ∨ lam = c) → LvS v t B (c : Int) s2) := fun hl => HLS.out.next HRS.out hsl.out hl HN.out (by omega) hnx
              clear CN hnx
              rcases HLS.out with ⟨hl, _⟩ | ⟨l, hl, hl200, _, _⟩
              · have HGL : Hid (LvS v t B (c : Int) s2) := HGO.out (.inl hl)
                subst hl
                clear HGO
                go_wp2_with (go_at_call 15; refine CN'.mono ?_; rintro e w5 ⟨⟨f', rfl, h2, hCu5⟩, b5⟩; have H5 : Hid (s2 = fl t f' ∧ Cur w0.heap.size t g (.slice sa t sc) w5 f') := ⟨h2, hCu5⟩; clear CN' h2 hCu5)
                go_roundw
                case rel =>
                  obtain ⟨h2, hCu5⟩ := H5.out
                  exact ⟨f', (c : Int), rfl, hCu5, (HME.out f' w5 (by rw [← h2]; exact HNX.out) hCu5).1, (by rw [← h2]; exact HGL.out : LvS v t B (c : Int) (fl t f')), hB4.trans b5⟩
                case measure =>
                  obtain ⟨h2, hCu5⟩ := H5.out
                  have := (HME.out f' w5 (by rw [← h2]; exact HNX.out) hCu5).2
                  rw [← HRD.out] at this
                  exact this
              · subst hl
                have hd0 : decide ((0 : Int) ≤ (l : Int)) = true := by simp
                by_cases hcl : c = l
                · subst hcl
                  have HGL : Hid (LvS v t B (c : Int) s2) := HGO.out (.inr rfl)
                  have hne : ((c : Int) != (c : Int)) = false := by simp
                  clear HGO
                  go_wp2_with (go_at_call 15; refine CN'.mono ?_; rintro e w5 ⟨⟨f', rfl, h2, hCu5⟩, b5⟩; have H5 : Hid (s2 = fl t f' ∧ Cur w0.heap.size t g (.slice sa t sc) w5 f') := ⟨h2, hCu5⟩; clear CN' h2 hCu5)
                  go_roundw
                  case rel =>
                    obtain ⟨h2, hCu5⟩ := H5.out
                    exact ⟨f', (c : Int), rfl, hCu5, (HME.out f' w5 (by rw [← h2]; exact HNX.out) hCu5).1, (by rw [← h2]; exact HGL.out : LvS v t B (c : Int) (fl t f')), hB4.trans b5⟩
                  case measure =>
                    obtain ⟨h2, hCu5⟩ := H5.out
                    have := (HME.out f' w5 (by rw [← h2]; exact HNX.out) hCu5).2
                    rw [← HRD.out] at this
                    exact this
                · have HNO : Hid (¬ ∃ m, Lev v B t m) := HLS.out.no HRS.out hsl.out (by rw [HN.out]; exact hcl)
                  have hne : ((c : Int) != (l : Int)) = true := bne_iff_ne.2 (by omega)
                  clear HGO hcl
                  go_wp2
                  exact bodyPost_ret (v := .tuple #[.int .i64 0, .int .i64 0, .int .i64 4]) (by simp [results, Try.results8, go_sem]) rfl ⟨.inr ⟨rfl, HNO.out⟩, Below.next HB0.out hB4⟩
end Go.Proofs.Ytnnopfdckillpaa
