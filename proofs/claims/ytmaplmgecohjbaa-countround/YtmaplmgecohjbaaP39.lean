/- The walk of cycles. -/
import Derived.Test.YtmaplmgecohjbaaPCyc
namespace Go.Proofs.Ytmaplmgecohjbaa
open Go.RowKit

set_option maxRecDepth 100000 in
set_option maxHeartbeats 2000000 in
theorem cycles_any (n : Nat) (f : Nat → Nat) (v : Value) (w : World) (hn : n ≤ 12) (hv : Sl w v (pl n f)) (P : Pm n f) :
    Calls Try.prog 93 #[v] w fun e w' => ∃ x, e = .returned x ∧ CycR w' (w.heap.size + 1) x (cycs n f n) ∧ Below w.heap.size w w' := by
  obtain ⟨i3, hi, hz0, hz1, hz2⟩ := info3
  obtain ⟨i22, hi', hz0', hz1', hz2'⟩ := info22
  obtain ⟨a, ca, rfl, hcv⟩ := hv
  rw [pl_len] at hcv ⊢
  have HV : Hid (∀ j, j < n → ∃ B off, a = some ⟨B, off, none⟩ ∧ w.cell? ⟨B, off + j, none⟩ = some (.int .i64 (f j : Int))) := fun j hj => by
    have := hcv j hj; rw [pl_at f hj] at this; exact this
  have HP : Hid (Pm n f) := P
  clear hcv P
  have hb0 := BRow.made0 w
  have hB0 : Below w.heap.size w (w.alloc (.cells #[.bool false, .bool false, .bool false, .bool false, .bool false, .bool false, .bool false, .bool false, .bool false, .bool false, .bool false, .bool false] 121)) := balloc w _
  have hS0 : (w.alloc (.cells #[.bool false, .bool false, .bool false, .bool false, .bool false, .bool false, .bool false, .bool false, .bool false, .bool false, .bool false, .bool false] 121)).heap.size = w.heap.size + 1 := by simp
  go_enter Try.func93, Try.ntmps93
  go_wp2
  go_loopw [3, 10] (fun o i wr => ∃ (k : Nat) (m : Nat → Bool), i = .int .i64 k ∧ k ≤ n ∧ BRow wr w.heap.size m ∧ Hid (∀ x : Nat, x < n → (m x = true ↔ ∃ i j, i < k ∧ itr f j i = x)) ∧ CycR wr (w.heap.size + 1) o (cycs n f k) ∧ w.heap.size + 1 ≤ wr.heap.size ∧ Below w.heap.size w wr) (fun _ i _ => (n - intOf i).toNat)
  case atStart => exact ⟨0, _, rfl, by omega, hb0, (fun x _ => ⟨fun h => by simp at h, fun ⟨i, j, h, _⟩ => by omega⟩ : ∀ x : Nat, x < n → _), CycR.nil _ _, by omega, hB0⟩
  case round =>
    clear hb0 hB0 hS0
    obtain ⟨k, m, rfl, hk, hbr, HM, hR, hsz, hB⟩ := hrel
    by_cases hlt : k < n
    · have hki : (k : Int) < n := by omega
      have hk12 : (k : Int) < 12 := by omega
      have hdec : decide ((k : Int) < n) = true := by simp; omega
      have hmk := met_zero HM.out HP.out hlt
      have hcs := cycs_succ n f k
      cases hl : leadB n f k with
      | false =>
        rw [hl] at hmk hcs
        have hck := hbr.cell k (by omega)
        rw [hmk] at hck
        simp only [Bool.not_false] at hck
        rw [if_neg (by simp), List.append_nil] at hcs
        have HCS : Hid (cycs n f (k + 1) = cycs n f k) := hcs
        clear hcs
        go_wp2
        refine wp_loop_rounds 1 ?_
        rw [rounds_succ]
        go_wp2
        go_roundw
        case rel =>
          refine ⟨k + 1, m, by go_num, by omega, hbr, ?_, by rw [HCS.out]; exact hR, hsz, hB⟩
          intro x hx
          rw [HM.out x hx]
          constructor
          · rintro ⟨i, j, h1, h2⟩; exact ⟨i, j, by omega, h2⟩
          · rintro ⟨i, j, h1, h2⟩
            by_cases e : i = k
            · subst e
              obtain ⟨i', j', h3, h4⟩ := (HM.out i hlt).1 hmk
              exact ⟨i', j + j', h3, by rw [itr_add, h4, h2]⟩
            · exact ⟨i, j, by omega, h2⟩
        case measure => simp [intOf]; omega
      | true =>
        rw [hl, if_pos rfl] at hcs
        have HCS : Hid (cycs n f (k + 1) = cycs n f k ++ [cycL f k]) := hcs
        have HL : Hid (leadB n f k = true) := hl
        obtain ⟨p, Hp⟩ : ∃ p, Hid (per f k = p) := ⟨_, rfl⟩
        have hper := (HP.out.per hlt).1
        rw [Hp.out] at hper
        have hp1 : 1 ≤ p := hper.1
        have hp2 : p ≤ n := hper.2.1
        have HR : Hid (itr f p k = k) := hper.2.2
        clear hper hcs hl hmk
        go_wp2
        obtain ⟨wo, rfl⟩ : ∃ wo, wo = wr := ⟨_, rfl⟩
        go_loopw [6, 7] (fun c x wr => ∃ (q t : Nat) (m' : Nat → Bool), x = .int .i64 t ∧ q ≤ p ∧ Hid (t = itr f q k) ∧ t < n ∧ wr.ownsRow wo.heap.size 3 1 c q ((pl q fun j => itr f j k).map (Value.int .i64)) ∧ BRow wr w.heap.size m' ∧ Hid (∀ x : Nat, x < n → (m' x = true ↔ m x = true ∨ ∃ j, j < q ∧ itr f j k = x)) ∧ Kp w.heap.size wo wr ∧ Below w.heap.size w wr) (fun c _ _ => p - sliceLen c)
        case atStart => exact ⟨0, k, m, rfl, by omega, (rfl : k = itr f 0 k), hlt, World.ownsRow_nil _ _ _ _, hbr, (fun x _ => ⟨fun h => .inl h, fun h => h.elim id (fun ⟨j, h, _⟩ => by omega)⟩ : ∀ x : Nat, x < n → _), Kp.refl _ _, hB⟩
        case round =>
          clear hB hbr
          obtain ⟨q, t, m', rfl, hq, HT, htn, hown, hbr, HM', hK, hB⟩ := hrel
          have ht12 : (t : Int) < 12 := by omega
          have htni : (t : Int) < n := by omega
          have hct := hbr.cell t (by omega)
          have hft := hbr.frozen t
          have hKs := hK.1
          by_cases hqp : q < p
          · have hmt : m' t = false := by
              rw [Bool.eq_false_iff]
              intro h
              rcases (HM'.out t htn).1 h with h1 | ⟨j, h1, h2⟩
              · rw [HT.out] at h1
                exact met_in HP.out hlt HL.out ((HM.out _ (HP.out.itr_lt hlt q)).1 h1)
              · rw [HT.out] at h2
                have := HP.out.itr_ne hlt (by rw [Hp.out]; omega) (by rw [Hp.out]; exact hqp) h2
                omega
            rw [hmt] at hct
            obtain ⟨B, off, rfl, hca⟩ := HV.out t htn
            obtain ⟨t', Ht'⟩ : ∃ t', Hid (f t = t') := ⟨_, rfl⟩
            rw [Ht'.out] at hca
            have ht'n : t' < n := by rw [← Ht'.out]; exact HP.out.lt t htn
            have hBw : B < w.heap.size := by simpa using block_lt_of_cell hca
            have hbr2 := hbr.set t
            have hK2 : Kp w.heap.size wo (wr.setCell ⟨w.heap.size, t, none⟩ (.bool true)) := hK.trans (Kp.set _ _ _ _)
            have hB2 : Below w.heap.size w (wr.setCell ⟨w.heap.size, t, none⟩ (.bool true)) := hB.setCell (p := ⟨w.heap.size, t, none⟩) (Nat.le_refl _) _
            have hown2 := own_other hown ⟨w.heap.size, t, none⟩ (.bool true) (by simp; omega)
            have hs2 : (wr.setCell ⟨w.heap.size, t, none⟩ (.bool true)).heap.size = wr.heap.size := by simp
            clear hown hbr hB hK
            go_wp2_with (first
              | (at_builtin; refine wpList_append_own _ rfl _ _ 40 rfl wo.heap.size 3 i3 (.int .i64 0) 1 8 und22 hi hz0 hz1 hz2 rfl (by decide) _ _ _ rfl (hown2.alloc _) ⟨wr.heap.size, 0, none⟩ 1 1 [.int .i64 (t : Int)] rfl rfl ?c1 ?c2 ?c3 ?c4 ?c5 ?_)
              | go_in)
            case c1 =>
              intro j u hj
              match j, hj with
              | 0, hj => simp at hj; subst hj; exact cell_new _ _ _ _ hs2
            case c2 => intro u hu; simp at hu; subst hu; rfl
            case c3 => unfold maxLen; omega
            case c4 => omega
            case c5 => simp; omega
            intro v' w1 hown' hgrow _
            have hU : Below wo.heap.size (wr.setCell ⟨w.heap.size, t, none⟩ (.bool true)) w1 := ((Below.refl _ _).alloc (by omega) _).grown hgrow (by simp; omega) (fun k hk => (hown2.lt k hk).1)
            have hK3 := hK2.under (Nat.le_refl _) hU
            have hB3 : Below w.heap.size w w1 := hB2.trans (hU.mono (by omega))
            have hbr3 : BRow w1 w.heap.size (updB m' t) := (hU.block w.heap.size (by omega)).trans hbr2
            have hca3 := (hB3.cell (p := ⟨B, off + t, none⟩) hBw).trans hca
            clear hU hgrow hK2 hB2 hbr2 hct
            go_wp2
            go_roundw
            case rel =>
              refine ⟨q + 1, t', updB m' t, rfl, by omega, ?_, ht'n, ?_, hbr3, ?_, hK3, hB3⟩
              · show t' = f (itr f q k)
                rw [← HT.out, Ht'.out]
              · rw [pl_succ, List.map_append]
                rw [HT.out] at hown'
                exact hown'
              · intro x hx
                unfold updB
                by_cases e : x = t
                · subst e
                  rw [if_pos rfl]
                  exact ⟨fun _ => .inr ⟨q, by omega, HT.out.symm⟩, fun _ => rfl⟩
                · rw [if_neg e, HM'.out x hx]
                  constructor
                  · rintro (h | ⟨j, h1, h2⟩)
                    · exact .inl h
                    · exact .inr ⟨j, by omega, h2⟩
                  · rintro (h | ⟨j, h1, h2⟩)
                    · exact .inl h
                    · refine .inr ⟨j, ?_, h2⟩
                      have : j ≠ q := fun e' => e (by rw [← h2, e', HT.out])
                      omega
            case measure =>
              have e1 := sliceLen_own hown'
              have e2 := sliceLen_own hown2
              rw [e1, e2]; omega
          · obtain rfl : q = p := by omega
            obtain rfl : t = k := by rw [HT.out, HR.out]
            have hmt : m' t = true := (HM'.out t htn).2 (.inr ⟨0, by omega, rfl⟩)
            rw [hmt] at hct
            obtain ⟨g, cap, rfl, hgg, hO⟩ := Own.of (l := pl q fun j => itr f j t) hown (by omega)
            obtain ⟨vals, hv1, hv2⟩ := hR.kp hK (by omega)
            have hqi : (0 : Int) < q := by omega
            have hrow : RowIs wr (w.heap.size + 1) (.slice (some ⟨g, 0, none⟩) (cycL f t).length cap) (cycL f t) := by
              refine ⟨g, cap, rfl, by omega, ?_⟩
              rw [cycL_length, Hp.out]
              refine hO.congr fun j hj => ?_
              rw [pl_at _ hj]
              simp [cycL, Hp.out, hj]
            rw [cycL_length, Hp.out] at hrow
            have hsw := hB.size
            have hcl : (cycs n f t).length ≤ t := by unfold cycs leads; rw [List.length_map]; have := List.length_filter_le (leadB n f) (List.range t); rwa [List.length_range] at this
            go_wp2_with (first
              | (at_builtin; refine wpList_append_own _ rfl _ _ 28 rfl _ 40 i22 (.slice none 0 0) 1 24 und54 hi' hz0' hz1' hz2' rfl (by decide) _ _ _ rfl (hv1.alloc _) ⟨wr.heap.size, 0, none⟩ 1 1 [.slice (some ⟨g, 0, none⟩) q cap] rfl rfl ?c1 ?c2 ?c3 ?c4 ?c5 ?_)
              | go_in)
            case c1 =>
              intro j u hj
              match j, hj with
              | 0, hj => simp at hj; subst hj; simp [Addr.add]
            case c2 => intro u hu; simp at hu; subst hu; rfl
            case c3 => unfold maxLen; omega
            case c4 => omega
            case c5 => simp; omega
            intro v' w8 hown8 hgrow8 _
            have hB8 : Below w.heap.size w w8 := (hB.alloc hsw _).grown hgrow8 (by simp; omega) (fun k hk => by have := (hv1.lt k hk).1; omega)
            have hU8 : Below (w.heap.size + 1) wr w8 := ((Below.refl _ _).alloc (by omega) _).grown hgrow8 (by simp; omega) (fun k hk => (hv1.lt k hk).1)
            have hka : Kp w.heap.size wr (wr.alloc (.cells #[.slice (some ⟨g, 0, none⟩) q cap] 40)) := Kp.below (balloc wr _)
            have hR8 := CycR.more (l := cycL f t) (hv1.alloc _) (fun i u l h1 h2 => (hv2 i u l h1 h2).kp hka (by omega)) (hrow.kp hka (by omega)) hown8 hgrow8
            have hbr8 : BRow w8 w.heap.size m' := (hU8.block w.heap.size (by omega)).trans hbr
            have hsz8 := hU8.size
            go_wp2
            go_roundw
            case rel =>
              refine ⟨t + 1, m', by go_num, by omega, hbr8, ?_, by rw [HCS.out]; exact hR8, by omega, hB8⟩
              intro x hx
              rw [HM'.out x hx, HM.out x hx]
              constructor
              · rintro (⟨i, j, h1, h2⟩ | ⟨j, h1, h2⟩)
                · exact ⟨i, j, by omega, h2⟩
                · exact ⟨t, j, by omega, h2⟩
              · rintro ⟨i, j, h1, h2⟩
                by_cases e : i = t
                · subst e
                  refine .inr ⟨j % q, Nat.mod_lt _ (by omega), ?_⟩
                  rw [← itr_mod_of HR.out]; exact h2
                · exact .inl ⟨i, j, by omega, h2⟩
            case measure => simp [intOf]; omega
    · obtain rfl : k = n := by omega
      have hkd : decide ((k : Int) < (k : Int)) = false := by simp
      go_wp2
      go_ret
      exact ⟨_, rfl, hR, hB⟩

end Go.Proofs.Ytmaplmgecohjbaa
