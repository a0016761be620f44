/- The document's StarterFault, walked. -/
import Derived.Test.YtpeplnojmogkfaaQ5
import Derived.Test.YtpeplnojmogkfaaRdS
import Derived.Test.YtpeplnojmogkfaaDL
import Derived.Deep.AppendLies
import Derived.Deep.RegionLaw
import Derived.Deep.QuietTactic
import Derived.BigQuiet
namespace Go.Proofs.Ytpeplnojmogkfaa
open Go.RowKit

theorem own_grown {w w' : World} {base n size : Nat} {e : TypeId} {v : Value} {xs : List Value} {ob : Option Nat} (h : w.ownsRow base e size v n xs) (hg : w.grownBy w' ob) (hne : ∀ g, v.ownBlock = some g → ob ≠ some g) : w'.ownsRow base e size v n xs := by
  obtain ⟨h3, h4 | ⟨g, cap, cur, rfl, h6, h7, h8⟩⟩ := h
  · exact ⟨h3, .inl h4⟩
  · exact ⟨h3, .inr ⟨g, cap, cur, rfl, h6, (hg.block g (Array.getElem?_eq_some_iff.1 h7).1 (fun e => hne g rfl e.symm)).trans h7, h8⟩⟩
theorem own_blk {w : World} {base n size : Nat} {e : TypeId} {v : Value} {xs : List Value} (h : w.ownsRow base e size v n xs) {g : Nat} (hg : v.ownBlock = some g) : g < w.heap.size := by
  obtain ⟨_, ⟨rfl, _⟩ | ⟨g', cap, cur, rfl, _, h7, _⟩⟩ := h
  · cases hg
  · simp only [Value.ownBlock, Option.some.injEq] at hg
    subst hg
    exact (Array.getElem?_eq_some_iff.1 h7).1
theorem alS_more (qs : List (Nat × Nat)) (p : Nat × Nat) : alS (qs ++ [p]) = alS qs ++ [p.1, p.2] := by simp [alS]
theorem dfS_more (v : Nat) (qs : List (Nat × Nat)) (p : Nat × Nat) : dfS v (qs ++ [p]) = dfS v qs ++ [(p.1 + v - p.2) % v, (p.2 + v - p.1) % v] := by simp [dfS]
theorem nz_two (l : List Nat) (x y : Nat) : nz (l ++ [x, y]) = nz l ++ [.int .i64 (x : Int), .int .i64 (y : Int)] := by simp [nz]
theorem alS_len (qs : List (Nat × Nat)) : (alS qs).length = 2 * qs.length := two_len _ _ qs
theorem dfS_len (v : Nat) (qs : List (Nat × Nat)) : (dfS v qs).length = 2 * qs.length := two_len _ _ qs
theorem sF_range {v : Int} (ps : List (List Int)) (h : v < 3 ∨ 15 < v ∨ v % 2 = 0) : sF v ps = 1 := by unfold sF; rw [if_pos h]
/-- What is told of pairs. -/
structure SfZ (v : Nat) (ps : List (List Int)) (z : Nat) : Prop where
  row : ∀ (i : Nat) l, ps[i]? = some l → (∀ (j : Nat) m, j < i → ps[j]? = some m → prF v m = 0) → prF v l ≠ 0 → z = prF v l
  ok : (∀ (j : Nat) m, ps[j]? = some m → prF v m = 0) → z = if cvB v (ps.map qO) then 0 else 6
theorem sfZ_of {v : Nat} {ps : List (List Int)} (h : ¬ ((v : Int) < 3 ∨ (15 : Int) < v ∨ (v : Int) % 2 = 0)) (h2 : (ps.length : Int) = ((v : Int) - 1) / 2) : SfZ v ps (sF v ps) := by
  unfold sF
  rw [if_neg h, if_neg (by omega), Int.toNat_natCast]
  refine ⟨fun i l hi h1 h3 => ?_, fun h1 => ?_⟩
  · rw [prsF_at hi h1 h3, if_pos h3]
  · rw [prsF_none h1, if_neg (by simp)]
theorem two_news (w : World) (x y : Int) : ∀ j u, ([Value.int .i64 x, .int .i64 y] : List Value)[j]? = some u → (w.alloc (.cells #[.int .i64 x, .int .i64 y] 3)).cell? ((⟨w.heap.size, 0, none⟩ : Addr).add j) = some u := fun j u hj => by
  have hh := heap_alloc_new w (.cells #[.int .i64 x, .int .i64 y] 3)
  match j, hj with
  | 0, hj => simp only [List.getElem?_cons_zero, Option.some.injEq] at hj; subst hj; exact (cell_of_row _ w.heap.size 0 _ _ _ hh).trans rfl
  | 1, hj => simp only [List.getElem?_cons_succ, List.getElem?_cons_zero, Option.some.injEq] at hj; subst hj; exact (cell_of_row _ w.heap.size 1 _ _ _ hh).trans rfl
set_option maxRecDepth 100000 in
set_option maxHeartbeats 16000000 in
theorem StarterFault_any (v : Int) (ps : List (List Int)) (pv : Value) (w : World) (hv : Rw w pv ps) (hll : ∀ l ∈ ps, l.length ≤ maxLen) :
    Calls Try.prog 17 #[.int .i64 v, pv] w fun e w' => e = .returned (.int .i64 (sF v ps : Int)) ∧ Below w.heap.size w w' := by
  obtain ⟨z, Hz⟩ : ∃ z, Hid (sF v ps = z) := ⟨_, rfl⟩
  have HV : Hid (∀ W, Below w.heap.size w W → Rw W pv ps) := fun W b => hv.below b
  have HLL : Hid (∀ (i : Nat) l, ps[i]? = some l → l.length ≤ maxLen) := fun i l h => hll l (List.mem_of_getElem? h)
  obtain ⟨a, cap, rfl, -⟩ := hv
  have HAT : Hid (∀ i, i < ps.length → ∃ l, ps[i]? = some l) := fun i hi => ⟨_, List.getElem?_eq_getElem hi⟩
  have HLT : Hid (∀ (i : Nat) l, ps[i]? = some l → i < ps.length) := fun i l h => (List.getElem?_eq_some_iff.1 h).1
  obtain ⟨m, Hm⟩ : ∃ m, Hid (ps.length = m) := ⟨_, rfl⟩
  by_cases h1 : v < 3 ∨ 15 < v ∨ v % 2 = 0
  · have HZ : Hid (z = 1) := by show _ = _; rw [← Hz.out]; exact sF_range ps h1
    rw [Hz.out, HZ.out]
    rw [Hm.out]
    clear HV HAT HLT HLL hll
    by_cases ha : v < 3
    · have hd : decide (v < 3) = true := by simpa using ha
      go_enter Try.func17, Try.ntmps17
      go_wp2
      go_ret
      exact ⟨rfl, Below.refl _ _⟩
    · have hd : decide (v < 3) = false := by simpa using ha
      by_cases hb : 15 < v
      · have hd2 : decide (15 < v) = true := by simpa using hb
        go_enter Try.func17, Try.ntmps17
        go_wp2
        go_ret
        exact ⟨rfl, Below.refl _ _⟩
      · have hd2 : decide (15 < v) = false := by simpa using hb
        have he : (v.tmod 2 == 0) = true := by rw [beq_iff_eq, Int.tmod_eq_emod_of_nonneg (by omega)]; omega
        go_enter Try.func17, Try.ntmps17
        go_wp2
        go_ret
        exact ⟨rfl, Below.refl _ _⟩
  · obtain ⟨V, rfl⟩ : ∃ V : Nat, v = V := ⟨v.toNat, by omega⟩
    have hd : decide ((V : Int) < 3) = false := by simp; omega
    have hd2 : decide ((15 : Int) < (V : Int)) = false := by simp; omega
    have he : ((V : Int).tmod 2 == 0) = false := by rw [beq_eq_false_iff_ne, Int.tmod_eq_emod_of_nonneg (by omega)]; omega
    have he2 : ((V : Int) % 2 == 0) = false := by rw [beq_eq_false_iff_ne]; omega
    have hV3 : 3 ≤ V := by omega
    have hV15 : V ≤ 15 := by omega
    obtain ⟨k, Hk⟩ : ∃ k : Nat, Hid ((k : Int) = ((V : Int) - 1) / 2) := ⟨(V - 1) / 2, show _ = _ by omega⟩
    have hk1 : ((V : Int) - 1) / 2 = (k : Int) := Hk.out.symm
    have hk2 : ((V : Int) - 1).tdiv 2 = (k : Int) := by rw [Int.tdiv_eq_ediv_of_nonneg (by omega)]; exact hk1
    have hk7 : k ≤ 7 := by omega
    by_cases h2 : m = k
    · have HZ : Hid (SfZ V ps z) := by show SfZ V ps z; rw [← Hz.out]; exact sfZ_of h1 (by rw [Hm.out, h2]; exact Hk.out)
      rw [Hz.out]
      rw [Hm.out] at HAT HLT ⊢
      subst h2
      have hne : ((m : Int) != (m : Int)) = false := by simp
      obtain ⟨i3, ki3, kz0, kz1, kz2⟩ := info3
      clear hll h1 Hz
      go_enter Try.func17, Try.ntmps17
      go_wp2
      go_loopw [5, 6, 7] (fun av dv iv wr => ∃ (i k : Nat) (aa da : Option Addr) (ac dc : Nat), iv = .int .i64 (i : Int) ∧ av = .slice aa k ac ∧ dv = .slice da k dc ∧ i ≤ m ∧ k ≤ 99 ∧ Hid (k = 2 * i) ∧ Hid (∀ (j : Nat) l, j < i → ps[j]? = some l → prF V l = 0) ∧ wr.ownsRow w.heap.size 3 1 (.slice aa k ac) k (nz (alS ((ps.take i).map qO))) ∧ wr.ownsRow w.heap.size 3 1 (.slice da k dc) k (nz (dfS V ((ps.take i).map qO))) ∧ Hid (∀ g, (Value.slice aa k ac).ownBlock = some g → (Value.slice da k dc).ownBlock ≠ some g) ∧ Below w.heap.size w wr) (fun _ _ iv _ => (m - intOf iv).toNat)
      case atStart => exact ⟨0, 0, none, none, 0, 0, rfl, rfl, rfl, by omega, by omega, rfl, (show ∀ (j : Nat) l, j < 0 → _ from fun j l h => by omega), World.ownsRow_nil _ _ _ _, World.ownsRow_nil _ _ _ _, (show ∀ g, (Value.slice none 0 0).ownBlock = some g → _ from fun g h => by simp [Value.ownBlock] at h), Below.refl _ _⟩
      case round =>
        obtain ⟨i, k, aa, da, ac, dc, rfl, rfl, rfl, hi, hk99, Hk, HO, ha, hdr, Hab, hB⟩ := hrel
        by_cases hlt : i < m
        · have hdi : decide ((i : Int) < (m : Int)) = true := by simp; omega
          have hii : (i : Int) < (m : Int) := by omega
          obtain ⟨l, hli⟩ := HAT.out i hlt
          obtain ⟨b, off, u, rfl, hc, hs⟩ := (HV.out wr hB).at hli rfl
          have HROW : Hid (prF V l ≠ 0 → z = prF V l) := fun h => HZ.out.row i l hli (fun j q hj hq => HO.out j q hj hq) h
          have HO2 : Hid (prF V l = 0 → ∀ (j : Nat) q, j < i + 1 → ps[j]? = some q → prF V q = 0) := fun h j q hj hq => by
            by_cases e : j = i
            · subst e; rw [hli] at hq; cases hq; exact h
            · exact HO.out j q (by omega) hq
          have HTK : Hid ((ps.take (i + 1)).map qO = (ps.take i).map qO ++ [qO l]) := by show _ = _; rw [List.take_add_one, hli, List.map_append]; rfl
          have hlm := HLL.out i l hli
          unfold maxLen at hlm
          obtain ⟨q, Hq⟩ : ∃ q, Hid (l.length = q) := ⟨_, rfl⟩
          by_cases hq2 : q = 2
          · obtain ⟨b1, o1, c1, rfl, _, hcell⟩ := hs.form (n := 2) (Hq.out.trans hq2) (by omega)
            have hx := hcell 0 (by omega)
            have hy := hcell 1 (by omega)
            rw [Nat.add_zero] at hx
            obtain ⟨x, Hx⟩ : ∃ x, Hid (l.getD 0 0 = x) := ⟨_, rfl⟩
            obtain ⟨y, Hy⟩ : ∃ y, Hid (l.getD 1 0 = y) := ⟨_, rfl⟩
            rw [Hx.out] at hx
            rw [Hy.out] at hy
            have HPF : Hid (prF V l = if x < 1 ∨ (V : Int) ≤ x ∨ y < 1 ∨ (V : Int) ≤ y then 1 else 0) := by
              show _ = _
              unfold prF
              rw [if_neg (by rw [Hq.out, hq2]; simp), Hx.out, Hy.out]
            have HQO : Hid (qO l = (x.toNat, y.toNat)) := by show _ = _; unfold qO; rw [Hx.out, Hy.out]
            clear hcell hs Hq hq2 hlm Hx Hy hli
            by_cases t1 : x < 1
            · have f1 : decide (x < 1) = true := by simpa using t1
              have HZ1 : Hid (z = 1) := by
                have : prF V l = 1 := by rw [HPF.out, if_pos (by omega)]
                show _ = _
                rw [HROW.out (by rw [this]; decide), this]
              go_wp2
              go_ret
              exact ⟨by rw [HZ1.out]; rfl, hB⟩
            · have f1 : decide (x < 1) = false := by simpa using t1
              by_cases t2 : (V : Int) ≤ x
              · have f2 : decide ((V : Int) ≤ x) = true := by simpa using t2
                have HZ1 : Hid (z = 1) := by
                  have : prF V l = 1 := by rw [HPF.out, if_pos (by omega)]
                  show _ = _
                  rw [HROW.out (by rw [this]; decide), this]
                go_wp2
                go_ret
                exact ⟨by rw [HZ1.out]; rfl, hB⟩
              · have f2 : decide ((V : Int) ≤ x) = false := by simpa using t2
                by_cases t3 : y < 1
                · have f3 : decide (y < 1) = true := by simpa using t3
                  have HZ1 : Hid (z = 1) := by
                    have : prF V l = 1 := by rw [HPF.out, if_pos (by omega)]
                    show _ = _
                    rw [HROW.out (by rw [this]; decide), this]
                  go_wp2
                  go_ret
                  exact ⟨by rw [HZ1.out]; rfl, hB⟩
                · have f3 : decide (y < 1) = false := by simpa using t3
                  by_cases t4 : (V : Int) ≤ y
                  · have f4 : decide ((V : Int) ≤ y) = true := by simpa using t4
                    have HZ1 : Hid (z = 1) := by
                      have : prF V l = 1 := by rw [HPF.out, if_pos (by omega)]
                      show _ = _
                      rw [HROW.out (by rw [this]; decide), this]
                    go_wp2
                    go_ret
                    exact ⟨by rw [HZ1.out]; rfl, hB⟩
                  · have f4 : decide ((V : Int) ≤ y) = false := by simpa using t4
                    have HO3 : Hid (∀ (j : Nat) q, j < i + 1 → ps[j]? = some q → prF V q = 0) := HO2.out (by rw [HPF.out, if_neg (by omega)])
                    obtain ⟨X, rfl⟩ : ∃ X : Nat, x = X := ⟨x.toNat, by omega⟩
                    obtain ⟨Y, rfl⟩ : ∃ Y : Nat, y = Y := ⟨y.toNat, by omega⟩
                    have HX : Hid (X < V) := show X < V by omega
                    have HY : Hid (Y < V) := show Y < V by omega
                    have hXV : X < V := HX.out
                    have hYV : Y < V := HY.out
                    obtain ⟨e1, He1⟩ : ∃ e, Hid (X + V - Y = e) := ⟨_, rfl⟩
                    obtain ⟨e2, He2⟩ : ∃ e, Hid (Y + V - X = e) := ⟨_, rfl⟩
                    obtain ⟨m1, Hm1⟩ : ∃ e, Hid (e1 % V = e) := ⟨_, rfl⟩
                    obtain ⟨m2, Hm2⟩ : ∃ e, Hid (e2 % V = e) := ⟨_, rfl⟩
                    have q1 : (X : Int) - (Y : Int) + (V : Int) = (e1 : Int) := by rw [← He1.out]; omega
                    have q2 : (Y : Int) - (X : Int) + (V : Int) = (e2 : Int) := by rw [← He2.out]; omega
                    have r1 : (e1 : Int) % (V : Int) = (m1 : Int) := by rw [← Hm1.out]; simp
                    have r2 : (e2 : Int) % (V : Int) = (m2 : Int) := by rw [← Hm2.out]; simp
                    have r1' : (e1 : Int).tmod (V : Int) = (m1 : Int) := by rw [Int.tmod_eq_emod_of_nonneg (by omega)]; exact r1
                    have r2' : (e2 : Int).tmod (V : Int) = (m2 : Int) := by rw [Int.tmod_eq_emod_of_nonneg (by omega)]; exact r2
                    have he9 : e1 ≤ 99 := by rw [← He1.out]; omega
                    have he8 : e2 ≤ 99 := by rw [← He2.out]; omega
                    have HA2 : Hid (nz (alS ((ps.take (i + 1)).map qO)) = nz (alS ((ps.take i).map qO)) ++ [.int .i64 (X : Int), .int .i64 (Y : Int)]) := by show _ = _; rw [HTK.out, HQO.out, alS_more, nz_two, Int.toNat_natCast, Int.toNat_natCast]
                    have HD2 : Hid (nz (dfS V ((ps.take (i + 1)).map qO)) = nz (dfS V ((ps.take i).map qO)) ++ [.int .i64 (m1 : Int), .int .i64 (m2 : Int)]) := by show _ = _; rw [HTK.out, HQO.out, dfS_more, nz_two]; simp only [Int.toNat_natCast]; rw [He1.out, He2.out, Hm1.out, Hm2.out]
                    have hbz := hB.size
                    clear HPF HO2 HROW HQO HTK HO
                    go_wp2_with (first
                      | (at_builtin; refine wpList_append_lies _ rfl _ _ 38 rfl w.heap.size 3 i3 (.int .i64 0) 1 8 und22 ki3 kz0 kz1 kz2 rfl (by decide) _ _ _ rfl (ha.alloc _) ⟨wr.heap.size, 0, none⟩ 2 2 [.int .i64 (X : Int), .int .i64 (Y : Int)] rfl rfl (two_news wr X Y) (fun u hu => by simp at hu; rcases hu with rfl | rfl <;> rfl) (by omega) (by unfold maxLen; omega) (by omega) (by (simp; omega)) (wr.heap.size + 1) (by simp) ?_; intro ga ca w6 hown' hgrow hl4 hlt4)
                      | go_in)
                    have hd6 := own_grown (hdr.alloc (.cells #[.int .i64 (X : Int), .int .i64 (Y : Int)] 3)) hgrow (fun g h1 h2 => Hab.out g h2 h1)
                    have Hab6 : Hid (∀ g, some ga = some g → (Value.slice da k dc).ownBlock ≠ some g) := fun g h1 h2 => by
                      rcases hl4 with e | e
                      · exact Hab.out g (e.trans h1) h2
                      · have := own_blk hdr h2
                        simp only [Option.some.injEq] at h1
                        omega
                    have hB6 : Below w.heap.size w w6 := (hB.alloc hbz _).grown hgrow (by simp; omega) (fun k hk => (ha.lt k hk).1)
                    have hb6z := hB6.size
                    rw [← HA2.out] at hown'
                    have hV0 : ¬ V = 0 := by omega
                    have r1w : (IntKind.i64.wrap (IntKind.i64.wrap ((X : Int) - (Y : Int)) + (V : Int))).tmod (V : Int) = (m1 : Int) := by
                      rw [show IntKind.i64.wrap ((X : Int) - (Y : Int)) = (X : Int) - (Y : Int) by rw [IntKind.wrap_i64]; omega, show IntKind.i64.wrap ((X : Int) - (Y : Int) + (V : Int)) = (e1 : Int) by rw [IntKind.wrap_i64]; omega]; exact r1'
                    have r2w : (IntKind.i64.wrap (IntKind.i64.wrap ((Y : Int) - (X : Int)) + (V : Int))).tmod (V : Int) = (m2 : Int) := by
                      rw [show IntKind.i64.wrap ((Y : Int) - (X : Int)) = (Y : Int) - (X : Int) by rw [IntKind.wrap_i64]; omega, show IntKind.i64.wrap ((Y : Int) - (X : Int) + (V : Int)) = (e2 : Int) by rw [IntKind.wrap_i64]; omega]; exact r2'
                    clear ha hdr Hab hgrow hl4 hB hc hx hy t1 t2 t3 t4
                    go_wp2
                    go_region_law (refine step_append_lies _ rfl (.tmp 75) (.tmp 90) 38 rfl w.heap.size 3 i3 (.int .i64 0) 1 8 und22 ki3 kz0 kz1 kz2 rfl (by decide) _ k _ (by simp [Act.eval]) (hd6.alloc _) ⟨w6.heap.size, 0, none⟩ 2 2 [.int .i64 (m1 : Int), .int .i64 (m2 : Int)] (by simp [Act.eval]) rfl (two_news w6 m1 m2) (fun u hu => by simp at hu; rcases hu with rfl | rfl <;> rfl) (by omega) (by unfold maxLen; omega) (by omega) (by (simp; omega)) (w6.heap.size + 1) (by simp) ?_; intro gd cd w7 hown7 hgrow7 hl7 hlt7)
                    all_goals
                      have hA6 : (w6.alloc (.cells #[.int .i64 (m1 : Int), .int .i64 (m2 : Int)] 3)).drew.ownsRow w.heap.size 3 1 (.slice (some ⟨ga, 0, none⟩) (k + 2) ca) (k + 2) (nz (alS ((ps.take (i + 1)).map qO))) := hown'.alloc _
                      have hA7 := own_grown hA6 hgrow7 (fun g h1 => Hab6.out g h1)
                      have Hab7 : Hid (∀ g, (Value.slice (some ⟨ga, 0, none⟩) (k + 2) ca).ownBlock = some g → (Value.slice (some ⟨gd, 0, none⟩) (k + 2) cd).ownBlock ≠ some g) := fun g h1 h2 => by
                        simp only [Value.ownBlock, Option.some.injEq] at h1 h2
                        rcases hl7 with e | e
                        · exact Hab6.out g (by rw [h1]) (by rw [e, h2])
                        · omega
                      have hB7 : Below w.heap.size w w7 := ((hB6.alloc hb6z _).drew).grown hgrow7 (by simp; omega) (fun k hk => (hd6.lt k hk).1)
                      rw [← HD2.out] at hown7
                      have Hk2 : Hid (k + 2 = 2 * (i + 1)) := by show _ = _; rw [Hk.out]; omega
                      have hk9 : k + 2 ≤ 99 := by rw [Hk.out]; omega
                      clear hown' hd6 hgrow7 hl7 Hab6 r1 r2 r1' r2' r1w r2w q1 q2
                      go_wp2
                      go_roundw
                      case rel => exact ⟨i + 1, k + 2, some ⟨ga, 0, none⟩, some ⟨gd, 0, none⟩, ca, cd, by go_num, rfl, rfl, by omega, hk9, Hk2, HO3, hA7, hown7, Hab7, hB7⟩
                      case measure => simp [intOf]; omega
          · have HZ1 : Hid (z = 2) := by
              have : prF V l = 2 := by unfold prF; rw [if_pos (by rw [Hq.out]; exact hq2)]
              show _ = _
              rw [HROW.out (by rw [this]; decide), this]
            obtain ⟨ua, uc, rfl⟩ := hs.dest
            rw [Hq.out] at hc hlm
            have hne2 : ((q : Int) != 2) = true := by simp; omega
            clear hs
            go_wp2
            go_ret
            exact ⟨by rw [HZ1.out]; rfl, hB⟩
        · have hdi : decide ((i : Int) < (m : Int)) = false := by simp; omega
          have hdin : decide (i < m) = false := by simp; omega
          have him : i = m := by omega
          have HA : Hid (∀ (j : Nat) l, ps[j]? = some l → prF V l = 0) := fun j l h => HO.out j l (by have := HLT.out j l h; omega) h
          have HTK : Hid (ps.take i = ps) := by show _ = _; rw [him]; exact List.take_of_length_le (by rw [Hm.out]; omega)
          obtain ⟨qs, Hqs⟩ : ∃ qs, Hid (ps.map qO = qs) := ⟨_, rfl⟩
          have hZ := HZ.out.ok HA.out
          rw [HTK.out, Hqs.out] at ha hdr
          rw [Hqs.out] at hZ
          have Hal : Hid ((alS qs).length = k) := by show _ = _; rw [alS_len, ← Hqs.out, List.length_map, Hm.out, Hk.out, him]
          have Hdl : Hid ((dfS V qs).length = k) := by show _ = _; rw [dfS_len, ← Hqs.out, List.length_map, Hm.out, Hk.out, him]
          obtain ⟨w5, hw5⟩ : ∃ w5 : World, w5 = wr := ⟨_, rfl⟩
          subst hw5
          have HSA : Hid (∀ W, Below w5.heap.size w5 W → Sl W (.slice aa k ac) ((alS qs).map Int.ofNat)) := fun W b => (Sl.owned (by rw [List.length_map, Hal.out]; exact ha)).below b
          have HSD : Hid (∀ W, Below w5.heap.size w5 W → Sl W (.slice da k dc) ((dfS V qs).map Int.ofNat)) := fun W b => (Sl.owned (by rw [List.length_map, Hdl.out]; exact hdr)).below b
          have HZ6 : Hid (∀ x, 1 ≤ x → x < V → ((alS qs).contains x && (dfS V qs).contains x) = false → z = 6) := fun x h1 h2 h3 => by
            rw [hZ, if_neg]
            intro hc
            obtain ⟨c1, c2⟩ := cvB_iff.1 hc
            rw [List.contains_iff_mem.2 (c1 x h1 h2), List.contains_iff_mem.2 (c2 x h1 h2)] at h3
            cases h3
          have HZ0 : Hid ((∀ x, 1 ≤ x → x < V → ((alS qs).contains x && (dfS V qs).contains x) = true) → z = 0) := fun h => by
            rw [hZ, if_pos]
            refine cvB_iff.2 ⟨fun x h1 h2 => ?_, fun x h1 h2 => ?_⟩
            · have := h x h1 h2
              rw [Bool.and_eq_true] at this
              exact List.contains_iff_mem.1 this.1
            · have := h x h1 h2
              rw [Bool.and_eq_true] at this
              exact List.contains_iff_mem.1 this.2
          clear ha hdr Hab hZ HTK Hqs HO him Hk hi
          go_wp2
          go_loopw [10] (fun xv wr' => ∃ x : Nat, xv = .int .i64 (x : Int) ∧ 1 ≤ x ∧ x ≤ V ∧ Hid (∀ y, 1 ≤ y → y < x → ((alS qs).contains y && (dfS V qs).contains y) = true) ∧ Below w5.heap.size w5 wr') (fun xv _ => (V - intOf xv).toNat)
          case atStart => exact ⟨1, rfl, by omega, by omega, (show ∀ y, 1 ≤ y → y < 1 → _ from fun y h1 h2 => by omega), Below.refl _ _⟩
          case round =>
            obtain ⟨x, rfl, hx1, hx, HX, hB2⟩ := hrel
            by_cases hlx : x < V
            · have hdx : decide ((x : Int) < (V : Int)) = true := by simp; omega
              have hxi : (x : Int) < (V : Int) := by omega
              obtain ⟨p, Hp⟩ : ∃ p, Hid ((alS qs).contains x = p) := ⟨_, rfl⟩
              obtain ⟨q, Hq⟩ : ∃ q, Hid ((dfS V qs).contains x = q) := ⟨_, rfl⟩
              have C1 := Lies_any (alS qs) x p _ wr (HSA.out wr hB2) (by rw [Hal.out]; exact hk99) Hp.out
              have C2 := Lies_any (dfS V qs) x q _ wr (HSD.out wr hB2) (by rw [Hdl.out]; exact hk99) Hq.out
              by_cases hpq : (p && q) = true
              · obtain ⟨rfl, rfl⟩ : p = true ∧ q = true := by simpa using hpq
                have HX2 : Hid (∀ y, 1 ≤ y → y < x + 1 → ((alS qs).contains y && (dfS V qs).contains y) = true) := fun y h1 h2 => by
                  by_cases e : y = x
                  · rw [e, Hp.out, Hq.out]; rfl
                  · exact HX.out y h1 (by omega)
                clear hpq
                go_wp2_with (first
                  | (go_at_call 35; refine C1.mono ?_; rintro e w6 ⟨rfl, hw⟩; replace hw := hw.symm; subst hw; clear C1)
                  | (go_at_call 35; refine C2.mono ?_; rintro e w6 ⟨rfl, hw⟩; replace hw := hw.symm; subst hw; clear C2))
                go_roundw
                case rel => exact ⟨x + 1, by go_num, by omega, by omega, HX2, hB2⟩
                case measure => simp [intOf]; omega
              · have hpq2 : (p && q) = false := by simpa using hpq
                have HZ1 : Hid (z = 6) := HZ6.out x hx1 hlx (by rw [Hp.out, Hq.out]; exact hpq2)
                clear hpq Hp Hq
                cases p with
                | false =>
                  clear hpq2
                  go_wp2_with (first
                    | (go_at_call 35; refine C1.mono ?_; rintro e w6 ⟨rfl, hw⟩; replace hw := hw.symm; subst hw; clear C1)
                    | (go_at_call 35; refine C2.mono ?_; rintro e w6 ⟨rfl, hw⟩; replace hw := hw.symm; subst hw; clear C2))
                  go_ret
                  exact ⟨by rw [HZ1.out]; rfl, Below.next hB hB2⟩
                | true =>
                  obtain rfl : q = false := by simpa using hpq2
                  clear hpq2
                  go_wp2_with (first
                    | (go_at_call 35; refine C1.mono ?_; rintro e w6 ⟨rfl, hw⟩; replace hw := hw.symm; subst hw; clear C1)
                    | (go_at_call 35; refine C2.mono ?_; rintro e w6 ⟨rfl, hw⟩; replace hw := hw.symm; subst hw; clear C2))
                  go_ret
                  exact ⟨by rw [HZ1.out]; rfl, Below.next hB hB2⟩
            · have hdx : decide ((x : Int) < (V : Int)) = false := by simp; omega
              have hdxn : decide (x < V) = false := by simp; omega
              have HZ1 : Hid (z = 0) := HZ0.out fun y h1 h2 => HX.out y h1 (by omega)
              go_wp2
              go_ret
              exact ⟨by rw [HZ1.out]; rfl, Below.next hB hB2⟩
    · have HZ : Hid (z = 2) := by
        show _ = _
        rw [← Hz.out]
        unfold sF
        rw [if_neg h1, if_pos (by rw [Hm.out]; omega)]
      rw [Hz.out, HZ.out]
      rw [Hm.out]
      have hne : ((m : Int) != (k : Int)) = true := by simp; omega
      clear HV HAT HLT HLL hll
      go_enter Try.func17, Try.ntmps17
      go_wp2
      go_ret
      exact ⟨rfl, Below.refl _ _⟩
end Go.Proofs.Ytpeplnojmogkfaa
