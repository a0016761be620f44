/- The law RoundMullin. -/
import Derived.Test.YtpeplnojmogkfaaL5
namespace Go.Proofs.Ytpeplnojmogkfaa
open Go.RowKit

/-- The opposite's first pairs, as rows. -/
def lsT (v : Nat) (qs : List (Nat × Nat)) (i : Nat) : List (List Nat) := (opL v (qs.take i)).map fun p => [p.1, p.2]
theorem lsT_more {v i : Nat} {qs : List (Nat × Nat)} {p : Nat × Nat} (h : qs[i]? = some p) : lsT v qs (i + 1) = lsT v qs i ++ [[v - p.1, v - p.2]] := by
  unfold lsT opL
  rw [List.take_add_one, h]
  simp
theorem lsT_len {v i : Nat} {qs : List (Nat × Nat)} (h : i ≤ qs.length) : (lsT v qs i).length = i := by simp [lsT, opL]; omega
theorem lsT_all {v i : Nat} {qs : List (Nat × Nat)} (h : qs.length ≤ i) : toZ (lsT v qs i) = prZ (opL v qs) := by
  unfold lsT toZ prZ
  rw [List.take_of_length_le h, List.map_map]
  rfl
theorem own_two2 (w : World) (x y : Int) : (w.alloc (.cells #[.int .i64 x, .int .i64 y] 3)).ownsRow w.heap.size 3 1 (.slice (some ⟨w.heap.size, 0, none⟩) 2 2) 2 [.int .i64 x, .int .i64 y] :=
  ⟨rfl, .inr ⟨w.heap.size, 2, #[.int .i64 x, .int .i64 y], rfl, Nat.le_refl _, heap_alloc_new w _, by omega, by unfold maxLen; omega, rfl, rfl⟩⟩
theorem one_news (w : World) (u : Value) (t : TypeId) : ∀ j x, ([u] : List Value)[j]? = some x → (w.alloc (.cells #[u] t)).cell? ((⟨w.heap.size, 0, none⟩ : Addr).add j) = some x := fun j x hj => by
  have hh := heap_alloc_new w (.cells #[u] t)
  match j, hj with
  | 0, hj => simp only [List.getElem?_cons_zero, Option.some.injEq] at hj; subst hj; exact (cell_of_row _ w.heap.size 0 _ _ _ hh).trans rfl
theorem new_two (w : World) (o : Obj) (u : Value) (t : TypeId) : ∀ j x, ([u] : List Value)[j]? = some x → (((w.alloc o).alloc (.cells #[u] t)).drew).cell? ((⟨w.heap.size + 1, 0, none⟩ : Addr).add j) = some x := fun j x hj => by
  have h := one_news (w.alloc o) u t j x hj
  rw [World.size_alloc] at h
  exact h
set_option maxRecDepth 100000 in
set_option maxHeartbeats 16000000 in
theorem Mullin_law (FC : FCircle) (FK : FCheck) (FG : FStrong) (FD : FDevelop) (FR : FRooms) (v : Int) (ps : List (List Int)) (u : Value) (w : World) (hu : RwC w u ps) :
    Calls Try.prog 7 #[.int .i64 v, u] w fun e w' => e = .returned (.bool true) ∧ Below w.heap.size w w' := by
  have D23 := roundFact_any FC FK w
  have HU : Hid (∀ W, Below w.heap.size w W → RwC W u ps) := fun W b => hu.below b
  obtain ⟨ua, um, uc, rfl⟩ := hu.form
  have H19 : Hid (∀ W, Below w.heap.size w W → Calls Try.prog 19 #[.int .i64 v, .slice ua um uc] W fun e w' => (∃ b : Bool, e = .returned (.tuple #[.bool b, .int .i64 (sF v ps : Int)]) ∧ (b = true ↔ StgZ v ps)) ∧ Below W.heap.size W w') := fun W b => FG v ps _ W (HU.out W b)
  by_cases hs : StgZ v ps
  · obtain ⟨V, qs, rfl, rfl, hS, hG⟩ := hs
    have hs0 := hS.sF
    have HT : Hid (StgZ (V : Int) (prZ qs)) := (stgZ_good hS).2 hG
    have HRM : Hid (Rms (V + 1) (dvR V qs) (dvR V (opL V qs))) := hS.rooms hG
    have hO := hS.opp
    have H20 : Hid (∀ W, Below w.heap.size w W → Calls Try.prog 20 #[.int .i64 (V : Int), .slice ua um uc] W fun e w' => (∃ y, e = .returned (.tuple #[y, .int .i64 0]) ∧ RwC w' y (toZ (dvR V qs))) ∧ Below W.heap.size W w') := fun W b => by
      have := FD V _ _ W (HU.out W b)
      rw [hs0] at this
      refine this.mono fun e w' ⟨⟨y, h1, h2⟩, h3⟩ => ⟨⟨y, h1, ?_⟩, h3⟩
      rw [← dvZ_good hS]
      exact rw_c h2 (dvZ_small _ _)
    have H20b : Hid (∀ W y, Rw W y (prZ (opL V qs)) → Calls Try.prog 20 #[.int .i64 (V : Int), y] W fun e w' => (∃ y, e = .returned (.tuple #[y, .int .i64 0]) ∧ RwC w' y (toZ (dvR V (opL V qs)))) ∧ Below W.heap.size W w') := fun W y hy => by
      have hl := hO.len
      have h15 := hO.v15
      have := FD V _ y W (rw_c hy ⟨by rw [prZ_len]; unfold maxLen; omega, fun l hl => by obtain ⟨p, _, rfl⟩ := List.mem_map.1 hl; unfold maxLen; simp⟩)
      rw [hO.sF] at this
      refine this.mono fun e w' ⟨⟨y, h1, h2⟩, h3⟩ => ⟨⟨y, h1, ?_⟩, h3⟩
      rw [← dvZ_good hO]
      exact rw_c h2 (dvZ_small _ _)
    have H12 : Hid (∀ W x y, RwC W x (toZ (dvR V qs)) → RwC W y (toZ (dvR V (opL V qs))) → Calls Try.prog 12 #[.int .i64 ((V : Int) + 1), x, y] W fun e w' => e = .returned (.tuple #[.bool true, .int .i64 0]) ∧ Below W.heap.size W w') := fun W x y hx hy => by
      have g1 := dv_good hS
      have g2 := dv_good hO
      have := FR ((V : Int) + 1) _ _ x y W hx hy
      have e0 : rF2 ((V : Int) + 1) (toZ (dvR V qs)) (toZ (dvR V (opL V qs))) = 0 := by
        unfold rF2
        have k1 : rF ((V + 1 : Nat) : Int) (toZ (dvR V qs)) = 0 := g1.rF
        have k2 : rF ((V + 1 : Nat) : Int) (toZ (dvR V (opL V qs))) = 0 := g2.rF
        rw [show ((V : Int) + 1) = ((V + 1 : Nat) : Int) by omega, if_neg (by rw [k1]; simp)]
        exact k2
      rw [e0] at this
      refine this.mono fun e w' ⟨⟨b, h1, h2⟩, h3⟩ => ⟨?_, h3⟩
      have hb : b = true := h2.2 (by
        rw [show ((V : Int) + 1) = ((V + 1 : Nat) : Int) by omega]
        exact (rmsZ_good g1 g2).2 HRM.out)
      rw [h1, hb]
      rfl
    have HRG : Hid (∀ (i : Nat) p, qs[i]? = some p → p.1 < V ∧ p.2 < V) := fun i p h => ⟨(hS.rng p (List.mem_of_getElem? h)).1.2, (hS.rng p (List.mem_of_getElem? h)).2.2⟩
    have HV : Hid (∀ W, Below w.heap.size w W → Rw W (.slice ua um uc) (prZ qs)) := fun W b => (HU.out W b).rw
    have hV15 := hS.v15
    have hln := hS.len
    obtain ⟨m, Hm⟩ : ∃ m, Hid (qs.length = m) := ⟨_, rfl⟩
    obtain rfl : um = m := by
      obtain ⟨a, c, e, _⟩ := hu.rw
      simp only [Value.slice.injEq] at e
      rw [e.2.1, prZ_len, Hm.out]
    have HAT : Hid (∀ i, i < um → ∃ p, qs[i]? = some p) := fun i hi => ⟨_, List.getElem?_eq_getElem (by rw [Hm.out]; exact hi)⟩
    rw [Hm.out] at hln
    have hm7 : um ≤ 7 := by omega
    have HAL : Hid (toZ (lsT V qs um) = prZ (opL V qs)) := lsT_all (by rw [Hm.out]; exact Nat.le_refl _)
    have HLN : Hid (∀ i, i ≤ um → (lsT V qs i).length = i) := fun i hi => lsT_len (by rw [Hm.out]; exact hi)
    obtain ⟨i36, ji3, jz0, jz1, jz2⟩ := info36
    rw [hs0] at H19
    clear FC FK FG FD FR hu HU hS hO hG hs0 hln
    go_enter Try.func7, Try.ntmps7
    go_wp2_with (first
      | (go_at_call 23; refine D23.mono ?_; rintro e w1 ⟨rfl, b1⟩; clear D23; have D19 := H19.out w1 b1; clear H19)
      | (go_at_call 19; refine D19.mono ?_; rintro e w2 ⟨⟨p, rfl, hp⟩, b2⟩; clear D19; obtain rfl : p = true := hp.2 HT.out; clear hp; replace b2 := Below.next b1 b2; clear b1))
    go_loopw [8, 9] (fun lv iv wr => ∃ (i : Nat) (la : Option Addr) (lc : Nat), iv = .int .i64 (i : Int) ∧ lv = .slice la i lc ∧ i ≤ um ∧ OR wr w2.heap.size (.slice la i lc) (lsT V qs i) ∧ Below w2.heap.size w2 wr) (fun _ iv _ => (um - intOf iv).toNat)
    case atStart => exact ⟨0, none, 0, rfl, rfl, by omega, (by have := OR.nil w2 w2.heap.size; exact this), Below.refl _ _⟩
    case round =>
      obtain ⟨i, la, lc, rfl, rfl, hi, hO, hB⟩ := hrel
      have hBw := Below.next b2 hB
      have hsz := hB.size
      by_cases hlt : i < um
      · have hdi : decide ((i : Int) < (um : Int)) = true := by simp; omega
        have hii : (i : Int) < (um : Int) := by omega
        obtain ⟨p, hpi⟩ := HAT.out i hlt
        obtain ⟨hp1, hp2⟩ := HRG.out i p hpi
        obtain ⟨b, o, g, o1, c1, rfl, hc, hx, hy⟩ := pr_cells (HV.out wr hBw) hpi
        have HLM : Hid (lsT V qs (i + 1) = lsT V qs i ++ [[V - p.1, V - p.2]]) := lsT_more hpi
        obtain ⟨X, HX⟩ : ∃ X, Hid (p.1 = X) := ⟨_, rfl⟩
        obtain ⟨Y, HY⟩ : ∃ Y, Hid (p.2 = Y) := ⟨_, rfl⟩
        obtain ⟨s, Hs⟩ : ∃ s, Hid (V - X = s) := ⟨_, rfl⟩
        obtain ⟨t, Ht⟩ : ∃ t, Hid (V - Y = t) := ⟨_, rfl⟩
        rw [HX.out] at hx hp1
        rw [HY.out] at hy hp2
        have HLM2 : Hid (lsT V qs (i + 1) = lsT V qs i ++ [[s, t]]) := by show _ = _; rw [HLM.out, HX.out, HY.out, Hs.out, Ht.out]
        have q1 : (V : Int) - (X : Int) = (s : Int) := by rw [← Hs.out]; omega
        have q2 : (V : Int) - (Y : Int) = (t : Int) := by rw [← Ht.out]; omega
        have hs9 : s ≤ 99 := by rw [← Hs.out]; omega
        have ht9 : t ≤ 99 := by rw [← Ht.out]; omega
        obtain ⟨vals, h1, h2'⟩ := hO
        have HH1 : Hid (wr.ownsRow w2.heap.size 38 1 (.slice la i lc) (lsT V qs i).length vals) := h1
        have HH2 : Hid (∀ (i_1 : Nat) (u : Value) (l : List Nat), vals[i_1]? = some u → (lsT V qs i)[i_1]? = some l → ORow wr w2.heap.size u l) := h2'
        rw [HLN.out i hi] at h1
        have ws : IntKind.i64.wrap (s : Int) = (s : Int) := by rw [IntKind.wrap_i64]; omega
        have wt : IntKind.i64.wrap (t : Int) = (t : Int) := by rw [IntKind.wrap_i64]; omega
        clear h2' HLM hpi
        go_wp2
        go_region_law (refine step_append_lies _ rfl (.tmp 35) (.tmp 53) 22 rfl w2.heap.size 38 i36 (.slice none 0 0) 1 24 undR ji3 jz0 jz1 jz2 rfl (by decide) _ i _ (by simp [Act.eval]) ((h1.alloc _).alloc _) ⟨wr.heap.size + 1, 0, none⟩ 1 1 [.slice (some ⟨wr.heap.size, 0, none⟩) 2 2] (by simp [Act.eval]) rfl (new_two wr _ _ _) (fun u hu => by simp at hu; subst hu; rfl) (by omega) (by unfold maxLen; omega) (by omega) (by (simp; omega)) (wr.heap.size + 2) (by simp) ?_; intro gd cd w7 hown7 hgrow7 hl7 hlt7)
        all_goals
          have hal : Below wr.heap.size wr ((wr.alloc (.cells #[.int .i64 (s : Int), .int .i64 (t : Int)] 3)).alloc (.cells #[.slice (some ⟨wr.heap.size, 0, none⟩) 2 2] 38)).drew := (Below.next (balloc wr _) (balloc _ _)).drew
          have hrow : ORow ((wr.alloc (.cells #[.int .i64 (s : Int), .int .i64 (t : Int)] 3)).alloc (.cells #[.slice (some ⟨wr.heap.size, 0, none⟩) 2 2] 38)).drew w2.heap.size (.slice (some ⟨wr.heap.size, 0, none⟩) 2 2) [s, t] := by
            have h := own_low' (own_two2 wr (s : Int) (t : Int)) hsz
            exact own_keep (w' := ((wr.alloc (.cells #[.int .i64 (s : Int), .int .i64 (t : Int)] 3)).alloc (.cells #[.slice (some ⟨wr.heap.size, 0, none⟩) 2 2] 38)).drew) h fun b _ hb => (balloc (wr.alloc (.cells #[.int .i64 (s : Int), .int .i64 (t : Int)] 3)) (.cells #[.slice (some ⟨wr.heap.size, 0, none⟩) 2 2] 38)).block b hb
          have hO7 : OR w7 w2.heap.size (.slice (some ⟨gd, 0, none⟩) (i + 1) cd) (lsT V qs i ++ [[s, t]]) := OR.more (own_keep HH1.out fun b _ hb => hal.block b hb) (fun i_1 u l' e1 e2 => (HH2.out i_1 u l' e1 e2).below hal) hrow (by rw [HLN.out i hi]; exact hown7) hgrow7
          rw [← HLM2.out] at hO7
          have hB7 : Below w2.heap.size w2 w7 := (Below.next hB hal).grown hgrow7 (by simp; omega) (fun k hk => (h1.lt k hk).1)
          clear hown7 hgrow7 hl7 hrow hal h1 q1 q2 ws wt
          go_wp2
          go_roundw
          case rel => exact ⟨i + 1, some ⟨gd, 0, none⟩, cd, by go_num, rfl, by omega, hO7, hB7⟩
          case measure => simp [intOf]; omega
      · have hdi : decide ((i : Int) < (um : Int)) = false := by simp; omega
        have hdin : decide (i < um) = false := by simp; omega
        have him : i = um := by omega
        have hrw := hO.rw
        rw [him, HAL.out] at hrw
        have D20 := H20.out wr hBw
        have HRW : Hid (∀ W, Below wr.heap.size wr W → Rw W (.slice la i lc) (prZ (opL V qs))) := fun W b => by rw [him]; exact hrw.below b
        clear hO hrw him H20 HAL HLN HAT hi
        go_wp2_with fail
        refine D20.mono ?_
        rintro e w3 ⟨⟨y1, rfl, hy1⟩, b3⟩
        clear D20
        obtain ⟨a1, m1, c1, rfl⟩ := hy1.form
        have D20b := H20b.out w3 _ (HRW.out w3 b3)
        replace b3 := Below.next hBw b3
        clear H20b HRW hBw hB
        go_wp2_with (first
          | (go_at_call 20; refine D20b.mono ?_; rintro e w4 ⟨⟨y2, rfl, hy2⟩, b4⟩; clear D20b; obtain ⟨a2, m2, c2, rfl⟩ := hy2.form; have D12 := H12.out w4 _ _ (hy1.below b4) hy2; clear H12 hy1 hy2; replace b4 := Below.next b3 b4; clear b3)
          | (go_at_call 12; refine D12.mono ?_; rintro e w5 ⟨rfl, b5⟩; clear D12))
        go_ret
        exact ⟨by first | rfl | simp, Below.next b4 b5⟩
  · obtain ⟨z, Hz⟩ : ∃ z, Hid (sF v ps = z) := ⟨_, rfl⟩
    rw [Hz.out] at H19
    have HT : Hid (¬ StgZ v ps) := hs
    clear FC FK FG FD FR hu HU hs
    go_enter Try.func7, Try.ntmps7
    go_wp2_with (go_at_call 23; refine D23.mono ?_; rintro e w1 ⟨rfl, b1⟩; clear D23; have D19 := H19.out w1 b1; clear H19)
    refine D19.mono ?_
    rintro e w2 ⟨⟨p, rfl, hp⟩, b2⟩
    obtain rfl : p = false := Bool.eq_false_iff.2 fun h => HT.out (hp.1 h)
    clear D19 hp
    by_cases hz : z = 0
    · have hne : ((z : Int) != 0) = false := by simp [hz]
      clear hz
      go_wp2
      go_ret
      exact ⟨rfl, Below.next b1 b2⟩
    · have hne : ((z : Int) != 0) = true := by simp; omega
      clear hz
      go_wp2
      go_ret
      exact ⟨rfl, Below.next b1 b2⟩
end Go.Proofs.Ytpeplnojmogkfaa
