/- The walk of the document's BackOf. -/
import Derived.Test.YtioggiapkkeloabDoorCB5
import Derived.Test.YtioggiapkkeloabDoorP14
namespace Go.Proofs.YtioggiapkkeloabDoor
open Go.RowKit

/-- The sum on its way. -/
def bkS (l : List Int) (x k : Nat) : Int := sm k fun a => sg2 (wt (a &&& x)) * tf l a
theorem bkS_full {n x : Nat} (l : List Int) (hn : n ≤ 8) : bkS l x (2 ^ n) = Wh n (tf l) x := by
  rw [Wh_sum]
  refine sm_congr fun a ha => ?_
  rw [wt_is hn (and_lt ha), Nat.and_comm]
theorem bkS_succ (l : List Int) (x k : Nat) : bkS l x (k + 1) = bkS l x k + sg2 (wt (k &&& x)) * tf l k := rfl
theorem bkL_good {n : Nat} (l : List Int) (hn : n ≤ 8) : GoodT n (bkL n l) := ⟨hn, by simp [bkL], fun j hj => by
  have e : (bkL n l).getD j 0 = bkF n (tf l) j := by simp [bkL, hj]
  rw [e]; unfold bkF; split <;> simp⟩
/-- What is wrong with a spectrum. -/
def bF (l : List Int) : Nat := if btN l.length = 9 then 2 else if (List.range l.length).all (fun j => decide (-(l.length : Int) ≤ l.getD j 0) && decide (l.getD j 0 ≤ l.length)) then if spL (btN l.length) (bkL (btN l.length) l) = l then 0 else 4 else 1
theorem bF_range {l : List Int} (h : btN l.length ≤ 8) {j : Nat} (hj : j < l.length) (hb : ¬ (-(l.length : Int) ≤ l.getD j 0 ∧ l.getD j 0 ≤ l.length)) : bF l = 1 := by
  unfold bF
  rw [if_neg (by omega), if_neg]
  intro k
  rw [List.all_eq_true] at k
  have := k j (List.mem_range.2 hj)
  rw [Bool.and_eq_true, decide_eq_true_iff, decide_eq_true_iff] at this
  exact hb this
theorem bF_on {l : List Int} (h : btN l.length ≤ 8) (hb : ∀ j, j < l.length → -(l.length : Int) ≤ l.getD j 0 ∧ l.getD j 0 ≤ l.length) : bF l = if spL (btN l.length) (bkL (btN l.length) l) = l then 0 else 4 := by
  unfold bF
  rw [if_neg (by omega), if_pos]
  rw [List.all_eq_true]
  intro j hj
  rw [Bool.and_eq_true, decide_eq_true_iff, decide_eq_true_iff]
  exact hb j (List.mem_range.1 hj)
theorem bF_shape {l : List Int} (h : btN l.length = 9) : bF l = 2 := by unfold bF; rw [if_pos h]
set_option maxHeartbeats 4000000 in
theorem BackOf_shape (l : List Int) (v : Value) (w : World) (hv : Sl w v l) (hl : l.length ≤ maxLen) (h9 : btN l.length = 9) :
    Calls Tryd.prog 5 #[v] w fun e w' => e = .returned (.tuple #[.slice none 0 0, .int .i64 2]) ∧ Below w.heap.size w w' := by
  have C := BitsOf_any l.length w hl
  have e : btZ l.length = -1 := by unfold btZ; rw [if_pos h9]
  rw [e] at C
  obtain ⟨a, cap, rfl, _⟩ := hv
  clear h9 e
  generalize l.length = q at *
  go_enter Tryd.func5, Tryd.ntmps5
  go_wp2_with (go_at_call 12; refine C.mono ?_; rintro e w1 ⟨rfl, hw⟩; replace hw := hw.symm; subst hw; clear C)
  go_ret2
  exact ⟨rfl, Below.refl _ _⟩
theorem row_sl {w : World} {base : Nat} {y : Value} {l : List Int} {n : Nat} (h : w.ownsRow base 3 1 y n (vi l)) (hn : l.length = n) : Sl w y l := by
  subst hn
  exact Sl.owned h
/-- What Back tells: the row of its own, or nothing. -/
def BkP (w w' : World) (y : Value) (N u : Nat) (m : List Int) : Prop := (u = 0 ∧ w'.ownsRow w.heap.size 3 1 y N (vi m)) ∨ (u ≠ 0 ∧ y = .slice none 0 0)
set_option maxRecDepth 100000 in
set_option maxHeartbeats 16000000 in
theorem BackOf_main (n : Nat) (l : List Int) (v : Value) (w : World) (hv : Sl w v l) (hn : n ≤ 8) (hl : l.length = 2 ^ n) :
    Calls Tryd.prog 5 #[v] w fun e w' => (∃ y, e = .returned (.tuple #[y, .int .i64 (bF l : Int)]) ∧ BkP w w' y (2 ^ n) (bF l) (bkL n l)) ∧ Below w.heap.size w w' := by
  obtain ⟨i3, hi3, hz0, hz1, hz2⟩ := info3
  obtain ⟨p1, p2⟩ := pow256 hn
  have hbt : btN l.length = n := by rw [hl]; exact bt_pow ⟨n, by omega⟩
  have CB := BitsOf_any (2 ^ n) w (by unfold maxLen; omega)
  rw [btZ_is hn rfl] at CB
  have HV : Hid (Sl w v l) := hv
  have HRg : Hid (∀ j, j < 2 ^ n → ¬ (-((2 ^ n : Nat) : Int) ≤ tf l j ∧ tf l j ≤ ((2 ^ n : Nat) : Int)) → bF l = 1) := fun j hj hb => bF_range (by omega) (by rw [hl]; exact hj) (by rw [hl]; exact hb)
  have HOn : Hid ((∀ j, j < 2 ^ n → -((2 ^ n : Nat) : Int) ≤ tf l j ∧ tf l j ≤ ((2 ^ n : Nat) : Int)) → bF l = if spL n (bkL n l) = l then 0 else 4) := fun h => by
    rw [bF_on (by omega) (by rw [hl]; exact h), hbt]
  have HF : Hid (∀ x, x < 2 ^ n → (if bkS l x (2 ^ n) < 0 then (1 : Int) else 0) = bkF n (tf l) x) := fun x hx => by
    show _ = _
    unfold bkF
    rw [bkS_full l hn]
  have HG := bkL_good l hn
  have HSp : Hid (∀ y W, Sl W y (bkL n l) → Calls Tryd.prog 14 #[y] W fun e w' => (∃ y, e = .returned y ∧ w'.ownsRow W.heap.size 3 1 y (2 ^ n) (vi (spL n (bkL n l)))) ∧ Below W.heap.size W w') := fun y W h => SpectrumOf_any n (bkL n l) y W h HG
  have HIn : Hid (∀ y W, Sl W y (spL n (bkL n l)) → Sl W v l → Calls Tryd.prog 6 #[y, v] W fun e w' => ∃ b : Bool, e = .returned (.bool b) ∧ (b = true ↔ spL n (bkL n l) = l) ∧ Below W.heap.size W w') := fun y W h h' => ints_any (spL n (bkL n l)) l y v W h h' (by rw [spL_len]; unfold maxLen; omega) (by rw [hl]; unfold maxLen; omega)
  have HLn : Hid ((spL n (bkL n l)).length = 2 ^ n) := spL_len _ _
  obtain ⟨f, Hf⟩ : ∃ f, Hid (bkF n (tf l) = f) := ⟨_, rfl⟩
  have HA : Hid (bkL n l = (List.range (2 ^ n)).map f) := by show _ = _; unfold bkL; rw [Hf.out]
  rw [Hf.out] at HF
  generalize spL n (bkL n l) = Q at *
  rw [HA.out] at HSp ⊢
  obtain ⟨z, Hz⟩ : ∃ z : Nat, Hid (2 ^ n = z) := ⟨_, rfl⟩
  rw [Hz.out] at p1 p2 hl HF CB HRg HOn HSp HLn ⊢
  obtain ⟨u, hu⟩ : ∃ u, bF l = u := ⟨_, rfl⟩
  rw [hu] at HRg HOn ⊢
  obtain ⟨b, off, cap, rfl, hb, hcell⟩ := hv.form hl p1
  have HC : Hid (∀ j, j < z → w.cell? ⟨b, off + j, none⟩ = some (.int .i64 (tf l j))) := hcell
  have HW : Hid (∀ a x W, a < z → x < z → Calls Tryd.prog 13 #[.int .i64 ((a &&& x : Nat) : Int)] W fun e w' => e = .returned (.int .i64 (wt (a &&& x) : Int)) ∧ w' = W) := fun a x W ha hx => Weight_any (a &&& x) W (by have : a &&& x ≤ a := Nat.and_le_left; omega)
  have dneg : decide ((n : Int) < 0) = false := by simp
  obtain ⟨mz, hmz⟩ : ∃ q : Int, -(z : Int) = q := ⟨_, rfl⟩
  rw [hmz] at HRg HOn
  clear hv hcell hl HG HA hu hbt
  go_enter Tryd.func5, Tryd.ntmps5
  go_wp2_with (go_at_call 12; refine CB.mono ?_; rintro e w1 ⟨rfl, hw⟩; replace hw := hw.symm; subst hw; clear CB)
  go_loopw [5] (fun iv wr => ∃ (j : Nat), iv = .int .i64 (j : Int) ∧ j ≤ z ∧ Hid (∀ q, q < j → mz ≤ tf l q ∧ tf l q ≤ (z : Int)) ∧ wr = w) (fun iv _ => (z - intOf iv).toNat)
  case atStart => exact ⟨0, rfl, by omega, (fun q h => by omega : ∀ q, q < 0 → _), rfl⟩
  case round =>
    obtain ⟨j, rfl, hj, HJ, hw⟩ := hrel
    replace hw := hw.symm
    subst hw
    by_cases hlt : j < z
    · have hdj : decide ((j : Int) < (z : Int)) = true := by simp; omega
      have hji : (j : Int) < z := by omega
      have cj := HC.out j hlt
      have hr := HRg.out j hlt
      obtain ⟨x, hx⟩ : ∃ x, tf l j = x := ⟨_, rfl⟩
      rw [hx] at cj hr
      have HJ2 : Hid ((mz ≤ x ∧ x ≤ (z : Int)) → ∀ q, q < j + 1 → mz ≤ tf l q ∧ tf l q ≤ (z : Int)) := fun h q hq => by
        by_cases e : q = j
        · subst e; rw [hx]; exact h
        · exact HJ.out q (by omega)
      have HNN : Hid (¬ (mz ≤ x ∧ x ≤ (z : Int)) → u = 1) := hr
      clear hx hr HJ
      by_cases c1 : x < mz
      · have d1 : decide (x < mz) = true := decide_eq_true c1
        obtain rfl : u = 1 := HNN.out (by omega)
        clear c1 HNN HJ2
        go_wp2
        go_ret2
        exact ⟨⟨_, rfl, .inr ⟨by decide, rfl⟩⟩, Below.refl _ _⟩
      · have d1 : decide (x < mz) = false := decide_eq_false c1
        by_cases c2 : (z : Int) < x
        · have d2 : decide ((z : Int) < x) = true := decide_eq_true c2
          obtain rfl : u = 1 := HNN.out (by omega)
          clear c1 c2 HNN HJ2
          go_wp2
          go_ret2
          exact ⟨⟨_, rfl, .inr ⟨by decide, rfl⟩⟩, Below.refl _ _⟩
        · have d2 : decide ((z : Int) < x) = false := decide_eq_false c2
          have HJ3 : Hid (∀ q, q < j + 1 → mz ≤ tf l q ∧ tf l q ≤ (z : Int)) := HJ2.out (by omega)
          clear c1 c2 HNN HJ2
          go_wp2
          go_roundw
          case rel => exact ⟨j + 1, by go_num, by omega, HJ3, trivial⟩
          case measure => simp [intOf]; omega
    · have hdj : decide ((j : Int) < (z : Int)) = false := by simp; omega
      have HBd : Hid (∀ q, q < z → mz ≤ tf l q ∧ tf l q ≤ (z : Int)) := fun q hq => HJ.out q (by omega)
      have hon := HOn.out fun q hq => HBd.out q hq
      have HU : Hid (u = if Q = l then 0 else 4) := hon
      clear hon HJ HOn HRg
      go_wp2
      clear hj hlt hdj
      go_loopw [6, 7] (fun ov uv wr => ∃ (x : Nat), uv = .int .i64 (x : Int) ∧ x ≤ z ∧ wr.ownsRow w.heap.size 3 1 ov x (vi ((List.range x).map f)) ∧ Below w.heap.size w wr) (fun _ uv _ => (z - intOf uv).toNat)
      case atStart => exact ⟨0, rfl, by omega, World.ownsRow_nil _ _ _ _, Below.refl _ _⟩
      case round =>
        obtain ⟨x, rfl, hx, hW, hB⟩ := hrel
        by_cases hlx : x < z
        · have hdx : decide ((x : Int) < (z : Int)) = true := by simp; omega
          obtain ⟨w1, hw1⟩ : ∃ w1 : World, w1 = wr := ⟨_, rfl⟩
          subst hw1
          go_wp2
          go_loopw [8, 9] (fun sv av wr => ∃ (a : Nat) (X : Int), av = .int .i64 (a : Int) ∧ a ≤ z ∧ sv = .int .i64 X ∧ Hid (bkS l x a = X) ∧ -(a * 999 : Int) ≤ X ∧ X ≤ a * 999 ∧ wr = w1) (fun _ av _ => (z - intOf av).toNat)
          case atStart => exact ⟨0, 0, rfl, by omega, rfl, (rfl : bkS l x 0 = 0), by omega, by omega, rfl⟩
          case round =>
            obtain ⟨a, X, rfl, ha, rfl, HX, hX0, hX1, hw⟩ := hrel
            replace hw := hw.symm
            subst hw
            by_cases hla : a < z
            · have hda : decide ((a : Int) < (z : Int)) = true := by simp; omega
              have hand := andS (a := a) (b := x) (by omega) (by omega)
              have haz : (a : Int) < (z : Int) := by omega
              have ca := (hB.cell (p := ⟨b, off + a, none⟩) hb).trans (HC.out a hla)
              have hbd := HBd.out a hla
              have C := HW.out a x w1 hla hlx
              have hs := bkS_succ l x a
              have hg8 := wt_le (a &&& x)
              rw [HX.out] at hs
              obtain ⟨q, Hq⟩ : ∃ q, Hid (a &&& x = q) := ⟨_, rfl⟩
              rw [Hq.out] at hand C hs hg8
              obtain ⟨g, Hg⟩ : ∃ g, Hid (wt q = g) := ⟨_, rfl⟩
              rw [Hg.out] at C hs hg8
              obtain ⟨y, Hy⟩ : ∃ y, Hid (tf l a = y) := ⟨_, rfl⟩
              rw [Hy.out] at ca hbd hs
              have hy1 : -999 ≤ y := by omega
              have hy2 : y ≤ 999 := by omega
              obtain ⟨r, Hr⟩ : ∃ r, Hid (g % 2 = r) := ⟨_, rfl⟩
              have r1 : (g : Int) % 2 = (r : Int) := by rw [← Hr.out]; simp
              have r2 : (g : Int).tmod 2 = (r : Int) := by rw [Int.tmod_eq_emod_of_nonneg (by omega)]; exact r1
              have HS : Hid (bkS l x (a + 1) = X + (if r = 0 then 1 else -1) * y) := by
                show _ = _
                rw [hs]; unfold sg2; rw [Hr.out]
              have hr9 : r ≤ 1 := by rw [← Hr.out]; omega
              clear hs hbd HX
              by_cases e : r = 0
              · have eq : ((r : Int) == 0) = true := by simp [e]
                have HS2 : Hid (bkS l x (a + 1) = X + y) := by show _ = _; rw [HS.out, if_pos e]; omega
                clear e HS
                go_wp2_with (go_at_call 13; refine C.mono ?_; rintro e w2 ⟨rfl, hw⟩; replace hw := hw.symm; subst hw; clear C)
                go_roundw
                case rel => exact ⟨a + 1, X + y, by go_num, by omega, by go_num, HS2, by omega, by omega, trivial⟩
                case measure => simp [intOf]; omega
              · have eq : ((r : Int) == 0) = false := by simp [e]
                have HS2 : Hid (bkS l x (a + 1) = X - y) := by show _ = _; rw [HS.out, if_neg e]; omega
                clear e HS
                go_wp2_with (go_at_call 13; refine C.mono ?_; rintro e w2 ⟨rfl, hw⟩; replace hw := hw.symm; subst hw; clear C)
                go_roundw
                case rel => exact ⟨a + 1, X - y, by go_num, by omega, by go_num, HS2, by omega, by omega, trivial⟩
                case measure => simp [intOf]; omega
            · have hda : decide ((a : Int) < (z : Int)) = false := by simp; omega
              have hf : (if X < 0 then (1 : Int) else 0) = f x := by rw [← HF.out x hlx, ← HX.out, show a = z by omega]
              have hvs := vi_snoc f x
              rw [← hf] at hvs
              obtain ⟨oa, oc, rfl⟩ := own_slice hW
              obtain ⟨fl, Hfl⟩ : ∃ fl, Hid (vi ((List.range x).map f) = fl) := ⟨_, rfl⟩
              rw [Hfl.out] at hW hvs
              have hsz := hB.size
              clear hf HX
              by_cases c : X < 0
              · have dc : decide (X < 0) = true := decide_eq_true c
                rw [if_pos c] at hvs
                have HVS : Hid (vi ((List.range (x + 1)).map f) = fl ++ [.int .i64 1]) := hvs
                clear c hvs
                go_wp2_with (first
                  | (at_builtin; refine wpList_append_own _ rfl _ _ 22 rfl w.heap.size 3 i3 (.int .i64 0) 1 8 und22 hi3 hz0 hz1 hz2 rfl (by decide) _ x fl rfl (hW.alloc _) ⟨w1.heap.size, 0, none⟩ 1 1 [.int .i64 1] rfl rfl ?c1 ?c2 ?c3 ?c4 ?c5 ?_)
                  | go_in)
                case c1 =>
                  intro j u hj
                  match j, hj with
                  | 0, hj => simp at hj; subst hj; simp [Addr.add]
                case c2 => intro u hu; simp at hu; subst hu; rfl
                case c3 => unfold maxLen; omega
                case c4 => omega
                case c5 => simp; omega
                intro v' w2 hown' hgrow _
                have hB2 : Below w.heap.size w w2 := (hB.alloc (by omega) (.cells #[.int .i64 1] 3)).grown hgrow (by simp; omega) (fun k hk => (hW.lt k hk).1)
                rw [← HVS.out] at hown'
                go_wp2
                go_roundw
                case rel => exact ⟨x + 1, by go_num, by omega, hown', hB2⟩
                case measure => simp [intOf]; omega
              · have dc : decide (X < 0) = false := decide_eq_false c
                rw [if_neg c] at hvs
                have HVS : Hid (vi ((List.range (x + 1)).map f) = fl ++ [.int .i64 0]) := hvs
                clear c hvs
                go_wp2_with (first
                  | (at_builtin; refine wpList_append_own _ rfl _ _ 22 rfl w.heap.size 3 i3 (.int .i64 0) 1 8 und22 hi3 hz0 hz1 hz2 rfl (by decide) _ x fl rfl (hW.alloc _) ⟨w1.heap.size, 0, none⟩ 1 1 [.int .i64 0] rfl rfl ?c1 ?c2 ?c3 ?c4 ?c5 ?_)
                  | go_in)
                case c1 =>
                  intro j u hj
                  match j, hj with
                  | 0, hj => simp at hj; subst hj; simp [Addr.add]
                case c2 => intro u hu; simp at hu; subst hu; rfl
                case c3 => unfold maxLen; omega
                case c4 => omega
                case c5 => simp; omega
                intro v' w2 hown' hgrow _
                have hB2 : Below w.heap.size w w2 := (hB.alloc (by omega) (.cells #[.int .i64 0] 3)).grown hgrow (by simp; omega) (fun k hk => (hW.lt k hk).1)
                rw [← HVS.out] at hown'
                go_wp2
                go_roundw
                case rel => exact ⟨x + 1, by go_num, by omega, hown', hB2⟩
                case measure => simp [intOf]; omega
        · have hdx : decide ((x : Int) < (z : Int)) = false := by simp; omega
          obtain rfl : x = z := by omega
          have hSl := row_sl hW (by simp)
          have DS := HSp.out _ _ hSl
          have HSV := HV.out.below hB
          obtain ⟨oa, oc, rfl⟩ := own_slice hW
          have HW0 : Hid _ := hW
          clear hSl
          by_cases e : Q = l
          · obtain rfl : u = 0 := by rw [HU.out, if_pos e]
            go_wp2_with (first
              | (go_at_call 14; refine DS.mono ?_; rintro e w2 ⟨⟨y, rfl, hY⟩, b2⟩; clear DS; have DI := HIn.out y w2 (row_sl hY HLn.out) (HSV.below b2); obtain ⟨ya, yc, rfl⟩ := own_slice hY; clear hY)
              | (go_at_call 6; refine DI.mono ?_; rintro e' w3 ⟨b', rfl, hb', b3⟩; clear DI; obtain rfl : b' = true := hb'.2 e; clear hb'))
            go_ret2
            exact ⟨⟨_, rfl, .inl ⟨rfl, orow_below (orow_below HW0.out b2) b3⟩⟩, Below.next (Below.next hB b2) b3⟩
          · obtain rfl : u = 4 := by rw [HU.out, if_neg e]
            go_wp2_with (first
              | (go_at_call 14; refine DS.mono ?_; rintro e w2 ⟨⟨y, rfl, hY⟩, b2⟩; clear DS; have DI := HIn.out y w2 (row_sl hY HLn.out) (HSV.below b2); obtain ⟨ya, yc, rfl⟩ := own_slice hY; clear hY)
              | (go_at_call 6; refine DI.mono ?_; rintro e' w3 ⟨b', rfl, hb', b3⟩; clear DI; obtain rfl : b' = false := (by cases b'; rfl; exact (e (hb'.1 rfl)).elim); clear hb'))
            go_ret2
            exact ⟨⟨_, rfl, .inr ⟨by decide, rfl⟩⟩, Below.next (Below.next hB b2) b3⟩
end Go.Proofs.YtioggiapkkeloabDoor
