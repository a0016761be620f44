/- The walks of the document's AnfOf, DegreeOf, SpectrumOf. -/
import Derived.Test.YtioggiapkkeloaaDoorCB1
import Derived.OwnWalk
namespace Go.Proofs.YtioggiapkkeloaaDoor
open Go.RowKit

theorem andS {a b : Nat} (ha : a < 1000) (hb : b < 1000) : bits .and .i64 (a : Int) (b : Int) = ((a &&& b : Nat) : Int) := by
  have hx : a &&& b ≤ a := Nat.and_le_left
  have h1 : (BitVec.ofInt (8 * 8) (a : Int)).toNat = a := by
    rw [BitVec.ofInt_natCast, BitVec.toNat_ofNat]; exact Nat.mod_eq_of_lt (by omega)
  have h2 : (BitVec.ofInt (8 * 8) (b : Int)).toNat = b := by
    rw [BitVec.ofInt_natCast, BitVec.toNat_ofNat]; exact Nat.mod_eq_of_lt (by omega)
  show IntKind.i64.wrap ((BitVec.ofInt (8 * 8) (a : Int) &&& BitVec.ofInt (8 * 8) (b : Int)).toNat : Int) = _
  rw [BitVec.toNat_and, h1, h2, IntKind.wrap_i64]
  omega
theorem vi_snoc (f : Nat → Int) (k : Nat) : vi ((List.range (k + 1)).map f) = vi ((List.range k).map f) ++ [.int .i64 (f k)] := by
  rw [List.range_succ, List.map_append]; simp [vi]
theorem own_slice {w : World} {base n : Nat} {e : TypeId} {size : Nat} {v : Value} {xs : List Value} (h : w.ownsRow base e size v n xs) : ∃ a c, v = .slice a n c := by
  obtain ⟨_, ⟨e, e2⟩ | ⟨g', cap, cur, e, _⟩⟩ := h
  · exact ⟨_, _, by rw [e, e2]⟩
  · exact ⟨_, _, e⟩
theorem orow_below {w w' : World} {base n : Nat} {e : TypeId} {size : Nat} {v : Value} {xs : List Value} (h : w.ownsRow base e size v n xs) (hb : Below w.heap.size w w') : w'.ownsRow base e size v n xs := by
  obtain ⟨h3, h4 | ⟨g, cap, cur, h5, h6, h7, h8⟩⟩ := h
  · exact ⟨h3, .inl h4⟩
  · exact ⟨h3, .inr ⟨g, cap, cur, h5, h6, (hb.block g (Array.getElem?_eq_some_iff.1 h7).1).trans h7, h8⟩⟩
/-- What the document sums up, of the numbers below k. -/
def anS (l : List Int) (u k : Nat) : Int := sm k fun x => if x &&& u = x then tf l x else 0
set_option maxRecDepth 100000 in
set_option maxHeartbeats 8000000 in
theorem AnfOf_any (n : Nat) (l : List Int) (v : Value) (w : World) (hv : Sl w v l) (G : GoodT n l) :
    Calls Tryd.prog 15 #[v] w fun e w' => (∃ y, e = .returned y ∧ w'.ownsRow w.heap.size 3 1 y (2 ^ n) (vi (anL n l))) ∧ Below w.heap.size w w' := by
  obtain ⟨i3, hi3, hz0, hz1, hz2⟩ := info3
  obtain ⟨p1, p2⟩ := pow256 G.le
  have hlen := G.len
  have HF : Hid (∀ u, u < 2 ^ n → anS l u (u + 1) % 2 = anF n (tf l) u) := fun u hu => by
    show _ = Pu n u (tf l) % 2
    rw [an_upto l hu]; rfl
  have HB : Hid (∀ x, x < 2 ^ n → tf l x = 0 ∨ tf l x = 1) := G.bit
  obtain ⟨f, Hf⟩ : ∃ f, Hid (anF n (tf l) = f) := ⟨_, rfl⟩
  have HA : Hid (anL n l = (List.range (2 ^ n)).map f) := by show _ = _; unfold anL; rw [Hf.out]
  rw [HA.out]
  rw [Hf.out] at HF
  obtain ⟨z, Hz⟩ : ∃ z : Nat, Hid (2 ^ n = z) := ⟨_, rfl⟩
  rw [Hz.out] at p1 p2 hlen HF HB ⊢
  obtain ⟨a, off, cap, rfl, ha, hcell⟩ := hv.form hlen p1
  have HC : Hid (∀ j, j < z → w.cell? ⟨a, off + j, none⟩ = some (.int .i64 (tf l j))) := hcell
  clear hv hcell G hlen HA
  go_enter Tryd.func15, Tryd.ntmps15
  go_wp2
  go_loopw [3, 4] (fun ov uv wr => ∃ (u : Nat), uv = .int .i64 (u : Int) ∧ u ≤ z ∧ wr.ownsRow w.heap.size 3 1 ov u (vi ((List.range u).map f)) ∧ Below w.heap.size w wr) (fun _ uv _ => (z - intOf uv).toNat)
  case atStart => exact ⟨0, rfl, by omega, World.ownsRow_nil _ _ _ _, Below.refl _ _⟩
  case round =>
    obtain ⟨u, rfl, hu, hW, hB⟩ := hrel
    by_cases hlt : u < z
    · have hdu : decide ((u : Int) < (z : Int)) = true := by simp; omega
      obtain ⟨w1, hw1⟩ : ∃ w1 : World, w1 = wr := ⟨_, rfl⟩
      subst hw1
      go_wp2
      go_loopw [5, 6] (fun sv xv wr => ∃ (x : Nat) (X : Int), xv = .int .i64 (x : Int) ∧ x ≤ u + 1 ∧ sv = .int .i64 X ∧ Hid (anS l u x = X) ∧ 0 ≤ X ∧ X ≤ x ∧ wr = w1) (fun _ xv _ => (u + 1 - intOf xv).toNat)
      case atStart => exact ⟨0, 0, rfl, by omega, rfl, (rfl : anS l u 0 = 0), by omega, by omega, rfl⟩
      case round =>
        obtain ⟨x, X, rfl, hx, rfl, HX, hX0, hX1, hw⟩ := hrel
        replace hw := hw.symm
        subst hw
        by_cases hlx : x ≤ u
        · have hdx : decide ((x : Int) ≤ (u : Int)) = true := by simp; omega
          have hand := andS (a := x) (b := u) (by omega) (by omega)
          have hxz : (x : Int) < (z : Int) := by omega
          have cx := (hB.cell (p := ⟨a, off + x, none⟩) ha).trans (HC.out x (by omega))
          have hb := HB.out x (by omega)
          have HS : Hid (anS l u (x + 1) = X + if x &&& u = x then tf l x else 0) := by show _ = _; unfold anS; rw [sm]; rw [show (sm x fun x => if x &&& u = x then tf l x else 0) = X from HX.out]
          obtain ⟨q, Hq⟩ : ∃ q, Hid (x &&& u = q) := ⟨_, rfl⟩
          obtain ⟨y, Hy⟩ : ∃ y, Hid (tf l x = y) := ⟨_, rfl⟩
          rw [Hq.out] at hand HS
          rw [Hy.out] at cx hb HS
          have hb2 : 0 ≤ y ∧ y ≤ 1 := by omega
          obtain ⟨hb3, hb4⟩ := hb2
          have hq99 : q ≤ 999 := by rw [← Hq.out]; have : x &&& u ≤ x := Nat.and_le_left; omega
          by_cases e : q = x
          · have eq : ((q : Int) == (x : Int)) = true := by simp [e]
            have HS2 : Hid (anS l u (x + 1) = X + y) := by show _ = _; rw [HS.out, if_pos e]
            clear e hb HS HX
            go_wp2
            go_roundw
            case rel => exact ⟨x + 1, X + y, by go_num, by omega, by go_num, HS2, by omega, by omega, trivial⟩
            case measure => simp [intOf]; omega
          · have eq : ((q : Int) == (x : Int)) = false := by simp; omega
            have HS2 : Hid (anS l u (x + 1) = X) := by show _ = _; rw [HS.out, if_neg e]; omega
            clear e hb HS HX
            go_wp2
            go_roundw
            case rel => exact ⟨x + 1, X, by go_num, by omega, by go_num, HS2, by omega, by omega, trivial⟩
            case measure => simp [intOf]; omega
        · have hdx : decide ((x : Int) ≤ (u : Int)) = false := by simp; omega
          have hdx' : decide (x ≤ u) = false := by simp; omega
          have hf : X % 2 = f u := by rw [← HF.out u hlt, ← HX.out, show x = u + 1 by omega]
          obtain ⟨r, Hr⟩ : ∃ r, Hid (X % 2 = r) := ⟨_, rfl⟩
          have r1 : X % 2 = r := Hr.out
          have r2 : X.tmod 2 = r := by rw [Int.tmod_eq_emod_of_nonneg (by omega)]; exact r1
          have r3 : 0 ≤ r ∧ r ≤ 1 := by omega
          obtain ⟨r4, r5⟩ := r3
          have HVS : Hid (vi ((List.range (u + 1)).map f) = vi ((List.range u).map f) ++ [.int .i64 r]) := by show _ = _; rw [vi_snoc, ← hf, r1]
          obtain ⟨oa, oc, rfl⟩ := own_slice hW
          obtain ⟨fl, Hfl⟩ : ∃ fl, Hid (vi ((List.range u).map f) = fl) := ⟨_, rfl⟩
          rw [Hfl.out] at hW HVS
          have hsz := hB.size
          clear hf HX
          go_wp2_with (first
            | (at_builtin; refine wpList_append_own _ rfl _ _ 22 rfl w.heap.size 3 i3 (.int .i64 0) 1 8 und22 hi3 hz0 hz1 hz2 rfl (by decide) _ u fl rfl (hW.alloc _) ⟨w1.heap.size, 0, none⟩ 1 1 [.int .i64 r] rfl rfl ?c1 ?c2 ?c3 ?c4 ?c5 ?_)
            | go_in)
          case c1 =>
            intro j u hj
            match j, hj with
            | 0, hj => simp at hj; subst hj; simp [Addr.add]
          case c2 => intro u hu; simp at hu; subst hu; rfl
          case c3 => unfold maxLen; omega
          case c4 => omega
          case c5 => simp; omega
          intro v' w2 hown' hgrow _
          have hB2 : Below w.heap.size w w2 := (hB.alloc (by omega) (.cells #[.int .i64 r] 3)).grown hgrow (by simp; omega) (fun k hk => (hW.lt k hk).1)
          rw [← HVS.out] at hown'
          go_wp2
          go_roundw
          case rel => exact ⟨u + 1, by go_num, by omega, hown', hB2⟩
          case measure => simp [intOf]; omega
    · have hdu : decide ((u : Int) < (z : Int)) = false := by simp; omega
      obtain rfl : u = z := by omega
      go_wp2
      go_ret
      exact ⟨⟨_, rfl, hW⟩, hB⟩
set_option maxRecDepth 100000 in
set_option maxHeartbeats 8000000 in
theorem DegreeOf_any (n : Nat) (l : List Int) (v : Value) (w : World) (hv : Sl w v l) (hn : n ≤ 8) (hl : l.length = 2 ^ n) :
    Calls Tryd.prog 16 #[v] w fun e w' => e = .returned (.int .i64 (dgT (tf l) (2 ^ n) : Int)) ∧ w' = w := by
  obtain ⟨p1, p2⟩ := pow256 hn
  obtain ⟨z, Hz⟩ : ∃ z : Nat, Hid (2 ^ n = z) := ⟨_, rfl⟩
  rw [Hz.out] at p1 p2 hl ⊢
  obtain ⟨a, off, cap, rfl, ha, hcell⟩ := hv.form hl p1
  have HC : Hid (∀ j, j < z → w.cell? ⟨a, off + j, none⟩ = some (.int .i64 (tf l j))) := hcell
  have HD : Hid (∀ u, dgT (tf l) (u + 1) = if tf l u = 1 ∧ dgT (tf l) u < wt u then wt u else dgT (tf l) u) := fun u => rfl
  have HL : Hid (∀ u, dgT (tf l) u ≤ 8) := dgT_le _
  obtain ⟨D, HDD⟩ : ∃ D, Hid (dgT (tf l) = D) := ⟨_, rfl⟩
  rw [HDD.out] at HD HL ⊢
  have HD0 : Hid (D 0 = 0) := by show _ = _; rw [← HDD.out]; rfl
  obtain ⟨f, Hf⟩ : ∃ f, Hid (tf l = f) := ⟨_, rfl⟩
  rw [Hf.out] at HC HD
  have CW := fun u (hu : u < z) => Weight_any u w (by omega)
  obtain ⟨Y, HY⟩ : ∃ y, Hid (D z = y) := ⟨_, rfl⟩
  rw [HY.out]
  clear hv hcell hl
  go_enter Tryd.func16, Tryd.ntmps16
  go_wp2
  go_loopw [3, 4] (fun mv uv wr => ∃ (u m : Nat), uv = .int .i64 (u : Int) ∧ u ≤ z ∧ mv = .int .i64 (m : Int) ∧ Hid (D u = m) ∧ wr = w) (fun _ uv _ => (z - intOf uv).toNat)
  case atStart => exact ⟨0, 0, rfl, by omega, rfl, HD0, rfl⟩
  case round =>
    obtain ⟨u, m, rfl, hu, rfl, HM, hw⟩ := hrel
    replace hw := hw.symm
    subst hw
    by_cases hlt : u < z
    · have hdu : decide ((u : Int) < (z : Int)) = true := by simp; omega
      have huz : (u : Int) < (z : Int) := by omega
      have C := CW u hlt
      have cu := HC.out u hlt
      have hd := HD.out u
      have hwl := wt_le u
      rw [HM.out] at hd
      obtain ⟨t, Ht⟩ : ∃ t, Hid (wt u = t) := ⟨_, rfl⟩
      obtain ⟨x, Hx⟩ : ∃ x, Hid (f u = x) := ⟨_, rfl⟩
      rw [Ht.out] at C hd hwl
      rw [Hx.out] at cu hd
      have HDU : Hid (D (u + 1) = if x = 1 ∧ m < t then t else m) := hd
      clear hd CW
      by_cases x1 : x = 1
      · have e1 : (x == 1) = true := by simp [x1]
        by_cases hm : m < t
        · have dm' : decide ((m : Int) < (t : Int)) = true := by simp; omega
          have HN : Hid (D (u + 1) = t) := by show _ = _; rw [HDU.out, if_pos ⟨x1, hm⟩]
          clear x1 HDU
          go_wp2_with (go_at_call 32; refine C.mono ?_; rintro e w1 ⟨rfl, hw⟩; replace hw := hw.symm; subst hw; clear C)
          go_roundw
          case rel => exact ⟨u + 1, t, by go_num, by omega, rfl, HN, trivial⟩
          case measure => simp [intOf]; omega
        · have dm' : decide ((m : Int) < (t : Int)) = false := by simp; omega
          have dm2 : decide (m < t) = false := by simp; omega
          have HN : Hid (D (u + 1) = m) := by show _ = _; rw [HDU.out, if_neg (fun k => hm k.2)]
          clear x1 HDU
          go_wp2_with (go_at_call 32; refine C.mono ?_; rintro e w1 ⟨rfl, hw⟩; replace hw := hw.symm; subst hw; clear C)
          go_roundw
          case rel => exact ⟨u + 1, m, by go_num, by omega, rfl, HN, trivial⟩
          case measure => simp [intOf]; omega
      · have e1 : (x == 1) = false := by simp [x1]
        have HN : Hid (D (u + 1) = m) := by show _ = _; rw [HDU.out, if_neg (fun k => x1 k.1)]
        clear x1 HDU
        go_wp2_with (go_at_call 32; refine C.mono ?_; rintro e w1 ⟨rfl, hw⟩; replace hw := hw.symm; subst hw; clear C)
        go_roundw
        case rel => exact ⟨u + 1, m, by go_num, by omega, rfl, HN, trivial⟩
        case measure => simp [intOf]; omega
    · have hdu : decide ((u : Int) < (z : Int)) = false := by simp; omega
      obtain rfl : u = z := by omega
      obtain rfl : m = Y := HM.out.symm.trans HY.out
      go_wp2
      go_ret
      exact ⟨rfl, rfl⟩
end Go.Proofs.YtioggiapkkeloaaDoor
