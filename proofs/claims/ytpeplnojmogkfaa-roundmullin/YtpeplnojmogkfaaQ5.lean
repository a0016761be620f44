/- The document's CircleOf, walked. -/
import Derived.Test.YtpeplnojmogkfaaQ4
import Derived.Laws.AppendOwn
namespace Go.Proofs.Ytpeplnojmogkfaa
open Go.RowKit

/-- The first rounds; what is laid of one. -/
def crT (v r : Nat) : List (List Nat) := (List.range r).map (crR v)
theorem crT_more (v r : Nat) : crT v (r + 1) = crT v r ++ [crR v r] := by unfold crT; rw [List.range_succ, List.map_append]; rfl
theorem crT_len (v r : Nat) : (crT v r).length = r := by simp [crT]
def crA (v r a : Nat) : List Nat := (List.range a).map (crF v r)
theorem crA_more (v r a : Nat) : crA v r (a + 1) = crA v r a ++ [crF v r a] := by unfold crA; rw [List.range_succ, List.map_append]; rfl
theorem crA_len (v r a : Nat) : (crA v r a).length = a := by simp [crA]
theorem own_low' {w : World} {b b' n : Nat} {v : Value} {l : List Value} (h : w.ownsRow b 3 1 v n l) (hb : b' ≤ b) : w.ownsRow b' 3 1 v n l := by
  obtain ⟨h0, h | ⟨g, cap, cur, h1, h2, h3⟩⟩ := h
  · exact ⟨h0, .inl h⟩
  · exact ⟨h0, .inr ⟨g, cap, cur, h1, Nat.le_trans hb h2, h3⟩⟩
theorem own_form {w : World} {base n : Nat} {e : TypeId} {v : Value} {xs : List Value} (h : w.ownsRow base e 1 v n xs) : ∃ a c, v = .slice a n c := by
  obtain ⟨_, ⟨rfl, rfl⟩ | ⟨g, cap, cur, rfl, _⟩⟩ := h
  · exact ⟨_, _, rfl⟩
  · exact ⟨_, _, rfl⟩
/-- The numbers of a row of one's own. -/
def nz (l : List Nat) : List Value := (l.map Int.ofNat).map (Value.int .i64)
theorem nz_more (l : List Nat) (x : Nat) : nz (l ++ [x]) = nz l ++ [.int .i64 (x : Int)] := by simp [nz]
set_option maxRecDepth 100000 in
set_option maxHeartbeats 16000000 in
theorem CircleOf_bad (n : Int) (w : World) (h : n < 2 ∨ 16 < n ∨ n % 2 = 1) :
    Calls Try.prog 15 #[.int .i64 n] w fun e w' => e = .returned (.tuple #[.slice none 0 0, .int .i64 1]) ∧ Below w.heap.size w w' := by
  by_cases ha : n < 2
  · have hd : decide (n < 2) = true := by simpa using ha
    go_enter Try.func15, Try.ntmps15
    go_wp2
    go_ret2
    exact ⟨rfl, Below.refl _ _⟩
  · have hd : decide (n < 2) = false := by simpa using ha
    by_cases hb : 16 < n
    · have hd2 : decide (16 < n) = true := by simpa using hb
      go_enter Try.func15, Try.ntmps15
      go_wp2
      go_ret2
      exact ⟨rfl, Below.refl _ _⟩
    · have hd2 : decide (16 < n) = false := by simpa using hb
      have he : (n.tmod 2 == 1) = true := by rw [beq_iff_eq, Int.tmod_eq_emod_of_nonneg (by omega)]; omega
      go_enter Try.func15, Try.ntmps15
      go_wp2
      go_ret2
      exact ⟨rfl, Below.refl _ _⟩
set_option maxRecDepth 100000 in
set_option maxHeartbeats 16000000 in
theorem CircleOf_ok (n : Nat) (w : World) (h2 : 2 ≤ n) (h16 : n ≤ 16) (hev : n % 2 = 0) :
    Calls Try.prog 15 #[.int .i64 (n : Int)] w fun e w' => (∃ y, e = .returned (.tuple #[y, .int .i64 0]) ∧ OR w' w.heap.size y (crL n)) ∧ Below w.heap.size w w' := by
  obtain ⟨i3, ki3, kz0, kz1, kz2⟩ := info3
  obtain ⟨i36, ji3, jz0, jz1, jz2⟩ := info36
  have hd : decide ((n : Int) < 2) = false := by simp; omega
  have hd2 : decide ((16 : Int) < (n : Int)) = false := by simp; omega
  have he : ((n : Int).tmod 2 == 1) = false := by rw [beq_eq_false_iff_ne, Int.tmod_eq_emod_of_nonneg (by omega)]; omega
  have he2 : ((n : Int) % 2 == 1) = false := by rw [beq_eq_false_iff_ne]; omega
  obtain ⟨v, Hv⟩ : ∃ v, Hid (n - 1 = v) := ⟨_, rfl⟩
  have hnv : (n : Int) - 1 = (v : Int) := by rw [← Hv.out]; omega
  have HE : Hid (crT v v = crL n) := by show _ = _; rw [← Hv.out]; rfl
  rw [← HE.out]
  have hv15 : v ≤ 15 := by rw [← Hv.out]; omega
  have hv1 : 1 ≤ v := by rw [← Hv.out]; omega
  clear HE hev
  go_enter Try.func15, Try.ntmps15
  go_wp2
  go_loopw [5, 6] (fun ov rv wr => ∃ (r : Nat) (oa : Option Addr) (oc : Nat), rv = .int .i64 (r : Int) ∧ ov = .slice oa r oc ∧ r ≤ v ∧ OR wr w.heap.size (.slice oa r oc) (crT v r) ∧ Below w.heap.size w wr) (fun _ rv _ => (v - intOf rv).toNat)
  case atStart => exact ⟨0, none, 0, rfl, rfl, by omega, OR.nil _ _, Below.refl _ _⟩
  case round =>
    obtain ⟨r, oa, oc, rfl, rfl, hr, hO, hB⟩ := hrel
    by_cases hlt : r < v
    · have hdr : decide ((r : Int) < (v : Int)) = true := by simp; omega
      have hri : (r : Int) < (v : Int) := by omega
      have hsz := hB.size
      obtain ⟨w1, Hw1⟩ : ∃ w1 : World, Hid (w1 = wr) := ⟨_, rfl⟩
      have HO : Hid (OR w1 w.heap.size (.slice oa r oc) (crT v r)) := by rw [Hw1.out]; exact hO
      have HB1 : Hid (Below w.heap.size w w1) := by rw [Hw1.out]; exact hB
      have HSZ : Hid (w.heap.size ≤ w1.heap.size) := by rw [Hw1.out]; exact hsz
      clear hO hB hsz
      go_wp2
      go_loopw [7, 8] (fun lv av wr => ∃ (a : Nat) (la : Option Addr) (lc : Nat), av = .int .i64 (a : Int) ∧ lv = .slice la a lc ∧ a ≤ v ∧ wr.ownsRow w1.heap.size 3 1 (.slice la a lc) a (nz (crA v r a)) ∧ Below w1.heap.size w1 wr) (fun _ av _ => (v - intOf av).toNat)
      case atStart => exact ⟨0, none, 0, rfl, rfl, by omega, World.ownsRow_nil _ _ _ _, by rw [Hw1.out]; exact Below.refl _ _⟩
      case round =>
        obtain ⟨a, la, lc, rfl, rfl, ha, hown, hB⟩ := hrel
        have hbz := hB.size
        by_cases hla : a < v
        · have hda : decide ((a : Int) < (v : Int)) = true := by simp; omega
          have hai : (a : Int) < (v : Int) := by omega
          obtain ⟨t, Ht⟩ : ∃ t, Hid (2 * r + 2 * v - a = t) := ⟨_, rfl⟩
          obtain ⟨x, Hx⟩ : ∃ x, Hid (t % v = x) := ⟨_, rfl⟩
          have ht : 2 * (r : Int) - (a : Int) + 2 * (v : Int) = (t : Int) := by rw [← Ht.out]; omega
          have hm2 : (t : Int) % (v : Int) = (x : Int) := by rw [← Hx.out]; simp
          have hm1 : (t : Int).tmod (v : Int) = (x : Int) := by rw [Int.tmod_eq_emod_of_nonneg (by omega)]; exact hm2
          have hxv : x < v := by rw [← Hx.out]; exact Nat.mod_lt _ (by omega)
          have ht64 : t ≤ 99 := by rw [← Ht.out]; omega
          have hms := crA_more v r a
          have HF : Hid (crF v r a = if x = a then v else x) := by show _ = _; unfold crF; rw [Ht.out, Hx.out]
          by_cases hxa : x = a
          · have hxe : ((x : Int) == (a : Int)) = true := by simp [hxa]
            have HA : Hid (nz (crA v r (a + 1)) = nz (crA v r a) ++ [.int .i64 (v : Int)]) := by show _ = _; rw [hms, HF.out, if_pos hxa, nz_more]
            clear hms hxa
            go_wp2_with (first
              | (at_builtin; refine wpList_append_own _ rfl _ _ 38 rfl w1.heap.size 3 i3 (.int .i64 0) 1 8 und22 ki3 kz0 kz1 kz2 rfl (by decide) _ _ _ rfl (hown.alloc _) ⟨wr.heap.size, 0, none⟩ 1 1 [.int .i64 (v : Int)] rfl rfl ?c1 ?c2 ?c3 ?c4 ?c5 ?_)
              | go_in)
            case c1 =>
              intro j u hj
              match j, hj with
              | 0, hj => simp at hj; subst hj; simp [Addr.add]
            case c2 => intro u hu; simp at hu; subst hu; rfl
            case c3 => unfold maxLen; omega
            case c4 => omega
            case c5 => simp; omega
            · intro v' w6 hown' hgrow _
              have hb6 : Below w1.heap.size w1 w6 := (hB.alloc hbz _).grown hgrow (by simp; omega) (fun k hk => (hown.lt k hk).1)
              rw [← HA.out] at hown'
              obtain ⟨xa, xc, rfl⟩ := own_form hown'
              go_wp2
              go_roundw
              case rel => exact ⟨a + 1, xa, xc, by go_num, rfl, by omega, hown', hb6⟩
              case measure => simp [intOf]; omega
          · have hxe : ((x : Int) == (a : Int)) = false := by simp; omega
            have HA : Hid (nz (crA v r (a + 1)) = nz (crA v r a) ++ [.int .i64 (x : Int)]) := by show _ = _; rw [hms, HF.out, if_neg hxa, nz_more]
            clear hms hxa
            go_wp2_with (first
              | (at_builtin; refine wpList_append_own _ rfl _ _ 38 rfl w1.heap.size 3 i3 (.int .i64 0) 1 8 und22 ki3 kz0 kz1 kz2 rfl (by decide) _ _ _ rfl (hown.alloc _) ⟨wr.heap.size, 0, none⟩ 1 1 [.int .i64 (x : Int)] rfl rfl ?c1 ?c2 ?c3 ?c4 ?c5 ?_)
              | go_in)
            case c1 =>
              intro j u hj
              match j, hj with
              | 0, hj => simp at hj; subst hj; simp [Addr.add]
            case c2 => intro u hu; simp at hu; subst hu; rfl
            case c3 => unfold maxLen; omega
            case c4 => omega
            case c5 => simp; omega
            · intro v' w6 hown' hgrow _
              have hb6 : Below w1.heap.size w1 w6 := (hB.alloc hbz _).grown hgrow (by simp; omega) (fun k hk => (hown.lt k hk).1)
              rw [← HA.out] at hown'
              obtain ⟨xa, xc, rfl⟩ := own_form hown'
              go_wp2
              go_roundw
              case rel => exact ⟨a + 1, xa, xc, by go_num, rfl, by omega, hown', hb6⟩
              case measure => simp [intOf]; omega
        · have hda : decide ((a : Int) < (v : Int)) = false := by simp; omega
          have hdan : decide (a < v) = false := by simp; omega
          obtain rfl : a = v := by omega
          have HA : Hid (nz (crR a r) = nz (crA a r a) ++ [.int .i64 (r : Int)]) := by show _ = _; rw [← nz_more]; rfl
          have HLR : Hid ((crR a r).length = a + 1) := by simp [crR, Hid]
          go_wp2_with (first
            | (at_builtin; refine wpList_append_own _ rfl _ _ 38 rfl w1.heap.size 3 i3 (.int .i64 0) 1 8 und22 ki3 kz0 kz1 kz2 rfl (by decide) _ _ _ rfl (hown.alloc _) ⟨wr.heap.size, 0, none⟩ 1 1 [.int .i64 (r : Int)] rfl rfl ?c1 ?c2 ?c3 ?c4 ?c5 ?_)
            | go_in)
          case c1 =>
            intro j u hj
            match j, hj with
            | 0, hj => simp at hj; subst hj; simp [Addr.add]
          case c2 => intro u hu; simp at hu; subst hu; rfl
          case c3 => unfold maxLen; omega
          case c4 => omega
          case c5 => simp; omega
          · intro v' w6 hown' hgrow _
            have hb6 : Below w1.heap.size w1 w6 := (hB.alloc hbz _).grown hgrow (by simp; omega) (fun k hk => (hown.lt k hk).1)
            rw [← HA.out] at hown'
            have hrow : ORow w6 w.heap.size v' (crR a r) := by
              show w6.ownsRow w.heap.size 3 1 v' (crR a r).length (nz (crR a r))
              rw [HLR.out]
              exact own_low' hown' HSZ.out
            obtain ⟨ra, rc, rfl⟩ := own_form hown'
            have hb6z := hb6.size
            have HTS : Hid (crT a (r + 1) = crT a r ++ [crR a r]) := crT_more a r
            obtain ⟨vals, h1, h2'⟩ := HO.out.below hb6
            have HH1 : Hid (w6.ownsRow w.heap.size 38 1 (.slice oa r oc) (crT a r).length vals) := h1
            have HH2 : Hid (∀ (i_1 : Nat) (u : Value) (l : List Nat), vals[i_1]? = some u → (crT a r)[i_1]? = some l → ORow w6 w.heap.size u l) := h2'
            rw [crT_len] at h1
            have hs3 : w.heap.size ≤ w6.heap.size := Nat.le_trans HSZ.out hb6z
            clear h2' hown' hgrow hown hB HA
            go_wp2_with (first
              | (at_builtin; refine wpList_append_own _ rfl _ _ 22 rfl w.heap.size 38 i36 (.slice none 0 0) 1 24 undR ji3 jz0 jz1 jz2 rfl (by decide) _ _ _ rfl (h1.alloc _) ⟨w6.heap.size, 0, none⟩ 1 1 [.slice ra (a + 1) rc] rfl rfl ?c1 ?c2 ?c3 ?c4 ?c5 ?_)
              | go_in)
            case c1 =>
              intro j u hj
              match j, hj with
              | 0, hj => simp at hj; subst hj; simp [Addr.add]
            case c2 => intro u hu; simp at hu; subst hu; rfl
            case c3 => unfold maxLen; omega
            case c4 => omega
            case c5 => simp; omega
            · intro v' w7 hown' hgrow _
              have hal := balloc w6 (.cells #[.slice ra (a + 1) rc] 38)
              have hB2 : Below w.heap.size w6 w7 := ((Below.refl _ w6).alloc hs3 _).grown hgrow (by simp; omega) (fun k hk => (h1.lt k hk).1)
              have hO2 : OR w7 w.heap.size v' (crT a r ++ [crR a r]) := OR.more (own_keep HH1.out fun b _ hb => hal.block b hb) (fun i_1 u l' e1 e2 => (HH2.out i_1 u l' e1 e2).below hal) (hrow.below hal) (by rw [crT_len]; exact hown') hgrow
              rw [← HTS.out] at hO2
              obtain ⟨va, vc, rfl⟩ := own_form hown'
              have hB7 : Below w.heap.size w w7 := (HB1.out.trans (hb6.mono HSZ.out)).trans hB2
              go_wp2
              go_roundw
              case rel => exact ⟨r + 1, va, vc, by go_num, rfl, by omega, hO2, hB7⟩
              case measure => simp [intOf]; omega
    · have hdr : decide ((r : Int) < (v : Int)) = false := by simp; omega
      have hdrn : decide (r < v) = false := by simp; omega
      obtain rfl : r = v := by omega
      go_wp2
      go_ret2
      exact ⟨⟨_, rfl, hO⟩, hB⟩
end Go.Proofs.Ytpeplnojmogkfaa
