/- The document's ShadowOf, walked. -/
import Derived.Test.YtmogmkdcplgfjaaV4
import Derived.Deep.RegionHeld3
namespace Go.Proofs.Ytmogmkdcplgfjaa
open Go.RowKit

/-- What is marked: of the sets ahead of one, and of that one, as far as things are looked at. -/
def mkB (n : Nat) (M : List Nat) (i t : Nat) (s : Nat) : Bool := ((List.range i).any fun a => (List.range n).any fun u => (M.getD a 0).testBit u && (M.getD a 0 - 2 ^ u == s)) || ((List.range t).any fun u => (M.getD i 0).testBit u && (M.getD i 0 - 2 ^ u == s))
theorem mkB_yes {n : Nat} {M : List Nat} {i t : Nat} (h : (M.getD i 0).testBit t = true) : updV (mkB n M i t) (M.getD i 0 - 2 ^ t) true = mkB n M i (t + 1) := by
  funext s
  unfold updV mkB
  rw [List.range_succ, List.any_append]
  by_cases e : s = M.getD i 0 - 2 ^ t
  · rw [if_pos e, e]
    simp only [List.any_cons, List.any_nil, h, beq_self_eq_true, Bool.and_self, Bool.or_false, Bool.or_true]
  · rw [if_neg e]
    have : (M.getD i 0 - 2 ^ t == s) = false := by simpa using fun h => e h.symm
    simp only [List.any_cons, List.any_nil, h, this, Bool.and_false, Bool.or_false]
theorem mkB_no {n : Nat} {M : List Nat} {i t : Nat} (h : (M.getD i 0).testBit t = false) : mkB n M i t = mkB n M i (t + 1) := by
  funext s
  unfold mkB
  rw [List.range_succ, List.any_append]
  simp only [List.any_cons, List.any_nil, h, Bool.false_and, Bool.or_false]
theorem mkB_next (n : Nat) (M : List Nat) (i : Nat) : mkB n M i n = mkB n M (i + 1) 0 := by
  funext s
  unfold mkB
  rw [List.range_succ, List.any_append]
  simp only [List.any_cons, List.any_nil, List.range_zero, Bool.or_false]
def shL (n : Nat) (M : List Nat) : List Nat := (List.range (2 ^ n)).filter (mkB n M M.length 0)
theorem filt_yes {p : Nat → Bool} {s : Nat} (h : p s = true) : (List.range (s + 1)).filter p = (List.range s).filter p ++ [s] := by
  rw [List.range_succ, List.filter_append, List.filter_cons_of_pos h]; rfl
theorem filt_no {p : Nat → Bool} {s : Nat} (h : p s = false) : (List.range (s + 1)).filter p = (List.range s).filter p := by
  rw [List.range_succ, List.filter_append, List.filter_cons_of_neg (by rw [h]; decide), List.filter_nil, List.append_nil]
theorem filt_len (p : Nat → Bool) (s : Nat) : ((List.range s).filter p).length ≤ s :=
  Nat.le_trans (List.length_filter_le ..) (by rw [List.length_range]; exact Nat.le_refl _)
theorem bit_and {x t : Nat} (hx : x < 4096) : bits .and .i64 ((x : Int) / 2 ^ t) 1 = (((x / 2 ^ t) % 2 : Nat) : Int) := by
  have h : x / 2 ^ t ≤ x := Nat.div_le_self _ _
  have e : (x : Int) / 2 ^ t = ((x / 2 ^ t : Nat) : Int) := by rw [Int.natCast_ediv]; simp
  rw [e, show (1 : Int) = ((1 : Nat) : Int) from rfl, andM (by omega) (by omega), Nat.and_one_is_mod]
theorem bit_ge {x t : Nat} (h : x.testBit t = true) : 2 ^ t ≤ x := by
  rcases Nat.lt_or_ge x (2 ^ t) with h1 | h1
  · rw [Nat.testBit_lt_two_pow h1] at h; cases h
  · exact h1
set_option maxRecDepth 100000 in
set_option maxHeartbeats 16000000 in
theorem ShadowOf_any (n A : Nat) (M : List Nat) (v : Value) (w : World) (hn : n ≤ 12) (HA2 : Hid (2 ^ n = A)) (hv : Wd w v M) (hl : M.length ≤ 4096) (h4 : ∀ i, i < M.length → M.getD i 0 < A) :
    Calls Try.prog 20 #[.int .i64 (n : Int), v] w fun e w' => (∃ y, e = .returned y ∧ Wd w' y (shL n M)) ∧ Below w.heap.size w w' := by
  obtain ⟨i3, ki3, kz0, kz1, kz2⟩ := info3
  have eA : (1 : Int) * 2 ^ n = (A : Int) := by rw [Int.one_mul, ← HA2.out]; simp
  have hA12 : A ≤ 4096 := by rw [← HA2.out]; exact (Nat.pow_le_pow_right (by decide) hn : 2 ^ n ≤ 2 ^ 12)
  have hAw : IntKind.i64.wrap (A : Int) = (A : Int) := IntWalk.i64_in _ (by omega)
  have hmk : ∀ w : World, (Instr.makeSlice 51 (.int .i64 (A : Int)) (.int .i64 (A : Int))).run Try.prog w = .ok (.slice (some ⟨w.heap.size, 0, none⟩) A A) (w.alloc (.cells (madeCells #[.bool false] A) 4)) := fun w => run_makeB A (by omega) w
  obtain ⟨a, c, rfl, -, hA⟩ := hv
  have HA : Hid (∀ W, Below w.heap.size w W → ∀ i, i < M.length → ∃ b off, a = some ⟨b, off, none⟩ ∧ W.cell? ⟨b, off + i, none⟩ = some (.int .i64 ((M.getD i 0 : Nat) : Int))) := fun W bW i hi => by
    obtain ⟨b, o, e, hc⟩ := hA i hi
    exact ⟨b, o, e, (bW.cell (World.block_lt_of_cell? _ _ hc)).trans hc⟩
  have H4 : Hid (∀ i, i < M.length → M.getD i 0 < A) := h4
  have hO0 : OwV 4 Value.bool (w.alloc (.cells (madeCells #[.bool false] A) 4)) w.heap.size A (mkB n M 0 0) := OwV.made A w _ _ (by intro j; simp [mkB])
  have hB0 := balloc w (.cells (madeCells #[.bool false] A) 4)
  have HY : Hid (∀ i t, (M.getD i 0).testBit t = true → updV (mkB n M i t) (M.getD i 0 - 2 ^ t) true = mkB n M i (t + 1)) := fun i t => mkB_yes
  have HN : Hid (∀ i t, (M.getD i 0).testBit t = false → mkB n M i t = mkB n M i (t + 1)) := fun i t => mkB_no
  have HX : Hid (∀ i, mkB n M i n = mkB n M (i + 1) 0) := mkB_next n M
  obtain ⟨m, Hm⟩ : ∃ m, Hid (M.length = m) := ⟨_, rfl⟩
  obtain ⟨B, HBm⟩ : ∃ B, Hid (mkB n M m 0 = B) := ⟨_, rfl⟩
  have HZ : Hid (shL n M = (List.range A).filter B) := by show _ = _; unfold shL; rw [HA2.out, Hm.out, HBm.out]
  rw [Hm.out] at HA H4 hl ⊢
  rw [HZ.out]
  obtain ⟨g, Hg⟩ : ∃ g, Hid (w.heap.size = g) := ⟨_, rfl⟩
  clear hA h4 HZ HA2
  go_enter Try.func20, Try.ntmps20
  go_wp2
  rw [Hg.out] at hO0 hB0 ⊢
  go_loopw [6] (fun iv wr => ∃ (i : Nat), iv = .int .i64 (i : Int) ∧ i ≤ m ∧ OwV 4 Value.bool wr g A (mkB n M i 0) ∧ Below g w wr) (fun iv _ => (m - intOf iv).toNat)
  case atStart => exact ⟨0, rfl, by omega, hO0, hB0⟩
  case round =>
    clear hO0 hB0 hmk
    obtain ⟨i, rfl, hi, hO, hB⟩ := hrel
    by_cases hlt : i < m
    · have hdi : decide ((i : Int) < (m : Int)) = true := by simp; omega
      have hii : (i : Int) < (m : Int) := by omega
      go_wp2
      go_loopw [7] (fun tv wr => ∃ (t : Nat), tv = .int .i64 (t : Int) ∧ t ≤ n ∧ OwV 4 Value.bool wr g A (mkB n M i t) ∧ Below g w wr) (fun tv _ => (n - intOf tv).toNat)
      case atStart => exact ⟨0, rfl, by omega, hO, hB⟩
      case round =>
        clear hO hB
        obtain ⟨t, rfl, ht, hO, hB⟩ := hrel
        by_cases htl : t < n
        · have hdt : decide ((t : Int) < (n : Int)) = true := by simp; omega
          have htt : (t : Int) < (n : Int) := by omega
          obtain ⟨b1, o1, rfl, c1⟩ := HA.out wr (by rw [Hg.out]; exact hB) i hlt
          have hx4 := H4.out i hlt
          have hy := HY.out i t
          have hno := HN.out i t
          obtain ⟨x, hx⟩ : ∃ x, Hid (M.getD i 0 = x) := ⟨_, rfl⟩
          rw [hx.out] at c1 hx4 hy hno
          have hba := bit_and (t := t) (show x < 4096 by omega)
          have htb : x.testBit t = decide (x / 2 ^ t % 2 = 1) := Nat.testBit_eq_decide_div_mod_eq
          obtain ⟨r, hr⟩ : ∃ r, Hid (x / 2 ^ t % 2 = r) := ⟨_, rfl⟩
          rw [hr.out] at hba htb
          by_cases h1 : r = 1
          · have hbit : x.testBit t = true := by rw [htb]; simpa using h1
            have her : ((r : Int) == 1) = true := by simp; omega
            have hge := bit_ge hbit
            obtain ⟨p, hp⟩ : ∃ p, Hid ((2 ^ t : Nat) = p) := ⟨_, rfl⟩
            have ep : (1 : Int) * 2 ^ t = (p : Int) := by rw [Int.one_mul, ← hp.out]; simp
            have hup := hy hbit
            rw [hp.out] at hge hup
            obtain ⟨q, hq⟩ : ∃ q, Hid (x - p = q) := ⟨_, rfl⟩
            rw [hq.out] at hup
            have eq : (x : Int) - (p : Int) = (q : Int) := by have := hq.out; omega
            have hqA : q < A := by have := hq.out; omega
            have hpw : IntKind.i64.wrap (p : Int) = (p : Int) := IntWalk.i64_in _ (by omega)
            have hqw : IntKind.i64.wrap (q : Int) = (q : Int) := IntWalk.i64_in _ (by omega)
            have hqi : (q : Int) < (A : Int) := by omega
            have HO2 : Hid (OwV 4 Value.bool (wr.drew.setCell ⟨g, q, none⟩ (.bool true)) g A (mkB n M i (t + 1))) := by
              have h := (hO.below (Below.refl _ wr).drew).set q true
              rw [hup] at h
              exact h
            have HB2 : Hid (Below g w (wr.drew.setCell ⟨g, q, none⟩ (.bool true))) := (hB.drew).setCell (Nat.le_refl _) _
            have hcq := hO.cell q hqA
            have hfq := hO.frozen q
            clear hy hno hup htb h1 hbit hO hB
            go_wp2
            refine wp_region_noPanic ?_
            refine wp_region_held_drew (S := fun _ => True) (by kernel_rfl) trivial (fun hSx => ?_)
            refine wpAnyH_take (i := 0) (v := .slice (some ⟨g, 0, none⟩) A A) rfl (by kernel_rfl) (by kernel_rfl) (by kernel_rfl) (fun _ _ _ h => h) (Or.inl ⟨by rfl, fun w' hSw => by (try dsimp only at hSw); go_simp⟩) trivial ?_
            try simp only [Act.put, List.setIfInBounds_toArray]
            refine wpAnyH_take (i := 1) (v := .slice (some ⟨b1, o1, none⟩) m c) rfl (by kernel_rfl) (by kernel_rfl) (by kernel_rfl) (fun _ _ _ h => h) (Or.inl ⟨by rfl, fun w' hSw => by (try dsimp only at hSw); go_simp⟩) trivial ?_
            try simp only [Act.put]
            refine wpAnyH_take (i := 2) (v := .int .i64 (i : Int)) rfl (by kernel_rfl) (by kernel_rfl) (by kernel_rfl) (fun _ _ _ h => h) (Or.inl ⟨by rfl, fun w' hSw => by (try dsimp only at hSw); go_simp⟩) trivial ?_
            try simp only [Act.put]
            refine wpAnyH_take (i := 3) (v := .pointer (some ⟨b1, o1 + i, none⟩)) rfl (by kernel_rfl) (by kernel_rfl) (by kernel_rfl) (fun _ _ _ h => h) (Or.inl ⟨by rfl, fun w' hSw => by (try dsimp only at hSw); go_simp⟩) trivial ?_
            try simp only [Act.put]
            refine wpAnyH_take (i := 5) (v := .int .i64 (t : Int)) rfl (by kernel_rfl) (by kernel_rfl) (by kernel_rfl) (fun _ _ _ h => h) (Or.inl ⟨by rfl, fun w' hSw => by (try dsimp only at hSw); go_simp⟩) trivial ?_
            try simp only [Act.put]
            refine wpAnyH_take (i := 6) (v := .int .i64 (p : Int)) rfl (by kernel_rfl) (by kernel_rfl) (by kernel_rfl) (fun _ _ _ h => h) (Or.inl ⟨by rfl, fun w' hSw => by (try dsimp only at hSw); go_simp⟩) trivial ?_
            try simp only [Act.put]
            refine wpAnyH_ready (rs := [4]) (by kernel_rfl) (by simp) ?_
            refine (AllReadyH.cons rfl (fun J hJ => ?_) AllReadyH.nil)
            go_simp
            refine hJ.out _ _ trivial (fun _ => ?_)
            clear hJ J
            try simp only [Act.put, List.setIfInBounds_toArray]
            refine wpAnyH_take (i := 7) (v := .int .i64 (q : Int)) rfl (by kernel_rfl) (by kernel_rfl) (by kernel_rfl) (fun _ _ _ h => h) (Or.inl ⟨by rfl, fun w' hSw => by (try dsimp only at hSw); go_simp⟩) trivial ?_
            try simp only [Act.put, List.setIfInBounds_toArray]
            refine wpAnyH_take (i := 8) (v := .pointer (some ⟨g, q, none⟩)) rfl (by kernel_rfl) (by kernel_rfl) (by kernel_rfl) (fun _ _ _ h => h) (Or.inl ⟨by rfl, fun w' hSw => by (try dsimp only at hSw); go_simp⟩) trivial ?_
            try simp only [Act.put]
            refine wpAnyH_ready (rs := [9]) (by kernel_rfl) (by simp) ?_
            refine (AllReadyH.cons rfl (fun J hJ => ?_) AllReadyH.nil)
            go_simp
            refine hJ.out _ _ trivial (fun _ => ?_)
            clear hJ J
            try simp only [Act.put, List.setIfInBounds_toArray]
            refine wpAnyH_done (by kernel_rfl) ?_ _
            refine NoPanic.normal ?_
            clear hSx
            go_wp2
            go_roundw
            case rel => exact ⟨t + 1, by go_num, by omega, HO2.out, HB2.out⟩
            case measure => simp [intOf]; omega
          · have hbit : x.testBit t = false := by rw [htb]; simpa using h1
            have her : ((r : Int) == 1) = false := by simp; omega
            have hO2 := hO
            rw [hno hbit] at hO2
            clear hy hno htb h1 hbit hO
            go_wp2
            go_roundw
            case rel => exact ⟨t + 1, by go_num, by omega, hO2, hB⟩
            case measure => simp [intOf]; omega
        · have hdt : decide ((t : Int) < (n : Int)) = false := by simp; omega
          obtain rfl : t = n := by omega
          have hO2 := hO
          rw [HX.out i] at hO2
          go_wp2
          go_roundw
          case rel => exact ⟨i + 1, by go_num, by omega, hO2, hB⟩
          case measure => simp [intOf]; omega
    · have hdi : decide ((i : Int) < (m : Int)) = false := by simp; omega
      obtain rfl : i = m := by omega
      rw [HBm.out] at hO
      have hgs : g < wr.heap.size := hO.lt
      have hown0 := World.ownsRow_nil wr (g + 1) 3 1
      go_wp2
      go_loopw [8, 9] (fun ov sv wr => ∃ (s : Nat) (P : List Nat) (oa : Option Addr) (oc : Nat), sv = .int .i64 (s : Int) ∧ ov = .slice oa P.length oc ∧ s ≤ A ∧ Hid (P = (List.range s).filter B) ∧ OwV 4 Value.bool wr g A B ∧ wr.ownsRow (g + 1) 3 1 (.slice oa P.length oc) P.length (nz P) ∧ Below g w wr) (fun _ sv _ => (A - intOf sv).toNat)
      case atStart => exact ⟨0, [], none, 0, rfl, rfl, by omega, rfl, hO, hown0, hB⟩
      case round =>
        clear hO hB hown0 hgs
        obtain ⟨s, P, oa, oc, rfl, rfl, hs, HP, hO, hown, hB⟩ := hrel
        have hgs : g < wr.heap.size := hO.lt
        have hPl : P.length ≤ s := by rw [HP.out]; exact filt_len B s
        by_cases hsl : s < A
        · have hds : decide (s < A) = true := by simpa using hsl
          have hds2 : decide ((s : Int) < (A : Int)) = true := by simp; omega
          have hss : (s : Int) < (A : Int) := by omega
          have hcs := hO.cell s hsl
          obtain ⟨k, hk⟩ : ∃ k, Hid (P.length = k) := ⟨_, rfl⟩
          cases e : B s with
          | true =>
            rw [e] at hcs
            have HP2 : Hid (P ++ [s] = (List.range (s + 1)).filter B) := by show _ = _; rw [filt_yes e, ← HP.out]
            have hpl : (P ++ [s]).length = k + 1 := by rw [List.length_append, hk.out]; rfl
            rw [hk.out] at hown hPl ⊢
            clear e
            go_wp2_with (first
              | (at_builtin; refine wpList_append_own _ rfl _ _ 22 rfl (g + 1) 3 i3 (.int .i64 0) 1 8 und22 ki3 kz0 kz1 kz2 rfl (by decide) _ _ _ rfl (hown.alloc _) ⟨wr.heap.size, 0, none⟩ 1 1 [.int .i64 (s : Int)] rfl rfl ?c1 ?c2 ?c3 ?c4 ?c5 ?_)
              | go_in)
            case c1 =>
              intro j u hj
              match j, hj with
              | 0, hj => simp at hj; subst hj; simp [Addr.add]
            case c2 => intro u hu; simp at hu; subst hu; rfl
            case c3 => unfold maxLen; omega
            case c4 => omega
            case c5 => simp; omega
            intro v' w6 hown' hgrow _
            have hb6 : Below g w w6 := (hB.alloc (by have := hB.size; have := Hg.out; omega) _).grown hgrow (by have := hB.size; have := Hg.out; simp; omega) (fun k hk => Nat.le_trans (Nat.le_succ g) (hown.lt k hk).1)
            have hO6 : OwV 4 Value.bool w6 g A B := by
              obtain ⟨cur, hcur, hall⟩ := hO
              refine ⟨cur, ?_, hall⟩
              rw [hgrow.block g (by simp; omega) (fun e => by have := (hown.lt g e.symm).1; omega), heap_alloc_old wr _ hgs]
              exact hcur
            rw [show nz P ++ [Value.int .i64 (s : Int)] = nz (P ++ [s]) from (nz_more P s).symm] at hown'
            obtain ⟨xa, xc, rfl⟩ := own_form hown'
            go_wp2
            go_roundw
            case rel => exact ⟨s + 1, P ++ [s], xa, xc, by go_num, by rw [hpl], by omega, HP2, hO6, by rw [hpl]; exact hown', hb6⟩
            case measure => simp [intOf]; omega
          | false =>
            rw [e] at hcs
            have HP2 : Hid (P = (List.range (s + 1)).filter B) := by show _ = _; rw [filt_no e, ← HP.out]
            clear e
            go_wp2
            go_roundw
            case rel => exact ⟨s + 1, P, oa, oc, by go_num, rfl, by omega, HP2, hO, hown, hB⟩
            case measure => simp [intOf]; omega
        · have hds : decide (s < A) = false := by simpa using hsl
          have hds2 : decide ((s : Int) < (A : Int)) = false := by simp; omega
          obtain rfl : s = A := by omega
          have hO2 : ORow wr (g + 1) (.slice oa P.length oc) P := hown
          go_wp2
          go_ret
          exact ⟨⟨_, rfl, by rw [← HP.out]; exact hO2.own⟩, by rw [Hg.out]; exact hB⟩
end Go.Proofs.Ytmogmkdcplgfjaa
