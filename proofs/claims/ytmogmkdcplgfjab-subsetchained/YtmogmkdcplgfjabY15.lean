/- One chain: things put into a set, one by one. -/
import Derived.Test.YtmogmkdcplgfjabVQ
import Derived.Test.YtmogmkdcplgfjabY5
import Derived.WalkMore
namespace Go.Proofs.Ytmogmkdcplgfjab
open Go.RowKit

theorem orM {a b : Nat} (ha : a < 4096) (hb : b < 4096) : bits .or .i64 (a : Int) (b : Int) = ((a ||| b : Nat) : Int) := by
  have hx : a ||| b < 2 ^ 12 := Nat.or_lt_two_pow (n := 12) ha hb
  have h1 : (BitVec.ofInt (8 * 8) (a : Int)).toNat = a := by
    rw [BitVec.ofInt_natCast, BitVec.toNat_ofNat]; exact Nat.mod_eq_of_lt (by omega)
  have h2 : (BitVec.ofInt (8 * 8) (b : Int)).toNat = b := by
    rw [BitVec.ofInt_natCast, BitVec.toNat_ofNat]; exact Nat.mod_eq_of_lt (by omega)
  show IntKind.i64.wrap ((BitVec.ofInt (8 * 8) (a : Int) ||| BitVec.ofInt (8 * 8) (b : Int)).toNat : Int) = _
  rw [BitVec.toNat_or, h1, h2, IntKind.wrap_i64]
  omega
/-- What a set becomes while things are put in. -/
def ptL : Nat → List Nat → List Nat
  | _, [] => []
  | s, a :: L => (s ||| 2 ^ a) :: ptL (s ||| 2 ^ a) L
theorem ptL_len : ∀ (L : List Nat) (s : Nat), (ptL s L).length = L.length
  | [], _ => rfl
  | _ :: L, s => by show (ptL _ L).length + 1 = L.length + 1; rw [ptL_len L]
set_option maxRecDepth 100000 in
theorem pt_all : (List.range 11).all (fun n => (List.range (2 ^ n)).all fun s => !((alS s n).1 == 0) || (chO n n s == some (ptL s (alS s n).2) && (alS s n).2.all (fun a => Nat.blt a n))) = true := by decide +kernel
theorem pt_at {n s : Nat} (hn : n ≤ 10) (hs : s < 2 ^ n) (h : (alS s n).1 = 0) : chO n n s = some (ptL s (alS s n).2) ∧ ∀ a ∈ (alS s n).2, a < n := by
  have a := List.all_eq_true.1 (List.all_eq_true.1 pt_all n (List.mem_range.2 (by omega))) s (List.mem_range.2 hs)
  rw [h] at a
  simp only [beq_self_eq_true, Bool.not_true, Bool.false_or, Bool.and_eq_true, beq_iff_eq] at a
  refine ⟨a.1, fun x hx => ?_⟩
  have := List.all_eq_true.1 a.2 x hx
  rwa [Nat.blt_eq] at this
theorem cn_yes {n s : Nat} (hn : n ≤ 10) (hs : s < 2 ^ n) (h : (alS s n).1 = 0) : cnR n (s + 1) = cnR n s ++ [s :: ptL s (alS s n).2] := by
  conv => lhs; unfold cnR
  rw [if_pos h, (pt_at hn hs h).1]; rfl
theorem cn_no {n s : Nat} (h : ¬ (alS s n).1 = 0) : cnR n (s + 1) = cnR n s := by
  conv => lhs; unfold cnR
  rw [if_neg h]
theorem al_up (s : Nat) : ∀ i, (alS s i).1 ≤ (alS s (i + 1)).1 := fun i => by
  conv => rhs; unfold alS
  split
  · exact Nat.le_refl _
  · split
    · exact Nat.le_succ _
    · exact Nat.le_refl _
theorem al_mono (s : Nat) {i j : Nat} (h : i ≤ j) : (alS s i).1 ≤ (alS s j).1 := by
  induction h with
  | refl => exact Nat.le_refl _
  | step _ ih => exact Nat.le_trans ih (al_up s _)
theorem al_stop {s i n : Nat} (hi : i < n) (hb : s.testBit i = true) (he : (alS s i).2 = []) : ¬ (alS s n).1 = 0 := by
  have h1 : (alS s (i + 1)).1 = (alS s i).1 + 1 := by
    conv => lhs; unfold alS
    rw [if_neg (by rw [hb]; decide), if_pos he]
  have h2 := al_mono s (show i + 1 ≤ n from hi)
  omega
theorem drop_at {L : List Nat} {i : Nat} (h : i < L.length) : L.drop i = L.getD i 0 :: L.drop (i + 1) := by
  rw [List.drop_eq_getElem_cons h, List.getD_eq_getElem?_getD, List.getElem?_eq_getElem h]; rfl
set_option maxRecDepth 100000 in
set_option maxHeartbeats 8000000 in
theorem chain_any (s : Nat) (L : List Nat) (v : Value) (w : World) (hs : s < 1024) (hl : L.length ≤ 10) (h10 : ∀ i, i < L.length → L.getD i 0 < 10) (hv : Wd w v L) :
    Calls Try.prog 22 #[.int .i64 (s : Int), v] w fun e w' => (∃ y, e = .returned y ∧ ORow w' w.heap.size y (s :: ptL s L)) ∧ Below w.heap.size w w' := by
  obtain ⟨i3, ki3, kz0, kz1, kz2⟩ := info3
  obtain ⟨a, c, rfl, -, hA⟩ := hv
  have HA : Hid (∀ W, Below w.heap.size w W → ∀ i, i < L.length → ∃ b off, a = some ⟨b, off, none⟩ ∧ W.cell? ⟨b, off + i, none⟩ = some (.int .i64 ((L.getD i 0 : Nat) : Int))) := fun W bW i hi => by
    obtain ⟨b, o, e, hc⟩ := hA i hi
    exact ⟨b, o, e, (bW.cell (World.block_lt_of_cell? _ _ hc)).trans hc⟩
  obtain ⟨Z, HZ⟩ : ∃ Z, Hid (s :: ptL s L = Z) := ⟨_, rfl⟩
  have HZ0 : Hid (Z = [s] ++ ptL s (L.drop 0)) := HZ.out.symm
  have hZl : Z.length ≤ 11 := by rw [← HZ.out, List.length_cons, ptL_len]; omega
  have HD : Hid (∀ i t, i < L.length → ptL t (L.drop i) = (t ||| 2 ^ L.getD i 0) :: ptL (t ||| 2 ^ L.getD i 0) (L.drop (i + 1))) := fun i t h => by rw [drop_at h]; rfl
  have HE : Hid (∀ t, ptL t (L.drop L.length) = []) := fun t => by rw [List.drop_length]; rfl
  have H10 : Hid (∀ i, i < L.length → L.getD i 0 < 10) := h10
  have hcn := own_one w s
  have hbC := balloc w (.cells #[.int .i64 (s : Int)] 3)
  rw [HZ.out]
  obtain ⟨m, Hm⟩ : ∃ m, Hid (L.length = m) := ⟨_, rfl⟩
  rw [Hm.out] at HA HD HE H10 hl ⊢
  obtain ⟨g, Hg⟩ : ∃ g, Hid (w.heap.size = g) := ⟨_, rfl⟩
  rw [Hg.out] at hcn hbC
  clear hA h10
  go_enter Try.func22, Try.ntmps22
  go_wp2
  simp only [Hg.out]
  go_loopw [0, 5, 12] (fun sv ov iv wr => ∃ (i t : Nat) (P : List Nat) (oa : Option Addr) (oc : Nat), iv = .int .i64 (i : Int) ∧ sv = .int .i64 (t : Int) ∧ ov = .slice oa P.length oc ∧ i ≤ m ∧ t < 1024 ∧ Hid (Z = P ++ ptL t (L.drop i)) ∧ wr.ownsRow g 3 1 (.slice oa P.length oc) P.length (nz P) ∧ Below g w wr) (fun _ _ iv _ => (m - intOf iv).toNat)
  case atStart => exact ⟨0, s, [s], some ⟨g, 0, none⟩, 1, rfl, rfl, rfl, by omega, hs, HZ0.out, hcn, hbC⟩
  case round =>
    clear hcn hbC hs HZ0
    obtain ⟨i, t, P, oa, oc, rfl, rfl, rfl, hi, ht, HP, hown, hB⟩ := hrel
    have hPl : P.length ≤ 11 := by
      have := congrArg List.length HP.out
      rw [List.length_append] at this
      omega
    obtain ⟨k, hk⟩ : ∃ k, Hid (P.length = k) := ⟨_, rfl⟩
    have HGs : Hid (g ≤ wr.heap.size) := by have := hB.size; have := Hg.out; show _ ≤ _; omega
    by_cases hlt : i < m
    · have hdi : decide ((i : Int) < (m : Int)) = true := by simp; omega
      have hii : (i : Int) < (m : Int) := by omega
      obtain ⟨b1, o1, rfl, c1⟩ := HA.out wr (by rw [Hg.out]; exact hB) i hlt
      have hx10 := H10.out i hlt
      have hst := HD.out i t hlt
      obtain ⟨x, hx⟩ : ∃ x, Hid (L.getD i 0 = x) := ⟨_, rfl⟩
      rw [hx.out] at c1 hx10 hst
      have hp10 : 2 ^ x < 2 ^ 10 := Nat.pow_lt_pow_right (by decide) hx10
      have hor : t ||| 2 ^ x < 2 ^ 10 := Nat.or_lt_two_pow (by omega) hp10
      have ebo := orM (a := t) (b := 2 ^ x) (by omega) (by omega)
      have ep : (1 : Int) * 2 ^ x = ((2 ^ x : Nat) : Int) := by rw [Int.one_mul]; simp
      obtain ⟨p, Hp⟩ : ∃ p, Hid (2 ^ x = p) := ⟨_, (rfl : 2 ^ x = 2 ^ x)⟩
      rw [Hp.out] at hp10 hor hst ep
      have ebp : ((2 ^ x : Nat) : Int) = (p : Int) := by rw [Hp.out]
      rw [ebp] at ebo
      rw [Hp.out] at ebo
      obtain ⟨q, Hq⟩ : ∃ q, Hid (t ||| p = q) := ⟨_, rfl⟩
      rw [Hq.out] at hor hst ebo
      have hpw : IntKind.i64.wrap (p : Int) = (p : Int) := IntWalk.i64_in _ (by omega)
      have HP2 : Hid (Z = (P ++ [q]) ++ ptL q (L.drop (i + 1))) := by show _ = _; rw [HP.out, hst, List.append_assoc]; rfl
      have hpl : (P ++ [q]).length = k + 1 := by rw [List.length_append, hk.out]; rfl
      rw [hk.out] at hown hPl ⊢
      clear hst ebp
      go_wp2_with (first
        | (at_builtin; refine wpList_append_own _ rfl _ _ 22 rfl g 3 i3 (.int .i64 0) 1 8 und22 ki3 kz0 kz1 kz2 rfl (by decide) _ _ _ rfl (hown.alloc _) ⟨wr.heap.size, 0, none⟩ 1 1 [.int .i64 (q : Int)] rfl rfl ?c1 ?c2 ?c3 ?c4 ?c5 ?_)
        | go_in)
      case c1 =>
        intro j u hj
        match j, hj with
        | 0, hj => simp at hj; subst hj; simp [Addr.add]
      case c2 => intro u hu; simp at hu; subst hu; rfl
      case c3 => unfold maxLen; omega
      case c4 => omega
      case c5 => have := HGs.out; simp; omega
      intro v' w6 hown' hgrow _
      have hb6 : Below g w w6 := (hB.alloc HGs.out _).grown hgrow (by have := HGs.out; simp; omega) (fun k hk => (hown.lt k hk).1)
      rw [show nz P ++ [Value.int .i64 (q : Int)] = nz (P ++ [q]) from (nz_more P q).symm] at hown'
      obtain ⟨xa, xc, rfl⟩ := own_form hown'
      go_wp2
      go_roundw
      case rel => exact ⟨i + 1, q, P ++ [q], xa, xc, by go_num, rfl, by rw [hpl], by omega, by omega, HP2, by rw [hpl]; exact hown', hb6⟩
      case measure => simp [intOf]; omega
    · have hdi : decide ((i : Int) < (m : Int)) = false := by simp; omega
      obtain rfl : i = m := by omega
      have HF : Hid (Z = P) := by show _ = _; rw [HP.out, ← Hm.out, (by rw [Hm.out]; exact HE.out t : ptL t (L.drop L.length) = []), List.append_nil]
      have hO : ORow wr g (.slice oa P.length oc) P := hown
      go_wp2
      go_ret
      exact ⟨⟨_, rfl, by rw [HF.out, Hg.out]; exact hO⟩, by rw [Hg.out]; exact hB⟩
end Go.Proofs.Ytmogmkdcplgfjab
