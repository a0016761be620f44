/- The document's FactorsOf, walked. -/
import Derived.Test.YtcjkcgfohmhbcaaW2
import Derived.Test.YtcjkcgfohmhbcaaDOw
import Derived.Laws.AppendOwn
namespace Go.Proofs.Ytcjkcgfohmhbcaa
open Go.RowKit

theorem own_form {w : World} {base n : Nat} {e : TypeId} {v : Value} {xs : List Value} (h : w.ownsRow base e 1 v n xs) : ∃ a c, v = .slice a n c := by
  obtain ⟨_, ⟨rfl, rfl⟩ | ⟨g, cap, cur, rfl, _⟩⟩ := h
  · exact ⟨_, _, rfl⟩
  · exact ⟨_, _, rfl⟩
/-- The numbers of a row of one's own. -/
def nz (l : List Nat) : List Value := (l.map Int.ofNat).map (Value.int .i64)
theorem nz_more (l : List Nat) (x : Nat) : nz (l ++ [x]) = nz l ++ [.int .i64 (x : Int)] := by simp [nz]
/-- How long the pieces are. -/
def facL (w : List Nat) : List Nat := (fcP w.length w).map List.length
theorem fcP_fuel {f : Nat} {w : List Nat} (h : w.length ≤ f) : fcP f w = fcP w.length w := fcP_one (fcP_fal f w h) (fcP_flat f w h)
theorem facL_nil : facL [] = [] := rfl
theorem facL_step {w : List Nat} (h : 0 < w.length) : facL w = lgL w w.length :: facL (w.drop (lgL w w.length)) := by
  have hg := lgL_is w w.length (Nat.le_refl _) h
  obtain ⟨n, hn⟩ : ∃ n, w.length = n + 1 := ⟨w.length - 1, by omega⟩
  have e : fcP w.length w = w.take (lgL w w.length) :: fcP n (w.drop (lgL w w.length)) := by
    conv => lhs; rw [hn, fcP, if_neg (by omega)]
  unfold facL
  rw [e, List.map_cons, List.length_take, fcP_fuel (by rw [List.length_drop]; omega)]
  congr 1
  omega
theorem facL_len (w : List Nat) : (facL w).length ≤ w.length := by
  have key : ∀ (f : Nat) (w : List Nat), w.length ≤ f → (fcP f w).length ≤ w.length := by
    intro f
    induction f with
    | zero => intro w _; simp [fcP]
    | succ f ih =>
      intro w hw
      unfold fcP
      split
      · simp
      · rename_i h0
        have hg := lgL_is w w.length (Nat.le_refl _) (by omega)
        have := ih (w.drop (lgL w w.length)) (by rw [List.length_drop]; omega)
        rw [List.length_drop] at this
        rw [List.length_cons]
        omega
  unfold facL
  rw [List.length_map]
  exact key _ w (Nat.le_refl _)
theorem Wd.drop' {w : World} {b o n c : Nat} {M : List Nat} (h : Wd w (.slice (Option.some ⟨b, o, none⟩) n c) M) {i : Nat} (hi : i ≤ n) : Wd w (.slice (if c = i then Option.some ⟨b, o, none⟩ else Option.some ⟨b, o + i, none⟩) (n - i) (c - i)) (M.drop i) := by
  by_cases e : c = i
  · rw [if_pos e]
    obtain ⟨a', c', e2, h0, hk⟩ := h
    cases e2
    have hl : (M.drop i).length = M.length - i := by rw [List.length_drop]
    refine ⟨_, _, by rw [hl], by rw [hl]; omega, fun j hj => ?_⟩
    rw [hl] at hj
    omega
  · rw [if_neg e]
    exact h.drop hi
def slLen : Value → Nat
  | .slice _ n _ => n
  | _ => 0
set_option maxRecDepth 100000 in
set_option maxHeartbeats 8000000 in
theorem FactorsOf_any (M : List Nat) (v : Value) (w : World) (hv : Wd w v M) (hl : M.length ≤ 4096) :
    Calls Try.prog 16 #[v] w fun e w' => (∃ y, e = .returned y ∧ ORow w' w.heap.size y (facL M)) ∧ Below w.heap.size w w' := by
  obtain ⟨i3, ki3, kz0, kz1, kz2⟩ := info3
  have hML : (facL M).length ≤ 4096 := Nat.le_trans (facL_len M) hl
  obtain ⟨va, vc, rfl, -, -⟩ := id hv
  go_enter Try.func16, Try.ntmps16
  go_wp2
  go_loopw [0, 3] (fun Vv ov wr => ∃ (R P : List Nat) (oa : Option Addr) (oc : Nat), ov = .slice oa P.length oc ∧ True ∧ Wd w Vv R ∧ R.length ≤ 4096 ∧ Hid (facL M = P ++ facL R) ∧ wr.ownsRow w.heap.size 3 1 (.slice oa P.length oc) P.length (nz P) ∧ Below w.heap.size w wr) (fun Vv _ _ => slLen Vv)
  case atStart => exact ⟨M, [], none, 0, rfl, trivial, hv, hl, rfl, World.ownsRow_nil _ _ _ _, Below.refl _ _⟩
  case round =>
    clear hv hl
    obtain ⟨R, P, oa, oc, rfl, -, hv, hl, HP, hown, hB⟩ := hrel
    have hPl : P.length ≤ 4096 := by
      have := congrArg List.length HP.out
      rw [List.length_append] at this
      omega
    rcases Nat.eq_zero_or_pos R.length with h0 | h0
    · obtain ⟨ra, rc, rfl, -, -⟩ := hv
      have e0 : R = [] := List.length_eq_zero_iff.1 h0
      subst e0
      have HF : Hid (facL M = P) := by show _ = _; rw [HP.out, facL_nil, List.append_nil]
      rw [List.length_nil]
      go_wp2
      go_ret
      exact ⟨⟨_, rfl, by rw [HF.out]; exact hown⟩, hB⟩
    · obtain ⟨b, o, c, rfl, hc⟩ := hv.some h0
      have HWR : Hid (∀ W, Below w.heap.size w W → Wd W (.slice (some ⟨b, o, none⟩) R.length c) R) := fun W b => hv.below b
      have HST : Hid (facL R = lgL R R.length :: facL (R.drop (lgL R R.length))) := facL_step h0
      have HL1 : Hid (lgL R 1 = 1) := by show _ = _; unfold lgL; rw [if_neg (fun h => absurd h.1 (by decide))]
      have HLT : Hid (∀ k, 1 < k → lyB (R.take k) = true → lgL R k = k) := fun k h1 h2 => by
        obtain ⟨j, rfl⟩ : ∃ j, k = j + 1 := ⟨k - 1, by omega⟩
        unfold lgL; rw [if_neg (fun h => by rw [h2] at h; cases h.2)]
      have HLF : Hid (∀ k, 1 < k → lyB (R.take k) = false → lgL R k = lgL R (k - 1)) := fun k h1 h2 => by
        obtain ⟨j, rfl⟩ : ∃ j, k = j + 1 := ⟨k - 1, by omega⟩
        conv => lhs; unfold lgL
        rw [if_pos ⟨h1, h2⟩]; rfl
      obtain ⟨w1, Hw1⟩ : ∃ w1, Hid (w1 = wr) := ⟨_, rfl⟩
      have HB1 : Hid (Below w.heap.size w w1) := by rw [Hw1.out]; exact hB
      obtain ⟨m, Hm⟩ : ∃ m, Hid (R.length = m) := ⟨_, rfl⟩
      have HC : Hid (∀ W k, Below w1.heap.size w1 W → k ≤ R.length → Calls Try.prog 17 #[.slice (some ⟨b, o, none⟩) k c] W fun e w' => e = .returned (.bool (lyB (R.take k))) ∧ Below W.heap.size W w') := fun W k bW hk => LyndonOf_any (R.take k) _ W ((HWR.out W (HB1.out.trans (bW.mono HB1.out.size))).take hk) (by rw [List.length_take]; omega)
      rw [Hm.out] at HWR HST HC h0 hc hl
      rw [Hm.out]
      have hd0 : decide ((0 : Int) < (m : Int)) = true := by simp; omega
      have hm0 : (0 : Int) < (m : Int) := by omega
      obtain ⟨q, Hq⟩ : ∃ q, Hid (P.length = q) := ⟨_, rfl⟩
      rw [Hq.out] at hown hPl ⊢
      clear hv
      go_wp2
      go_loopw [4] (fun nv wr => ∃ k : Nat, nv = .int .i64 (k : Int) ∧ 1 ≤ k ∧ k ≤ m ∧ Hid (lgL R k = lgL R m) ∧ wr.ownsRow w.heap.size 3 1 (.slice oa q oc) q (nz P) ∧ Below w1.heap.size w1 wr) (fun nv _ => (intOf nv).toNat)
      case atStart => exact ⟨m, rfl, by omega, by omega, rfl, hown, by rw [Hw1.out]; exact Below.refl _ _⟩
      case round =>
        clear hown hB
        obtain ⟨k, rfl, hk1, hkm, HK, hown, hB1⟩ := hrel
        have hB := HB1.out.trans (hB1.mono HB1.out.size)
        have hbs := hB.size
        have hk0 : (0 : Int) ≤ (k : Int) := by omega
        have hkmi : (k : Int) ≤ (m : Int) := by omega
        have hkci : (k : Int) ≤ (c : Int) := by omega
        have hmci : (m : Int) ≤ (c : Int) := by omega
        by_cases hk : 1 < k
        · have hd1 : decide ((1 : Int) < (k : Int)) = true := by simp; omega
          have C := HC.out wr k hB1 hkm
          have ht := HLT.out k hk
          have hf := HLF.out k hk
          obtain ⟨p, Hp⟩ : ∃ p, Hid (lyB (R.take k) = p) := ⟨_, rfl⟩
          rw [Hp.out] at C ht hf
          cases p with
          | true =>
            have HKE : Hid (lgL R m = k) := by show _ = _; rw [← HK.out]; exact ht rfl
            clear ht hf
            go_wp2_with (first
              | (go_at_call 17; refine C.mono ?_; rintro e w2 ⟨rfl, hb2⟩; clear C; have hown2 := own_keep hown (fun b _ hb => hb2.block b hb); have hB2 := hB.trans (hb2.mono hbs); have hbs2 := hB2.size; have hB12 := Below.next hB1 hb2)
              | (at_builtin; refine wpList_append_own _ rfl _ _ 22 rfl w.heap.size 3 i3 (.int .i64 0) 1 8 und22 ki3 kz0 kz1 kz2 rfl (by decide) _ _ _ rfl (hown2.alloc _) ⟨w2.heap.size, 0, none⟩ 1 1 [.int .i64 (k : Int)] rfl rfl ?c1 ?c2 ?c3 ?c4 ?c5 ?_)
              | go_in)
            case c1 =>
              intro j u hj
              match j, hj with
              | 0, hj => simp at hj; subst hj; simp [Addr.add]
            case c2 => intro u hu; simp at hu; subst hu; rfl
            case c3 => unfold maxLen; omega
            case c4 => omega
            case c5 => simp; omega
            · intro v' w6 hown' hgrow _
              have hb6 : Below w.heap.size w w6 := (hB2.alloc (by omega) _).grown hgrow (by simp; omega) (fun k hk => (hown2.lt k hk).1)
              have hwd : Wd w (.slice (some ⟨b, o, none⟩) m c) R := HWR.out w (Below.refl _ _)
              rw [show nz P ++ [Value.int .i64 (k : Int)] = nz (P ++ [k]) from (nz_more P k).symm] at hown'
              obtain ⟨xa, xc, rfl⟩ := own_form hown'
              have hwd2 := hwd.drop' (i := k) (by omega)
              have hrl : (R.drop k).length = m - k := by rw [List.length_drop, Hm.out]
              have HP2 : Hid (facL M = (P ++ [k]) ++ facL (R.drop k)) := by show _ = _; rw [HP.out, HST.out, HKE.out]; simp
              have hpl : (P ++ [k]).length = q + 1 := by rw [List.length_append, Hq.out]; rfl
              go_wp2
              go_roundw
              case rel => exact ⟨R.drop k, P ++ [k], xa, xc, by rw [hpl], trivial, hwd2, by rw [hrl]; omega, HP2, by rw [hpl]; exact hown', hb6⟩
              case measure => simp [slLen]; omega
          | false =>
            have HK2 : Hid (lgL R (k - 1) = lgL R m) := by show _ = _; rw [← HK.out]; exact (hf rfl).symm
            clear ht hf
            go_wp2_with (first
              | (go_at_call 17; refine C.mono ?_; rintro e w2 ⟨rfl, hb2⟩; clear C; have hown2 := own_keep hown (fun b _ hb => hb2.block b hb))
              | go_in)
            go_roundw
            case rel => exact ⟨k - 1, by go_num, by omega, by omega, HK2, hown2, Below.next hB1 hb2⟩
            case measure => simp [intOf]; omega
        · have hd1 : decide ((1 : Int) < (k : Int)) = false := by simp; omega
          obtain rfl : k = 1 := by omega
          have HKE : Hid (lgL R m = 1) := by show _ = _; rw [← HK.out]; exact HL1.out
          go_wp2_with (first
            | (at_builtin; refine wpList_append_own _ rfl _ _ 22 rfl w.heap.size 3 i3 (.int .i64 0) 1 8 und22 ki3 kz0 kz1 kz2 rfl (by decide) _ _ _ rfl (hown.alloc _) ⟨wr.heap.size, 0, none⟩ 1 1 [.int .i64 (1 : Int)] rfl rfl ?c1 ?c2 ?c3 ?c4 ?c5 ?_)
            | go_in)
          case c1 =>
            intro j u hj
            match j, hj with
            | 0, hj => simp at hj; subst hj; simp [Addr.add]
          case c2 => intro u hu; simp at hu; subst hu; rfl
          case c3 => unfold maxLen; omega
          case c4 => omega
          case c5 => simp; omega
          · intro v' w6 hown' hgrow _
            have hb6 : Below w.heap.size w w6 := (hB.alloc (by omega) _).grown hgrow (by simp; omega) (fun k hk => (hown.lt k hk).1)
            have hwd : Wd w (.slice (some ⟨b, o, none⟩) m c) R := HWR.out w (Below.refl _ _)
            rw [show nz P ++ [Value.int .i64 (1 : Int)] = nz (P ++ [1]) from (nz_more P 1).symm] at hown'
            obtain ⟨xa, xc, rfl⟩ := own_form hown'
            have hwd2 := hwd.drop' (i := 1) (by omega)
            have hrl : (R.drop 1).length = m - 1 := by rw [List.length_drop, Hm.out]
            have HP2 : Hid (facL M = (P ++ [1]) ++ facL (R.drop 1)) := by show _ = _; rw [HP.out, HST.out, HKE.out]; simp
            have hpl : (P ++ [1]).length = q + 1 := by rw [List.length_append, Hq.out]; rfl
            go_wp2
            go_roundw
            case rel => exact ⟨R.drop 1, P ++ [1], xa, xc, by rw [hpl], trivial, hwd2, by rw [hrl]; omega, HP2, by rw [hpl]; exact hown', hb6⟩
            case measure => simp [slLen]; omega
end Go.Proofs.Ytcjkcgfohmhbcaa
