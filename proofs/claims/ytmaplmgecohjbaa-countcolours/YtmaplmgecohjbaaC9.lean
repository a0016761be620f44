/- The walk of kinds' cycles. -/
import Derived.Test.YtmaplmgecohjbaaC8
namespace Go.Proofs.Ytmaplmgecohjbaa
open Go.RowKit Go.Maps

/-- How many of these kinds have c cycles. -/
def cycT (L : List (List Nat)) (c : Nat) : Int := (L.map fun y => if y.sum = c then (1 : Int) else 0).sum
theorem kinds_below {w w' : World} {B n : Nat} {D : DataW Unit} (h : w.ownsMap Try.prog 75 (plainElem Try.prog 3) B n D) (hb : Below w.heap.size w w') : w'.ownsMap Try.prog 75 (plainElem Try.prog 3) B n D := h.kept (grown_of_below hb) (by simp)
theorem ind_le (L : List (List Nat)) (p : List Nat → Prop) [DecidablePred p] : (L.map fun y => if p y then (1 : Int) else 0).sum ≤ L.length := by
  induction L with
  | nil => simp
  | cons a l ih =>
    rw [List.map_cons, List.sum_cons, List.length_cons]
    split <;> omega

set_option maxRecDepth 100000 in
set_option maxHeartbeats 2000000 in
theorem cycles_map (B n : Nat) (D : DataW Unit) (L : List (List Nat)) (w : World) (hown : w.ownsMap Try.prog 75 (plainElem Try.prog 3) B n D) (hD : KindsIs D L) (hL : ∀ y ∈ L, SmK y ∧ y.sum ≤ 7) (hn : n ≤ 6000) (hLl : L.length ≤ 6000) :
    Calls Try.prog 45 #[.map (some B)] w fun e w' => MapAns w n 8 (cycT L) e w' := by
  have hmm := @run_makeMap Try.prog
  have hbl := hown.lt
  have hsz := hown.size_le
  have e1 : (w.alloc (.map #[] 0)).heap.size = w.heap.size + 1 := by simp
  have HL : Hid (∀ y ∈ L, SmK y ∧ y.sum ≤ 7) := hL
  have HL' : Hid (∀ y ∈ L, SmK y) := fun y hy => (hL y hy).1
  have HD : Hid (KindsIs D L) := hD
  obtain ⟨S0, HS0⟩ : ∃ S0, Hid (Maps.size D = S0) := ⟨_, rfl⟩
  rw [HS0.out] at hsz
  have hst := fun c => sumK_start hD (fun y => if y.sum = c then (1 : Int) else 0)
  have HST : Hid (∀ c : Nat, sumK L (Maps.has D) (fun y => if y.sum = c then (1 : Int) else 0) = 0) := hst
  clear hL hD hst
  go_enter Try.func45, Try.ntmps45
  go_wp2_with (first
    | (at_range; refine wpList_range_own _ rfl _ 52 rfl 75 3 keyed75 und52k _ B n _ rfl (hown.alloc _) ?_; intro w0 hrg0 hg0 hs0)
    | go_in)
  go_frame
  rw [e1] at hrg0 hs0 ⊢
  rw [HS0.out] at hrg0
  go_loopw [5] (fun _ wr => ∃ (left : Lit → Bool) (cnt : Nat) (Do : DataW Unit), wr.ranges Try.prog 75 (plainElem Try.prog 3) B (w.heap.size + 1) n D left cnt ∧ cnt ≤ S0 ∧
      wr.ownsMap Try.prog 3 (plainElem Try.prog 3) w.heap.size (S0 - cnt) Do ∧ TallyIs Do (fun c => sumK L left (fun y => if y.sum = c then 1 else 0)) 8 ∧ Below w.heap.size w wr)
    (fun _ wr => wr.rangeLeft B (w.heap.size + 1))
  case atStart =>
    exact ⟨_, _, .map [], hrg0, Nat.le_refl _, ((World.ownsMap_made _ _ _ _).kept hg0 (by simp)).mono (Nat.zero_le _), (TallyIs.empty _).congr (fun c => (HST.out c).symm), ((Below.refl _ _).alloc (Nat.le_refl _) _).grown hg0 (by simp) (fun j hj => by cases hj)⟩
  case round =>
    clear hrg0 hg0 hs0 HST
    obtain ⟨left, cnt, Do, hrg, hcs, hout, hT, hnx⟩ := hrel
    go_wp2_with (first
      | (at_next; refine wpList_next_ranges _ rfl _ rfl 75 keyed75 (plainElem Try.prog 3) (fun v : Value => v) (Value.int .i64) (fun key kl _ => ⟨key, rfl⟩) (fun v y hv => by obtain ⟨c, rfl, _⟩ := plainElem_int_inv und3 hv; exact ⟨c, rfl⟩) B (w.heap.size + 1) n _ _ _ rfl hrg ?_ ?_)
      | go_in)
    · intro hc0 hl0
      have HLl := hl0
      clear hl0
      have hT' : TallyIs Do (cycT L) 8 := hT.congr (fun c => sumK_all HLl)
      clear HLl
      go_wp2
      go_ret
      exact ⟨w.heap.size, Do, rfl, Nat.le_refl _, hout.mono (by omega), hT', hnx⟩
    · intro key c kl yd yp w1 cnt1 hkey hlk hv hat hrg1 hlt hg1 hs1 hen
      obtain ⟨x, hxL, ekl⟩ := HD.out.has kl (has_true_of_atKey hat)
      subst ekl
      obtain ⟨hxs, hx7⟩ := HL.out x hxL
      have ek : key = mv x := keyed75.inj hkey (keyK_of hxs)
      subst ek
      obtain ⟨c', ec, ey, hwc⟩ := plainElem_int_inv und3 hv
      cases ec
      have hcx : c = (L.count x : Int) := by
        have h1 := hat (.lit (.int .i64 0))
        have ey1 : yd = .lit (.int .i64 c) := (Prod.mk.inj ey).1
        rw [HD.out.at_ x hxL, ey1] at h1
        simp only [DataW.lit.injEq, Lit.int.injEq, true_and] at h1
        exact h1.symm
      have hc1 : 1 ≤ c := by
        have := List.count_pos_iff.2 hxL
        omega
      have hc2 : c ≤ 6000 := by
        have := List.count_le_length (a := x) (l := L)
        omega
      have hout1 := hout.kept hg1 (by simp)
      have hnx1 : Below w.heap.size w w1 := hnx.grown hg1 hnx.size (fun j hj => by cases hj; omega)
      have hsize1 : w.heap.size + 1 < w1.heap.size := hrg1.lt
      unfold mv at hen ⊢
      obtain ⟨F, HF⟩ : ∃ F : Nat → Int, Hid ((fun j => (x.getD j 0 : Int)) = F) := ⟨_, rfl⟩
      rw [HF.out] at hen ⊢
      have hk0 := MRow.made 75 w1 (fun _ => 0)
      have hB0 := balloc w1 (.cells (mrow fun _ => 0) 75)
      have hk1 := hk0.whole F
      have hB1 : Below w1.heap.size w1 ((w1.alloc (.cells (mrow fun _ => 0) 75)).setRow w1.heap.size (mrow F)) := bsetRow hB0 (Nat.le_refl _) _
      have hCy := fun W => kindCycles_any x W hxs
      unfold mv at hCy
      rw [HF.out] at hCy
      obtain ⟨s, Hs⟩ : ∃ s, Hid (x.sum = s) := ⟨_, rfl⟩
      rw [Hs.out] at hCy hx7
      have hout2 := tally_below hout1 hB1
      have hrg2 := hrg1.kept (grown_of_below hB1) (by simp) (by simp)
      rw [← mrow_zero] at hk0
      have HX : Hid (SmK x ∧ c = (L.count x : Int) ∧ left (keyK x) = true) := ⟨hxs, hcx, hlk⟩
      clear hkey hlk hv hat ey hwc hxs hcx hxL hs1
      go_wp2_with (first
        | (refine wpList_store_row rfl 75 _ _ rfl w1.heap.size _ rfl rfl 75 _ hk0 (inf75 _) (by simp) (mrow_one _) ?_; rw [mrow_zero])
        | (refine wpList_load_row rfl 75 _ rfl w1.heap.size rfl 75 _ (0, 0) _ hk1 und75 rfl (inf75 _) ?_)
        | (go_at_call 65; refine (hCy _).mono ?_; rintro e w3 ⟨rfl, b3⟩; have hout3 := tally_below hout2 b3; have hrg3 := hrg2.kept (grown_of_below b3) (by simp) (by simp); have hnx3 := Below.trans hnx1 ((Below.next hB1 b3).mono hnx1.size))
        | (at_lookup; refine wpList_lookup_own_int _ rfl _ _ 63 rfl 3 3 .i64 law3 und63 und3 (zero3 _) w.heap.size (S0 - cnt) _ rfl hout3 _ _ rfl (keyOf_int_mk und3 (WalkArith.wf_i64 (by omega))) ?_; intro t hatt hwt; have htx := hT.look (by omega) hatt; have htb := sumK_bd (L := L) (left := left) (F := fun y => if y.sum = s then (1 : Int) else 0) (fun y => by split <;> omega); have htl := ind_le L (fun y => y.sum = s)
           have ht0 : 0 ≤ t := by rw [htx]; exact htb.1
           have ht1 : t ≤ 6000 := by rw [htx]; have := htb.2; omega
           have HTX : Hid (t = sumK L left (fun y => if y.sum = s then 1 else 0)) := htx
           clear htx htb htl hatt hwt)
        | (at_mapUpdate; refine wpList_mapUpdate_own _ rfl _ _ _ 63 rfl 3 3 law3 und63 _ w.heap.size _ _ rfl hout3 (by unfold maxLen; omega) _ _ _ rfl rfl (keyOf_int_mk und3 (WalkArith.wf_i64 (by omega))) _ [] (plainElem_int und3 (WalkArith.wf_i64 (by omega))) ?_; intro w4 hout4 hg4; go_frame)
        | go_in)
      have hrg4 := hrg3.kept hg4 (fun e => by have := Option.some.inj e; omega) (fun e => by have := Option.some.inj e; omega)
      go_roundw
      case rel =>
        refine ⟨_, cnt1, _, hrg4, by omega, hout4.mono (by omega), (hT.put (c := s) hout3.isMap (by omega) (v := t + c) (by omega)).congr (fun q => ?_), hnx3.grown hg4 hnx3.size (fun j hj => by cases hj; exact Nat.le_refl _)⟩
        obtain ⟨hxs, hcx, hlk⟩ := HX.out
        rw [sumK_strike hxs hlk _ HL'.out, ← hcx]
        unfold upd
        by_cases e : q = s
        · subst e
          rw [if_pos rfl, if_pos Hs.out, Int.mul_one, HTX.out]
        · rw [if_neg e, if_neg (by rw [Hs.out]; exact fun h => e h.symm), Int.mul_zero, Int.add_zero]
      case measure => rw [hrg4.left_eq, hrg.left_eq]; exact hlt

end Go.Proofs.Ytmaplmgecohjbaa
