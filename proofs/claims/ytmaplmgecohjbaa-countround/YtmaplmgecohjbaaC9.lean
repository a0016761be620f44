/- The walk of kinds' cycles. -/
import Derived.Test.YtmaplmgecohjbaaC4
import Derived.Test.YtmaplmgecohjbaaGK
import Derived.Test.YtmaplmgecohjbaaCKind
import Derived.WideKeyEntry
/- Kinds as keys; the walk of kind's cycles. -/
namespace Go.Proofs.Ytmaplmgecohjbaa
open Go.RowKit Go.Maps

theorem und75 : Try.prog.underlying 75 = some (.array 7 3) := by kernel_rfl
theorem inf75 (f : Nat → Int) : (Try.prog.info? 75).map (·.size) = some (mrow f).size := by rw [mrow_size]; kernel_rfl
theorem inf75L (x : List Nat) : (Try.prog.info? 75).map (·.size) = some (mvL x).length := by rw [mvL_len]; kernel_rfl
theorem und52k : Try.prog.underlying 52 = some (.map 75 3) := by kernel_rfl
theorem idx75 (f : Nat → Int) (k : Nat) (h : k < 7) (w : World) : (Instr.index 75 (.agg (mrow f)) (.int .i64 (k : Int))).run Try.prog w = .ok (.int .i64 (f k)) w := by
  have : k = 0 ∨ k = 1 ∨ k = 2 ∨ k = 3 ∨ k = 4 ∨ k = 5 ∨ k = 6 := by omega
  rcases this with rfl | rfl | rfl | rfl | rfl | rfl | rfl <;> (change _ = _; kernel_rfl)
theorem keyLaw75 : Go.WideMaps.KeyLaw Try.prog 75 := deep_law_laid laidOutG (m := 2) (by omega) (of_decide_eq_true (by kernel_rfl)) (by kernel_rfl) (by rw [und75])
theorem keyed75 : Keyed Try.prog 75 := Keyed.of_law keyLaw75
theorem cells75 : Try.prog.cellsOf 75 = 7 := by kernel_rfl
theorem keyType75 : Try.prog.keyType 75 = true := by kernel_rfl
theorem key_krow (f : Nat → Int) (hf : ∀ j, j < 7 → (Lit.int .i64 (f j)).wf = true) : ∃ kl, keyOf Try.prog 75 (.agg (mrow f)) = some kl := by
  unfold keyOf
  rw [und75]
  have hfm : (Value.agg (mrow f)).formed Try.prog 75 = true := by simp [Value.formed, cells75]
  simp only [keyType75, hfm, Bool.and_self, if_true]
  have h3 : ∀ (d : Nat) (n : Int), (Lit.int .i64 n).wf = true → Try.prog.keyLits (d + 1) 3 [.int .i64 n] = some [.int .i64 n] := by
    intro d n hn
    unfold Program.keyLits
    rw [und3]
    simp [hn]
  have hl : (Value.agg (mrow f)).cells.toList = (List.range 7).map fun j => Value.int .i64 (f j) := by simp [Value.cells, mrow]
  rw [hl]
  have hmain : ∀ m, Try.prog.keyLits (m + 1 + 1) 75 ((List.range 7).map fun j => Value.int .i64 (f j)) = some ((List.range 7).map fun j => Lit.int .i64 (f j)) := by
    intro m
    unfold Program.keyLits
    rw [und75]
    simp only [cells75, cells3', List.length_map, List.length_range, if_true]
    simp [List.range_succ, h3 _ _ (hf 0 (by omega)), h3 _ _ (hf 1 (by omega)), h3 _ _ (hf 2 (by omega)), h3 _ _ (hf 3 (by omega)), h3 _ _ (hf 4 (by omega)), h3 _ _ (hf 5 (by omega)), h3 _ _ (hf 6 (by omega))]
  obtain ⟨m, hm⟩ := types_pos
  rw [hm, hmain m]
  exact ⟨_, rfl⟩
/-- Seven numbers, none above 7. -/
def SmK (x : List Nat) : Prop := x.length = 7 ∧ ∀ i, i < 7 → x.getD i 0 ≤ 7
noncomputable def keyK (x : List Nat) : Lit := @Classical.epsilon Lit ⟨.bool false⟩ fun kl => keyOf Try.prog 75 (mv x) = some kl
theorem keyK_of {x : List Nat} (h : SmK x) : keyOf Try.prog 75 (mv x) = some (keyK x) := by
  obtain ⟨kl, e⟩ := key_krow (fun j => (x.getD j 0 : Int)) (fun j hj => by
    have := h.2 j hj
    exact WalkArith.wf_i64 (by omega))
  exact @Classical.epsilon_spec_aux Lit ⟨.bool false⟩ (fun kl => keyOf Try.prog 75 (mv x) = some kl) ⟨kl, e⟩
theorem keyK_lit {x : List Nat} (h : SmK x) : WideAt.IsKeyLit (keyK x) := keyed75.key (keyK_of h)
theorem keyK_inj {x y : List Nat} (hx : SmK x) (hy : SmK y) (e : keyK x = keyK y) : x = y :=
  mv_inj hx.1 hy.1 (keyed75.inj (keyK_of hx) (by rw [e]; exact keyK_of hy))

/-- What a map of kinds reads as: a list of kinds, each with how often it stands there. -/
structure KindsIs (D : DataW Unit) (L : List (List Nat)) : Prop where
  has : ∀ kl, Maps.has D kl = true → ∃ x ∈ L, kl = keyK x
  mem : ∀ x ∈ L, Maps.has D (keyK x) = true
  at_ : ∀ x ∈ L, ∀ z, D.atKey (keyK x) z = .lit (.int .i64 (L.count x : Int))
theorem KindsIs.empty : KindsIs (.map []) [] := ⟨fun kl h => by simp [Maps.has] at h, fun x h => absurd h (by simp), fun x h => absurd h (by simp)⟩
theorem KindsIs.look {D : DataW Unit} {L : List (List Nat)} (h : KindsIs D L) (hL : ∀ y ∈ L, SmK y) {x : List Nat} (hx : SmK x) {c : Int} (hat : D.atKey (keyK x) (.lit (.int .i64 0)) = .lit (.int .i64 c)) : c = (L.count x : Int) := by
  by_cases e : x ∈ L
  · rw [h.at_ x e] at hat
    simp only [DataW.lit.injEq, Lit.int.injEq, true_and] at hat
    exact hat.symm
  · have hn : Maps.has D (keyK x) = false := by
      cases hh : Maps.has D (keyK x) with
      | false => rfl
      | true =>
        obtain ⟨y, hy, e1⟩ := h.has _ hh
        rw [keyK_inj hx (hL y hy) e1] at e
        exact absurd hy e
    rw [atKey_of_not_has hn] at hat
    simp only [DataW.lit.injEq, Lit.int.injEq, true_and] at hat
    rw [List.count_eq_zero.2 e]; omega
theorem KindsIs.put {D : DataW Unit} {L : List (List Nat)} (h : KindsIs D L) (hD : IsMap D) (hL : ∀ y ∈ L, SmK y) {x : List Nat} (hx : SmK x) : KindsIs (D.put (keyK x) (.lit (.int .i64 ((L.count x : Int) + 1)))) (L ++ [x]) := by
  refine ⟨fun kl hk => ?_, fun y hy => ?_, fun y hy z => ?_⟩
  · by_cases e : kl = keyK x
    · exact ⟨x, by simp, e⟩
    · rw [has_put_other e] at hk
      obtain ⟨y, hy, e1⟩ := h.has _ hk
      exact ⟨y, by simp [hy], e1⟩
  · by_cases e : y = x
    · subst e; exact has_put_same hD (keyK_lit hx) _
    · have hy' : y ∈ L := by simpa [e] using hy
      rw [has_put_other (fun e1 => e (keyK_inj (hL y hy') hx e1))]
      exact h.mem y hy'
  · by_cases e : y = x
    · subst e
      rw [atKey_put_same hD (keyK_lit hx)]
      simp [List.count_append]
    · have hy' : y ∈ L := by simpa [e] using hy
      rw [atKey_put_other (fun e1 => e (keyK_inj (hL y hy') hx e1)), h.at_ y hy']
      have : List.count y [x] = 0 := List.count_eq_zero.2 (by simpa using e)
      rw [List.count_append, this, Nat.add_zero]

/-- The sum over what has come. -/
noncomputable def sumK (L : List (List Nat)) (left : Lit → Bool) (F : List Nat → Int) : Int := (L.map fun y => if left (keyK y) then 0 else F y).sum
theorem sumK_all {L : List (List Nat)} {left : Lit → Bool} {F : List Nat → Int} (h : ∀ kl, left kl = false) : sumK L left F = (L.map F).sum := by
  unfold sumK; congr 1; exact List.map_congr_left fun y _ => by simp [h]
theorem sumK_start {D : DataW Unit} {L : List (List Nat)} (h : KindsIs D L) (F : List Nat → Int) : sumK L (Maps.has D) F = 0 := by
  unfold sumK
  rw [List.map_congr_left (g := fun _ => (0 : Int)) fun y hy => by simp [h.mem y hy]]
  clear h
  induction L with
  | nil => rfl
  | cons a l ih => rw [List.map_cons, List.sum_cons, ih]; rfl
theorem sumK_strike {left : Lit → Bool} {x : List Nat} (hx : SmK x) (hl : left (keyK x) = true) (F : List Nat → Int) : ∀ {L : List (List Nat)}, (∀ y ∈ L, SmK y) → sumK L (fun z => left z && !z.sameKey (keyK x)) F = sumK L left F + (L.count x : Int) * F x
  | [], _ => by simp [sumK]
  | y :: L, h => by
    have ih := sumK_strike hx hl F (L := L) fun z hz => h z (by simp [hz])
    have hs : (keyK x).sameKey (keyK x) = true := WideAt.sameKey_self (keyK_lit hx)
    unfold sumK at ih ⊢
    rw [List.map_cons, List.sum_cons, ih, List.map_cons, List.sum_cons]
    by_cases e : y = x
    · subst e
      rw [List.count_cons_self]
      simp only [hl, hs, Bool.not_true, Bool.and_false, Bool.false_eq_true, if_false, if_true]
      rw [Int.natCast_succ, Int.add_mul, Int.one_mul]; omega
    · have hne : (keyK y).sameKey (keyK x) = false := sameKey_ne fun e1 => e (keyK_inj (h y (by simp)) hx e1)
      rw [List.count_cons_of_ne e]
      simp only [hne, Bool.not_false, Bool.and_true]
      omega
theorem sumK_bd {L : List (List Nat)} {left : Lit → Bool} {F : List Nat → Int} (h : ∀ y, 0 ≤ F y) : 0 ≤ sumK L left F ∧ sumK L left F ≤ (L.map F).sum := by
  unfold sumK
  induction L with
  | nil => simp
  | cons a l ih =>
    rw [List.map_cons, List.sum_cons, List.map_cons, List.sum_cons]
    have := h a
    split <;> omega

/-- All seven numbers together. -/
def all7 (x : List Nat) (k : Nat) : Nat := ((List.range k).map fun j => x.getD j 0).sum
theorem all7_succ (x : List Nat) (k : Nat) : all7 x (k + 1) = all7 x k + x.getD k 0 := by simp [all7, List.range_succ]
theorem all7_sum {x : List Nat} (h : x.length = 7) : all7 x 7 = x.sum := by
  match x, h with
  | [a, b, c, d, e, f, g], _ => simp [all7, List.range_succ]
theorem all7_le {x : List Nat} (h : SmK x) : ∀ k, k ≤ 7 → all7 x k ≤ 7 * k
  | 0, _ => by simp [all7]
  | k + 1, hk => by rw [all7_succ]; have := all7_le h k (by omega); have := h.2 k (by omega); omega

set_option maxRecDepth 100000 in
set_option maxHeartbeats 1000000 in
theorem kindCycles_any (x : List Nat) (w : World) (hx : SmK x) :
    Calls Try.prog 65 #[mv x] w fun e w' => e = .returned (.int .i64 (x.sum : Int)) ∧ Below w.heap.size w w' := by
  rw [← all7_sum hx.1]
  obtain ⟨z, Hz⟩ : ∃ z, Hid (all7 x 7 = z) := ⟨_, rfl⟩
  rw [Hz.out]
  unfold mv
  obtain ⟨F, HF⟩ : ∃ F : Nat → Int, Hid ((fun j => (x.getD j 0 : Int)) = F) := ⟨_, rfl⟩
  rw [HF.out]
  have hFx : ∀ j, F j = (x.getD j 0 : Int) := fun j => by rw [← HF.out]
  have hk0 := MRow.made 75 w F
  have hB0 := balloc w (.cells (mrow F) 75)
  go_enter Try.func65, Try.ntmps65
  go_wp2_with (refine wpList_load_row rfl 75 _ rfl w.heap.size rfl 75 _ (0, 0) _ hk0 und75 rfl (inf75 _) ?_)
  go_loop [3, 7] (fun s i => ∃ k : Nat, i = .int .i64 (k : Int) ∧ k ≤ 7 ∧ s = .int .i64 (all7 x k : Int)) (fun _ i => (7 - intOf i).toNat)
  case atStart => exact ⟨0, rfl, by omega, rfl⟩
  case round =>
    obtain ⟨k, rfl, hk, rfl⟩ := hrel
    by_cases hlt : k < 7
    · have hki : (k : Int) < 7 := by omega
      have hdec : decide ((k : Int) < 7) = true := by simp; omega
      have hix := idx75 F k hlt
      obtain ⟨s, Hs⟩ : ∃ s, Hid (all7 x k = s) := ⟨_, rfl⟩
      have hsb := all7_le hx k (by omega)
      obtain ⟨y, Hy⟩ : ∃ y, Hid (x.getD k 0 = y) := ⟨_, rfl⟩
      have hyb := hx.2 k hlt
      have hFk := hFx k
      have hst := all7_succ x k
      rw [Hs.out] at hsb hst ⊢
      rw [Hy.out] at hyb hFk hst
      rw [hFk] at hix
      clear hFk
      go_wp2
      go_round
      case rel => exact ⟨k + 1, by go_num, by omega, by rw [hst]; go_num⟩
      case measure => simp [intOf]; omega
    · obtain rfl : k = 7 := by omega
      rw [Hz.out]
      go_wp2
      go_ret
      exact ⟨rfl, hB0⟩

end Go.Proofs.Ytmaplmgecohjbaa

namespace Go.Proofs.Ytmaplmgecohjbaa
open Go.RowKit Go.Maps

/-- How many of these kinds have c cycles. -/
def cycT (L : List (List Nat)) (c : Nat) : Int := (L.map fun y => if y.sum = c then (1 : Int) else 0).sum
theorem kinds_below {w w' : World} {B n : Nat} {D : DataW Unit} (h : w.ownsMap Try.prog 75 (plainElem Try.prog 3) B n D) (hb : Below w.heap.size w w') : w'.ownsMap Try.prog 75 (plainElem Try.prog 3) B n D := h.kept (grown_of_below hb) (by simp)
theorem ind_le (L : List (List Nat)) (p : List Nat → Prop) [DecidablePred p] : (L.map fun y => if p y then (1 : Int) else 0).sum ≤ L.length := by
  induction L with
  | nil => simp
  | cons a l ih =>
    rw [List.map_cons, List.sum_cons, List.length_cons]
    split <;> omega

set_option maxRecDepth 100000 in
set_option maxHeartbeats 2000000 in
theorem cycles_map (B n : Nat) (D : DataW Unit) (L : List (List Nat)) (w : World) (hown : w.ownsMap Try.prog 75 (plainElem Try.prog 3) B n D) (hD : KindsIs D L) (hL : ∀ y ∈ L, SmK y ∧ y.sum ≤ 7) (hn : n ≤ 6000) (hLl : L.length ≤ 6000) :
    Calls Try.prog 45 #[.map (some B)] w fun e w' => MapAns w n 8 (cycT L) e w' := by
  have hmm := @run_makeMap Try.prog
  have hbl := hown.lt
  have hsz := hown.size_le
  have e1 : (w.alloc (.map #[] 0)).heap.size = w.heap.size + 1 := by simp
  have HL : Hid (∀ y ∈ L, SmK y ∧ y.sum ≤ 7) := hL
  have HL' : Hid (∀ y ∈ L, SmK y) := fun y hy => (hL y hy).1
  have HD : Hid (KindsIs D L) := hD
  obtain ⟨S0, HS0⟩ : ∃ S0, Hid (Maps.size D = S0) := ⟨_, rfl⟩
  rw [HS0.out] at hsz
  have hst := fun c => sumK_start hD (fun y => if y.sum = c then (1 : Int) else 0)
  have HST : Hid (∀ c : Nat, sumK L (Maps.has D) (fun y => if y.sum = c then (1 : Int) else 0) = 0) := hst
  clear hL hD hst
  go_enter Try.func45, Try.ntmps45
  go_wp2_with (first
    | (at_range; refine wpList_range_own _ rfl _ 52 rfl 75 3 keyed75 und52k _ B n _ rfl (hown.alloc _) ?_; intro w0 hrg0 hg0 hs0)
    | go_in)
  go_frame
  rw [e1] at hrg0 hs0 ⊢
  rw [HS0.out] at hrg0
  go_loopw [5] (fun _ wr => ∃ (left : Lit → Bool) (cnt : Nat) (Do : DataW Unit), wr.ranges Try.prog 75 (plainElem Try.prog 3) B (w.heap.size + 1) n D left cnt ∧ cnt ≤ S0 ∧
      wr.ownsMap Try.prog 3 (plainElem Try.prog 3) w.heap.size (S0 - cnt) Do ∧ TallyIs Do (fun c => sumK L left (fun y => if y.sum = c then 1 else 0)) 8 ∧ Below w.heap.size w wr)
    (fun _ wr => wr.rangeLeft B (w.heap.size + 1))
  case atStart =>
    exact ⟨_, _, .map [], hrg0, Nat.le_refl _, ((World.ownsMap_made _ _ _ _).kept hg0 (by simp)).mono (Nat.zero_le _), (TallyIs.empty _).congr (fun c => (HST.out c).symm), ((Below.refl _ _).alloc (Nat.le_refl _) _).grown hg0 (by simp) (fun j hj => by cases hj)⟩
  case round =>
    clear hrg0 hg0 hs0 HST
    obtain ⟨left, cnt, Do, hrg, hcs, hout, hT, hnx⟩ := hrel
    go_wp2_with (first
      | (at_next; refine wpList_next_ranges _ rfl _ rfl 75 keyed75 (plainElem Try.prog 3) (fun v : Value => v) (Value.int .i64) (fun key kl _ => ⟨key, rfl⟩) (fun v y hv => by obtain ⟨c, rfl, _⟩ := plainElem_int_inv und3 hv; exact ⟨c, rfl⟩) B (w.heap.size + 1) n _ _ _ rfl hrg ?_ ?_)
      | go_in)
    · intro hc0 hl0
      have HLl := hl0
      clear hl0
      have hT' : TallyIs Do (cycT L) 8 := hT.congr (fun c => sumK_all HLl)
      clear HLl
      go_wp2
      go_ret
      exact ⟨w.heap.size, Do, rfl, Nat.le_refl _, hout.mono (by omega), hT', hnx⟩
    · intro key c kl yd yp w1 cnt1 hkey hlk hv hat hrg1 hlt hg1 hs1 hen
      obtain ⟨x, hxL, ekl⟩ := HD.out.has kl (has_true_of_atKey hat)
      subst ekl
      obtain ⟨hxs, hx7⟩ := HL.out x hxL
      have ek : key = mv x := keyed75.inj hkey (keyK_of hxs)
      subst ek
      obtain ⟨c', ec, ey, hwc⟩ := plainElem_int_inv und3 hv
      cases ec
      have hcx : c = (L.count x : Int) := by
        have h1 := hat (.lit (.int .i64 0))
        have ey1 : yd = .lit (.int .i64 c) := (Prod.mk.inj ey).1
        rw [HD.out.at_ x hxL, ey1] at h1
        simp only [DataW.lit.injEq, Lit.int.injEq, true_and] at h1
        exact h1.symm
      have hc1 : 1 ≤ c := by
        have := List.count_pos_iff.2 hxL
        omega
      have hc2 : c ≤ 6000 := by
        have := List.count_le_length (a := x) (l := L)
        omega
      have hout1 := hout.kept hg1 (by simp)
      have hnx1 : Below w.heap.size w w1 := hnx.grown hg1 hnx.size (fun j hj => by cases hj; omega)
      have hsize1 : w.heap.size + 1 < w1.heap.size := hrg1.lt
      unfold mv at hen ⊢
      obtain ⟨F, HF⟩ : ∃ F : Nat → Int, Hid ((fun j => (x.getD j 0 : Int)) = F) := ⟨_, rfl⟩
      rw [HF.out] at hen ⊢
      have hk0 := MRow.made 75 w1 (fun _ => 0)
      have hB0 := balloc w1 (.cells (mrow fun _ => 0) 75)
      have hk1 := hk0.whole F
      have hB1 : Below w1.heap.size w1 ((w1.alloc (.cells (mrow fun _ => 0) 75)).setRow w1.heap.size (mrow F)) := bsetRow hB0 (Nat.le_refl _) _
      have hCy := fun W => kindCycles_any x W hxs
      unfold mv at hCy
      rw [HF.out] at hCy
      obtain ⟨s, Hs⟩ : ∃ s, Hid (x.sum = s) := ⟨_, rfl⟩
      rw [Hs.out] at hCy hx7
      have hout2 := tally_below hout1 hB1
      have hrg2 := hrg1.kept (grown_of_below hB1) (by simp) (by simp)
      rw [← mrow_zero] at hk0
      have HX : Hid (SmK x ∧ c = (L.count x : Int) ∧ left (keyK x) = true) := ⟨hxs, hcx, hlk⟩
      clear hkey hlk hv hat ey hwc hxs hcx hxL hs1
      go_wp2_with (first
        | (refine wpList_store_row rfl 75 _ _ rfl w1.heap.size _ rfl rfl 75 _ hk0 (inf75 _) (by simp) (mrow_one _) ?_; rw [mrow_zero])
        | (refine wpList_load_row rfl 75 _ rfl w1.heap.size rfl 75 _ (0, 0) _ hk1 und75 rfl (inf75 _) ?_)
        | (go_at_call 65; refine (hCy _).mono ?_; rintro e w3 ⟨rfl, b3⟩; have hout3 := tally_below hout2 b3; have hrg3 := hrg2.kept (grown_of_below b3) (by simp) (by simp); have hnx3 := Below.trans hnx1 ((Below.next hB1 b3).mono hnx1.size))
        | (at_lookup; refine wpList_lookup_own_int _ rfl _ _ 63 rfl 3 3 .i64 law3 und63 und3 (zero3 _) w.heap.size (S0 - cnt) _ rfl hout3 _ _ rfl (keyOf_int_mk und3 (WalkArith.wf_i64 (by omega))) ?_; intro t hatt hwt; have htx := hT.look (by omega) hatt; have htb := sumK_bd (L := L) (left := left) (F := fun y => if y.sum = s then (1 : Int) else 0) (fun y => by split <;> omega); have htl := ind_le L (fun y => y.sum = s)
           have ht0 : 0 ≤ t := by rw [htx]; exact htb.1
           have ht1 : t ≤ 6000 := by rw [htx]; have := htb.2; omega
           have HTX : Hid (t = sumK L left (fun y => if y.sum = s then 1 else 0)) := htx
           clear htx htb htl hatt hwt)
        | (at_mapUpdate; refine wpList_mapUpdate_own _ rfl _ _ _ 63 rfl 3 3 law3 und63 _ w.heap.size _ _ rfl hout3 (by unfold maxLen; omega) _ _ _ rfl rfl (keyOf_int_mk und3 (WalkArith.wf_i64 (by omega))) _ [] (plainElem_int und3 (WalkArith.wf_i64 (by omega))) ?_; intro w4 hout4 hg4; go_frame)
        | go_in)
      have hrg4 := hrg3.kept hg4 (fun e => by have := Option.some.inj e; omega) (fun e => by have := Option.some.inj e; omega)
      go_roundw
      case rel =>
        refine ⟨_, cnt1, _, hrg4, by omega, hout4.mono (by omega), (hT.put (c := s) hout3.isMap (by omega) (v := t + c) (by omega)).congr (fun q => ?_), hnx3.grown hg4 hnx3.size (fun j hj => by cases hj; exact Nat.le_refl _)⟩
        obtain ⟨hxs, hcx, hlk⟩ := HX.out
        rw [sumK_strike hxs hlk _ HL'.out, ← hcx]
        unfold upd
        by_cases e : q = s
        · subst e
          rw [if_pos rfl, if_pos Hs.out, Int.mul_one, HTX.out]
        · rw [if_neg e, if_neg (by rw [Hs.out]; exact fun h => e h.symm), Int.mul_zero, Int.add_zero]
      case measure => rw [hrg4.left_eq, hrg.left_eq]; exact hlt

end Go.Proofs.Ytmaplmgecohjbaa
