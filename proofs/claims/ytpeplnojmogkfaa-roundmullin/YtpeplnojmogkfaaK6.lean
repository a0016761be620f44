/- fill, walked. -/
import Derived.Test.YtpeplnojmogkfaaK5
namespace Go.Proofs.Ytpeplnojmogkfaa
open Go.RowKit Go.Maps Go.ChangeMaps

set_option maxRecDepth 100000 in
set_option maxHeartbeats 16000000 in
theorem fill_any (n : Nat) (A B : List (List Nat)) (u v : Value) (w : World) (hu : Rw w u (toZ A)) (hv : Rw w v (toZ B)) (hA : GoodR n A) (hB : GoodR n B) (la : A.length = n - 1) (lb : B.length = n - 1) :
    Calls Try.prog 31 #[u, v] w fun e w' => (∃ q : Bool, e = .returned (.bool q) ∧ (q = true ↔ Rms n A B)) ∧ Below w.heap.size w w' := by
  have hmm := @run_makeMap Try.prog
  obtain ⟨ua, un, uc, rfl⟩ : ∃ a n c, u = .slice a n c := by obtain ⟨a, c, e, _⟩ := hu; exact ⟨_, _, _, e⟩
  obtain ⟨va, vn, vc, rfl⟩ : ∃ a n c, v = .slice a n c := by obtain ⟨a, c, e, _⟩ := hv; exact ⟨_, _, _, e⟩
  have C1 := meetings_ok n A _ w hu hA la
  have CB := fun W (b : Below w.heap.size w W) => meetings_ok n B _ W (hv.below b) hB lb
  have HCE : Hid (∀ {left : Lit → Bool} {D D1 : DataW Unit} {Lc : List (Nat × Nat)} {k : Nat}, CeI n A B left D Lc k → MpIs kP POk D1 (mtA A n (n - 1)) → (∀ kl, left kl = false) → (Maps.size D = Maps.size D1 ↔ Rms n A B)) := fun h h1 hl => h.done hA hB la lb h1 hl
  have HST : Hid (∀ {left : Lit → Bool} {D : DataW Unit} {Lc : List (Nat × Nat)} {k : Nat}, CeI n A B left D Lc k → Tidy D → ∀ {e : (Nat × Nat) × Int}, e ∈ mtA A n (n - 1) → ((mtA A n (n - 1)).map Prod.fst).Nodup → ∀ {c : Nat × Nat}, ceE B e = c → POk c → ∀ {t : Int}, D.atKey (kC c) (.lit (.int .i64 0)) = .lit (.int .i64 t) → CeI n A B (fun z => left z && !z.sameKey (kP e.1)) (D.put (kC c) (.lit (.int .i64 (t + 1)))) (Lc ++ [c]) (k + 1)) := fun h hD e he nod c hc hok t ht => h.step hA la hD he nod hc hok ht
  have HEN : Hid (∀ {D2 : DataW Unit}, MpIs kP POk D2 (mtA B n (n - 1)) → ∀ {e : (Nat × Nat) × Int}, e ∈ mtA A n (n - 1) → ∃ x y i j : Nat, e = ((x, y), (i : Int)) ∧ x ≤ 99 ∧ y ≤ 99 ∧ i ≤ 99 ∧ j ≤ 99 ∧ ceE B e = (i, j) ∧ ∀ z, D2.atKey (kP (x, y)) z = .lit (.int .i64 (j : Int))) := fun h2 e he => ent_of hA hB la lb h2 he
  have HL : Hid ((mtA A n (n - 1)).length ≤ 999) := by
    have := mtA_len A n (n - 1)
    have h16 := hA.le
    have : n * (n - 1) ≤ 16 * 15 := Nat.mul_le_mul h16 (by omega)
    show _ ≤ _
    omega
  clear hu hv hA hB la lb
  go_enter Try.func31, Try.ntmps31
  go_wp2_with (first
    | (go_at_call 27; refine C1.mono ?_; rintro e w1 ⟨B1, m1, D1, rfl, hB1, hm1, hown1, hD1, b1⟩; clear C1; have C2 := CB w1 b1; clear CB)
    | (go_at_call 27; refine C2.mono ?_; rintro e w2 ⟨B2, m2, D2, rfl, hB2, hm2, hown2, hD2, b2⟩; clear C2
       have hown1' := map_below hown1 b2
       have hl1 := hown1.lt
       have hl2 := hown2.lt
       have hl3 := b2.size
       have HD1 : Hid (MpIs kP POk D1 (mtA A n (n - 1))) := hD1
       have HD2 : Hid (MpIs kP POk D2 (mtA B n (n - 1))) := hD2
       have HBW : Hid (Below w.heap.size w w2) := b1.trans (b2.mono b1.size)
       have HOW2 : Hid (∀ W, Below w2.heap.size w2 W → W.ownsMap Try.prog 50 (plainElem Try.prog 3) B2 m2 D2) := fun W b => map_below hown2 b
       have HSW : Hid (w.heap.size ≤ w2.heap.size) := Nat.le_trans b1.size b2.size
       clear hown1 hD1 hD2 b1 b2)
    | (at_range; refine wpList_range_own _ rfl _ 40 rfl 50 3 keyedP undMP _ B1 m1 _ rfl (hown1'.alloc _) ?_; intro w0 hrg0 hg0 hs0)
    | go_in)
  go_frame
  have e1 : (w2.alloc (.map #[] 0)).heap.size = w2.heap.size + 1 := by simp
  rw [e1] at hrg0 hs0 ⊢
  obtain ⟨S0, HS0⟩ : ∃ S0, Hid (Maps.size D1 = S0) := ⟨_, rfl⟩
  have hS9 : S0 ≤ 999 := by rw [← HS0.out, HD1.out.sz]; exact HL.out
  rw [HS0.out] at hrg0
  have HTS : Hid (∀ e ∈ mtA A n (n - 1), Maps.has D1 (kP e.1) = true) := fun e he => (HD1.out.at_ e he).1
  go_loopw [11] (fun _ wr => ∃ (left : Lit → Bool) (cnt : Nat) (Do : DataW Unit) (Lc : List (Nat × Nat)), wr.ranges Try.prog 50 (plainElem Try.prog 3) B1 (w2.heap.size + 1) m1 D1 left cnt ∧ cnt ≤ S0 ∧
      wr.ownsMap Try.prog 55 (plainElem Try.prog 3) w2.heap.size (S0 - cnt) Do ∧ Hid (CeI n A B left Do Lc (S0 - cnt)) ∧ Below w2.heap.size w2 wr)
    (fun _ wr => wr.rangeLeft B1 (w2.heap.size + 1))
  case atStart =>
    refine ⟨_, _, .map [], [], hrg0, Nat.le_refl _, ((World.ownsMap_made _ _ _ _).kept hg0 (by simp)).mono (Nat.zero_le _), ⟨CtIs.empty _ _, by simp, fun c => ?_⟩, ((Below.refl _ _).alloc (Nat.le_refl _) _).grown hg0 (by simp) (fun j hj => by cases hj)⟩
    constructor
    · intro h; simp at h
    · rintro ⟨e, he, h, _⟩
      rw [HTS.out e he] at h
      cases h
  case round =>
    clear hrg0 hg0 hs0 HTS hown1'
    obtain ⟨left, cnt, Do, Lc, hrg, hcs, hout, HI, hnx⟩ := hrel
    have hrow := hrg.owns
    go_wp2_with (first
      | (at_next; refine wpList_next_ranges _ rfl _ rfl 50 keyedP (plainElem Try.prog 3) (fun v : Value => v) (Value.int .i64) (fun key kl _ => ⟨key, rfl⟩) (fun v y hv => by obtain ⟨c, rfl, _⟩ := plainElem_int_inv und3 hv; exact ⟨c, rfl⟩) B1 (w2.heap.size + 1) m1 _ _ _ rfl hrg ?_ ?_)
      | go_in)
    · intro hc0 hl0
      have HQ : Hid (Maps.size Do = S0 ↔ Rms n A B) := by
        have := HCE.out HI.out HD1.out hl0
        rw [HS0.out] at this
        exact this
      obtain ⟨So, HSo⟩ : ∃ So, Hid (Maps.size Do = So) := ⟨_, rfl⟩
      rw [HSo.out] at HQ
      clear hl0 HI
      by_cases hss : So = S0
      · have hq : ((So : Int) == (S0 : Int)) = true := by simp [hss]
        have HR : Hid (Rms n A B) := HQ.out.1 hss
        clear hss
        go_wp2_with (first
          | (at_len; refine wpList_len_own _ rfl _ 53 rfl 55 3 undMC _ w2.heap.size _ Do rfl hout ?_; rw [HSo.out])
          | (at_len; refine wpList_len_own _ rfl _ 40 rfl 50 3 undMP _ B1 m1 D1 rfl hrow ?_; rw [HS0.out])
          | go_in)
        go_ret
        exact ⟨⟨true, rfl, by simp [HR.out]⟩, HBW.out.trans (hnx.mono HSW.out)⟩
      · have hq : ((So : Int) == (S0 : Int)) = false := by simp; omega
        have HR : Hid (¬ Rms n A B) := fun h => hss (HQ.out.2 h)
        clear hss
        go_wp2_with (first
          | (at_len; refine wpList_len_own _ rfl _ 53 rfl 55 3 undMC _ w2.heap.size _ Do rfl hout ?_; rw [HSo.out])
          | (at_len; refine wpList_len_own _ rfl _ 40 rfl 50 3 undMP _ B1 m1 D1 rfl hrow ?_; rw [HS0.out])
          | go_in)
        go_ret
        exact ⟨⟨false, rfl, by simp [HR.out]⟩, HBW.out.trans (hnx.mono HSW.out)⟩
    · intro key c kl yd yp w1 cnt1 hkey hlk hv hat hrg1 hlt hg1 hs1 hen
      obtain ⟨e, heL, ekl⟩ := HD1.out.has kl (has_true_of_atKey hat)
      subst ekl
      obtain ⟨x, y, i, j, rfl, hx9, hy9, hi9, hj9, hce, hcol⟩ := HEN.out HD2.out heL
      have hokp : POk (x, y) := ⟨hx9, hy9⟩
      have ek : key = pV (x, y) := keyedP.inj hkey (kP_of hokp)
      subst ek
      obtain ⟨c', ec, ey, hwc⟩ := plainElem_int_inv und3 hv
      cases ec
      have hci : c = (i : Int) := by
        have h1 := hat (.lit (.int .i64 0))
        have ey1 : yd = .lit (.int .i64 c) := (Prod.mk.inj ey).1
        rw [(HD1.out.at_ _ heL).2, ey1] at h1
        simp only [DataW.lit.injEq, Lit.int.injEq, true_and] at h1
        exact h1.symm
      subst hci
      unfold pV at hen ⊢
      dsimp only at hen ⊢
      have hout1 := hout.kept hg1 (by simp)
      have hnx1 : Below w2.heap.size w2 w1 := hnx.grown hg1 hnx.size (fun j hj => by cases hj; omega)
      have hsize1 : w2.heap.size + 1 < w1.heap.size := hrg1.lt
      have hal := balloc w1 (.cells #[.int .i64 (x : Int), .int .i64 (y : Int)] 50)
      have hBA : Below w2.heap.size w2 (w1.alloc (.cells #[.int .i64 (x : Int), .int .i64 (y : Int)] 50)) := hnx1.trans (hal.mono hnx1.size)
      have houtA := hout1.alloc (.cells #[.int .i64 (x : Int), .int .i64 (y : Int)] 50)
      have hrgA := hrg1.kept (World.grownBy_alloc w1 (.cells #[.int .i64 (x : Int), .int .i64 (y : Int)] 50) none) (by simp) (by simp)
      have hX0 : (w1.alloc (.cells #[.int .i64 (x : Int), .int .i64 (y : Int)] 50)).cell? ⟨w1.heap.size, 0, none⟩ = some (.int .i64 (x : Int)) := by rw [cell_of_row _ _ _ _ _ _ (heap_alloc_new w1 _)]; rfl
      have hX1 : (w1.alloc (.cells #[.int .i64 (x : Int), .int .i64 (y : Int)] 50)).cell? ⟨w1.heap.size, 1, none⟩ = some (.int .i64 (y : Int)) := by rw [cell_of_row _ _ _ _ _ _ (heap_alloc_new w1 _)]; rfl
      have hsA : (w1.alloc (.cells #[.int .i64 (x : Int), .int .i64 (y : Int)] 50)).heap.size = w1.heap.size + 1 := by simp
      obtain ⟨wA, hwA⟩ : ∃ wA, Hid (w1.alloc (.cells #[.int .i64 (x : Int), .int .i64 (y : Int)] 50) = wA) := ⟨_, rfl⟩
      clear hs1
      go_wp2_with fail
      rw [hwA.out] at hBA houtA hrgA hX0 hX1 hsA ⊢
      have hokc : POk (i, j) := ⟨hi9, hj9⟩
      have hkc := kC_of hokc
      unfold pV at hkc
      dsimp only at hkc
      have hlA := lookP (HOW2.out _ hBA.drew) hokp hcol
      obtain ⟨t, v0, st, w4, hatc, hlook, hent, hlook2, hg4, hs4, hst⟩ := entryC_any houtA.drew (by unfold maxLen; omega) hkc
      obtain ⟨ht0, ht9⟩ := HI.out.ct.look_bd keyFC hokc hatc
      have hfew := HI.out.few
      have ht99 : t ≤ 999 := by omega
      obtain ⟨w5, hsto, hown5, hg5, hs5⟩ := hst (t + 1) (WalkArith.wf_i64 (by omega))
      rw [show goInt (st : Int) = Value.int .i64 (st : Int) from rfl] at hsto hent
      have hB4 : Below w2.heap.size w2 w4 := hBA.drew.grown hg4 hBA.size (fun j hj => by cases hj; exact Nat.le_refl _)
      have hB5 : Below w2.heap.size w2 w5 := hBA.drew.grown hg5 hBA.size (fun j hj => by cases hj; exact Nat.le_refl _)
      have hne : some w1.heap.size ≠ some w2.heap.size := fun e => by have := Option.some.inj e; omega
      have hk4 := hg4.block w1.heap.size (by show w1.heap.size < wA.heap.size; omega) hne
      have hk5 := hg5.block w1.heap.size (by show w1.heap.size < wA.heap.size; omega) hne
      have hl4 := lookP (HOW2.out _ hB4) hokp hcol
      have hl5 := lookP (HOW2.out _ hB5) hokp hcol
      unfold pV at hlA hl4 hl5
      dsimp only at hlA hl4 hl5
      have hneB : B1 ≠ w2.heap.size := by omega
      have hrgD : wA.drew.ranges Try.prog 50 (plainElem Try.prog 3) B1 (w2.heap.size + 1) m1 D1 (fun z => left z && !z.sameKey (kP (x, y))) cnt1 := hrgA
      have hrg5 := hrgD.kept hg5 (fun e => hneB (Option.some.inj e)) (fun e => by have := Option.some.inj e; omega)
      have HI5 : Hid (CeI n A B (fun z => left z && !z.sameKey (kP (x, y))) (Do.put (kC (i, j)) (.lit (.int .i64 (t + 1)))) (Lc ++ [(i, j)]) (S0 - cnt + 1)) := HST.out HI.out (houtA.tidy keyedC) heL HD1.out.nod hce hokc hatc
      have hSA : Sx w1.heap.size B2 x y j wA.drew := ⟨hX0, hX1, hlA⟩
      have hS4 := hSA.grown hk4 hl4
      have hS5 := hSA.grown hk5 hl5
      unfold Sx at hSA hS4 hS5
      have hwr : IntKind.i64.wrap (t + 1) = t + 1 := by rw [IntKind.wrap_i64]; omega
      clear hcol hlA hl4 hl5 hX0 hX1 hk4 hk5 hst hatc hokc hkc hlk hat ey hv hkey hwc heL hg1 hal
      go_region_held3 (fun W : World => W.cell? ⟨w1.heap.size, 0, none⟩ = some (.int .i64 (x : Int)) ∧ W.cell? ⟨w1.heap.size, 1, none⟩ = some (.int .i64 (y : Int)) ∧ (Instr.lookup 40 (.map (some B2)) (.agg #[.int .i64 (x : Int), .int .i64 (y : Int)]) false).run Try.prog W = .ok (.int .i64 (j : Int)) W) (first | exact hSA | exact hS4 | exact hS5) (fail)
      all_goals
        clear hlook hent hlook2 hsto
        go_wp2
        go_roundw
        case rel => exact ⟨_, cnt1, _, Lc ++ [(i, j)], hrg5, by omega, hown5.mono (by omega), HI5.out.mono (by omega), hB5⟩
        case measure => rw [hrg5.left_eq, hrg.left_eq]; exact hlt
end Go.Proofs.Ytpeplnojmogkfaa
