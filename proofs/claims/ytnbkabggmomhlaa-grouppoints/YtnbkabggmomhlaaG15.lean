/- The walk of the document's ListOf. -/
import Derived.Test.YtnbkabggmomhlaaG14
import Derived.Test.YtnbkabggmomhlaaG45
namespace Go.Proofs.Ytnbkabggmomhlaa
open Go.RowKit

/-- The marked orders below `t`. -/
def listF (n : Nat) (F : Nat → Bool) (t : Nat) : List (List Nat) := ((List.range t).filter F).map (unr n)
theorem listF_yes {n : Nat} {F : Nat → Bool} {t : Nat} (h : F t = true) : listF n F (t + 1) = listF n F t ++ [unr n t] := by simp [listF, List.range_succ, h]
theorem listF_no {n : Nat} {F : Nat → Bool} {t : Nat} (h : F t = false) : listF n F (t + 1) = listF n F t := by simp [listF, List.range_succ, h]
theorem listF_len (n : Nat) (F : Nat → Bool) (t : Nat) : (listF n F t).length ≤ t := by
  unfold listF
  rw [List.length_map]
  exact Nat.le_trans (List.length_filter_le _ _) (by simp)
theorem listF_els {n : Nat} {L : List (List Nat)} {G : List Nat → Prop} (h : ∀ a, a ∈ L ↔ G a) : listF n (inB n L) (fac n) = els n G := by
  unfold listF els
  rw [List.filter_map]
  congr 1
  refine List.filter_congr fun k _ => ?_
  unfold inB
  simp [h]

set_option maxRecDepth 100000 in
set_option maxHeartbeats 4000000 in
theorem ListOf_any (n g : Nat) (F : Nat → Bool) (w : World) (hn : n ≤ 7) (h1 : 1 ≤ n) (hO : OwnB w g (fac n) F) :
    Calls Try.prog 15 #[.int .i64 (n : Int), .slice (some ⟨g, 0, none⟩) (fac n) (fac n)] w fun e w' => (∃ v, e = .returned v ∧ CycR w' w.heap.size v (listF n F (fac n))) ∧ Below w.heap.size w w' := by
  obtain ⟨i23, hi, hz0, hz1, hz2⟩ := info23
  have HI2 : Hid (Try.prog.info? 23 = some i23 ∧ i23.zero = some (.slice none 0 0) ∧ i23.size = 1 ∧ i23.bytes = 24) := ⟨hi, hz0, hz1, hz2⟩
  clear hi hz0 hz1 hz2
  have hfb : fac n ≤ 5040 := by have h := fac_mono hn; have h3 : fac 7 = 5040 := (by decide); omega
  have C := fun k W (h : k < fac n) => PermOfRank_own n k W (by omega) h
  obtain ⟨z, Hz⟩ : ∃ z, Hid (fac n = z) := ⟨_, rfl⟩
  rw [Hz.out] at C hfb hO ⊢
  have hgl := hO.lt
  go_enter Try.func15, Try.ntmps15
  go_wp2
  go_loopw [5, 6] (fun lv i wr => ∃ (t : Nat), i = .int .i64 t ∧ t ≤ z ∧ CycR wr w.heap.size lv (listF n F t) ∧ Below w.heap.size w wr) (fun _ i _ => (z - intOf i).toNat)
  case atStart => exact ⟨0, rfl, by omega, CycR.nil _ _, Below.refl _ _⟩
  case round =>
    obtain ⟨t, rfl, ht, hcy, hB⟩ := hrel
    have hlen := listF_len n F t
    obtain ⟨r, Hr⟩ : ∃ r, Hid ((listF n F t).length = r) := ⟨_, rfl⟩
    obtain ⟨la, lc, hle⟩ := hcy.form
    rw [Hr.out] at hle hlen
    subst hle
    by_cases hlt : t < z
    · have hti : (t : Int) < z := by omega
      have ht0 : (0 : Int) ≤ (t : Int) := by omega
      have hdec : decide ((t : Int) < z) = true := by simp; omega
      have hO' : OwnB wr g z F := hO.block (hB.block g hgl)
      have hct := hO'.cell t hlt
      have hft := hO'.frozen t
      have hsz := hB.size
      have D := C t wr hlt
      clear hO'
      cases hF : F t with
      | true =>
        rw [hF] at hct
        have HL : Hid (listF n F (t + 1) = listF n F t ++ [unr n t]) := listF_yes hF
        obtain ⟨L, HLL⟩ : ∃ L, Hid (listF n F t = L) := ⟨_, rfl⟩
        rw [HLL.out] at hcy HL Hr
        have hul : (unr n t).length = n := unrL_len _ _ _
        change Calls _ _ _ _ fun e w' => ∃ x, e = _ ∧ w'.ownsRow wr.heap.size 3 1 x n (vl (unr n t)) ∧ Below wr.heap.size wr w' at D
        obtain ⟨y, Hy⟩ : ∃ y, Hid (unr n t = y) := ⟨_, rfl⟩
        rw [Hy.out] at HL hul D
        have HYL : Hid (y.length = n) := hul
        obtain ⟨vals, hv1, hv2⟩ := hcy
        rw [Hr.out] at hv1
        have HV2 : Hid (∀ (i : Nat) (u : Value) (l : List Nat), vals[i]? = some u → L[i]? = some l → RowIs wr w.heap.size u l) := hv2
        clear hv2 hul
        go_wp2_with (first
          | (go_at_call 45; refine D.mono ?_; rintro e w4 ⟨x, rfl, hown4, b4⟩; have hrow4 : RowIs w4 w.heap.size x y := (row_of hown4 HYL.out (by omega)).base hsz; obtain ⟨ya, yc, hye⟩ : ∃ a c, x = .slice a n c := (by obtain ⟨g, c, e, _⟩ := hrow4; exact ⟨_, c, by rw [e, HYL.out]⟩); subst hye; replace hv1 := orow_below hv1 b4; have HV3 : Hid (∀ (i : Nat) (u : Value) (l : List Nat), vals[i]? = some u → L[i]? = some l → RowIs w4 w.heap.size u l) := (fun i u l h1 h2 => (HV2.out i u l h1 h2).below b4); have HR4 : Hid (RowIs w4 w.heap.size (.slice ya n yc) y) := hrow4; have hB4 := Below.next hB b4; clear hown4 hrow4 b4 D)
          | (at_builtin; refine wpList_append_lies _ rfl _ _ 22 rfl w.heap.size 23 i23 (.slice none 0 0) 1 24 und22' HI2.out.1 HI2.out.2.1 HI2.out.2.2.1 HI2.out.2.2.2 rfl (by decide) _ r _ rfl (hv1.alloc _) ⟨w4.heap.size, 0, none⟩ 1 1 [.slice ya n yc] rfl rfl ?c1 ?c2 (by omega) ?c3 ?c4 ?c5 (w4.heap.size + 1) (by simp) ?_))
        case c1 => exact cell_one_new w4 (.slice ya n yc) 23
        case c2 => intro u hu; simp at hu; subst hu; rfl
        case c3 => unfold maxLen; omega
        case c4 => omega
        case c5 => have := hB4.size; simp; omega
        intro g6 cap6 w6 hown6 hgrow6 _ hlt6
        have hb6 : Below w.heap.size w w6 := (hB4.alloc hB4.size _).grown hgrow6 (by have := hB4.size; simp; omega) (fun g hg => by have := (hv1.lt g hg).1; omega)
        have hal : ∀ {u l}, RowIs w4 w.heap.size u l → RowIs (w4.alloc (.cells #[.slice ya n yc] 23)) w.heap.size u l := fun h => h.below (balloc _ _)
        have hcy6 : CycR w6 w.heap.size (.slice (some ⟨g6, 0, none⟩) (r + 1) cap6) (L ++ [y]) := CycR.more (wa := w4.alloc (.cells #[.slice ya n yc] 23)) (vals := vals) (by rw [Hr.out]; exact hv1.alloc _) (fun i u l h1 h2 => hal (HV3.out i u l h1 h2)) (hal HR4.out) (by rw [Hr.out]; exact hown6) hgrow6
        clear hown6 hgrow6 hv1 HV2 HV3 HR4
        go_wp2
        go_roundw
        case rel => exact ⟨t + 1, by go_num, by omega, by rw [HL.out]; exact hcy6, hb6⟩
        case measure => simp [intOf]; omega
      | false =>
        rw [hF] at hct
        have HL : Hid (listF n F (t + 1) = listF n F t) := listF_no hF
        go_wp2
        go_roundw
        case rel => exact ⟨t + 1, by go_num, by omega, by rw [HL.out]; exact hcy, hB⟩
        case measure => simp [intOf]; omega
    · obtain rfl : t = z := by omega
      have hkd : decide ((t : Int) < (t : Int)) = false := by simp
      go_wp2
      go_ret
      exact ⟨⟨_, rfl, hcy⟩, hB⟩

end Go.Proofs.Ytnbkabggmomhlaa
