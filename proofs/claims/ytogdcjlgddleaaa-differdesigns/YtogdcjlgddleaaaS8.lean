/- The walk of multiplies. -/
import Derived.Test.YtogdcjlgddleaaaS6
/- The walks of divisor, the document's common, and multiplies. -/
namespace Go.Proofs.Ytogdcjlgddleaaa
open Go.RowKit Go.Maps

set_option maxHeartbeats 400000 in
theorem divisor_any (a b : Nat) (w : World) (ha : a < 9223372036854775808) (hb : b < 9223372036854775808) :
    Calls Try.prog 22 #[.int .i64 (a : Int), .int .i64 (b : Int)] w fun e w' => e = .returned (.int .i64 ((Nat.gcd a b : Nat) : Int)) ∧ Below w.heap.size w w' := by
  obtain ⟨z, Hz⟩ : ∃ z, Hid (Nat.gcd a b = z) := ⟨_, rfl⟩
  rw [Hz.out]
  go_enter Try.func22, Try.ntmps22
  go_wp2
  go_loopw [0, 1] (fun x y wr => ∃ a b : Nat, x = .int .i64 (a : Int) ∧ y = .int .i64 (b : Int) ∧ Hid (Nat.gcd a b = z) ∧ a < 9223372036854775808 ∧ b < 9223372036854775808 ∧ Below w.heap.size w wr) (fun _ y _ => (intOf y).toNat)
  case atStart => exact ⟨a, b, rfl, rfl, Hz, ha, hb, Below.refl _ _⟩
  case round =>
    clear Hz ha hb
    obtain ⟨a, b, rfl, rfl, HZ, ha, hb, hB⟩ := hrel
    by_cases h0 : 0 < b
    · have hbi : (0 : Int) < b := by omega
      have hbn : (b : Int) ≠ 0 := by omega
      have hm := Nat.mod_lt a h0
      have hme : (a : Int) % (b : Int) = ((a % b : Nat) : Int) := by simp
      have HZ' : Hid (Nat.gcd b (a % b) = z) := by
        show _ = z
        rw [← HZ.out, Nat.gcd_comm b, ← Nat.gcd_rec, Nat.gcd_comm]
      go_wp2
      go_region
      all_goals
        go_wp2
        go_roundw
        case rel => exact ⟨b, a % b, rfl, by rw [← hme], HZ', hb, by omega, by first | exact bdrewN hB _ | exact hB.drew⟩
        case measure => simp [intOf]; omega
    · obtain rfl : b = 0 := by omega
      have : a = z := by rw [← HZ.out, Nat.gcd_zero_right]
      subst this
      go_wp2
      go_ret
      exact ⟨rfl, hB⟩
set_option maxHeartbeats 400000 in
theorem common_any (a b : Nat) (w : World) (ha : a < 9223372036854775808) (hb : b < 9223372036854775808) :
    Calls Try.prog 24 #[.int .i64 (a : Int), .int .i64 (b : Int)] w fun e w' => e = .returned (.int .i64 ((Nat.gcd a b : Nat) : Int)) ∧ Below w.heap.size w w' := by
  obtain ⟨z, Hz⟩ : ∃ z, Hid (Nat.gcd a b = z) := ⟨_, rfl⟩
  rw [Hz.out]
  go_enter Try.func24, Try.ntmps24
  go_wp2
  go_loopw [0, 1] (fun x y wr => ∃ a b : Nat, x = .int .i64 (a : Int) ∧ y = .int .i64 (b : Int) ∧ Hid (Nat.gcd a b = z) ∧ a < 9223372036854775808 ∧ b < 9223372036854775808 ∧ Below w.heap.size w wr) (fun _ y _ => (intOf y).toNat)
  case atStart => exact ⟨a, b, rfl, rfl, Hz, ha, hb, Below.refl _ _⟩
  case round =>
    clear Hz ha hb
    obtain ⟨a, b, rfl, rfl, HZ, ha, hb, hB⟩ := hrel
    by_cases h0 : 0 < b
    · have hbi : (0 : Int) < b := by omega
      have hbn : (b : Int) ≠ 0 := by omega
      have hm := Nat.mod_lt a h0
      have hme : (a : Int) % (b : Int) = ((a % b : Nat) : Int) := by simp
      have HZ' : Hid (Nat.gcd b (a % b) = z) := by
        show _ = z
        rw [← HZ.out, Nat.gcd_comm b, ← Nat.gcd_rec, Nat.gcd_comm]
      go_wp2
      go_region
      all_goals
        go_wp2
        go_roundw
        case rel => exact ⟨b, a % b, rfl, by rw [← hme], HZ', hb, by omega, by first | exact bdrewN hB _ | exact hB.drew⟩
        case measure => simp [intOf]; omega
    · obtain rfl : b = 0 := by omega
      have : a = z := by rw [← HZ.out, Nat.gcd_zero_right]
      subst this
      go_wp2
      go_ret
      exact ⟨rfl, hB⟩

end Go.Proofs.Ytogdcjlgddleaaa

namespace Go.Proofs.Ytogdcjlgddleaaa
open Go.RowKit Go.Maps

theorem loadZ {w : World} {g : Nat} {f : Nat → Bool} (h : ZRow w g f) : (Instr.loadAt 50 (.pointer (some ⟨g, 0, none⟩))).run Try.prog w = .ok (.agg (zrow f)) w := by
  simp only [Instr.loadAt, Instr.sureAddr, Sem.run_bind, Sem.run_pure, Result.andThen_ok, run_loadVar_row w g 50 50 (zrow f) (0, 0) _ h undB rfl (infB f)]
/-- Is t times the set the set with s more? -/
def saB (v : Nat) (D : List Nat) (t s : Nat) : Bool := (List.range 60).all fun x => imF v D t 0 x == imF v D 1 s x
theorem muB_yes {v t s : Nat} {D : List Nat} (hs : s < v) (h : saB v D t s = true) : muB v D t = true := by
  unfold muB
  exact List.any_eq_true.2 ⟨s, List.mem_range.2 hs, h⟩
theorem muB_no {v t : Nat} {D : List Nat} (h : ∀ s, s < v → saB v D t s = false) : muB v D t = false := by
  rw [Bool.eq_false_iff]
  intro k
  unfold muB at k
  obtain ⟨s, hs, e⟩ := List.any_eq_true.1 k
  have := h s (List.mem_range.1 hs)
  unfold saB at this
  rw [this] at e
  cases e
theorem eqS (v : Nat) (D : List Nat) (t s : Nat) (w : World) : (Op.equalIn 10000 50 (.agg (zrow (imF v D t 0))) (.agg (zrow (imF v D 1 s)))).run Try.prog w = .ok (saB v D t s) w := by
  obtain ⟨r, h1, h2⟩ := eqB (imF v D t 0) (imF v D 1 s)
  unfold saB
  rw [← h2]
  exact h1 w
set_option maxRecDepth 100000 in
set_option maxHeartbeats 8000000 in
theorem multiplies_any (v t : Nat) (D : List Nat) (u : Value) (w : World) (hG : GoodS v D) (hu : Sl w u (D.map Int.ofNat)) (ht : t < 60) :
    Calls Try.prog 23 #[.int .i64 (v : Int), u, .int .i64 (t : Int)] w fun e w' => e = .returned (.bool (muB v D t)) ∧ Below w.heap.size w w' := by
  have hz : ∀ w, (zeroValue 50).run Try.prog w = .ok (.agg (zrow fun _ => false)) w := fun w => by kernel_rfl
  have HI : Hid (∀ (t s : Nat) (W : World), t < 60 → s < 60 → Below w.heap.size w W → Calls Try.prog 25 #[.int .i64 (v : Int), u, .int .i64 (t : Int), .int .i64 (s : Int)] W fun e w' => e = .returned (.agg (zrow (imF v D t s))) ∧ Below W.heap.size W w') := fun t s W ht hs b => image_any v t s D u W hG (hu.below b) ht hs
  have HI0 : Hid (Calls Try.prog 25 #[.int .i64 (v : Int), u, .int .i64 (t : Int), .int .i64 0] w fun e w' => e = .returned (.agg (zrow (imF v D t 0))) ∧ Below w.heap.size w w') := by
    have h0 := HI.out t 0 w ht (by omega) (Below.refl _ _)
    rw [show ((0 : Nat) : Int) = 0 from rfl] at h0
    exact h0
  have HI1 : Hid (∀ (s : Nat) (W : World), s < 60 → Below w.heap.size w W → Calls Try.prog 25 #[.int .i64 (v : Int), u, .int .i64 1, .int .i64 (s : Int)] W fun e w' => e = .returned (.agg (zrow (imF v D 1 s))) ∧ Below W.heap.size W w') := fun s W hs b => by
    have h0 := HI.out 1 s W (by omega) hs b
    rw [show ((1 : Nat) : Int) = 1 from rfl] at h0
    exact h0
  have h1 := hG.pos
  have h60 := hG.le
  obtain ⟨a, ca, rfl, _⟩ := sl_at hu
  obtain ⟨r, Hr⟩ : ∃ r, Hid (muB v D t = r) := ⟨_, rfl⟩
  obtain ⟨F, HF⟩ : ∃ F : Nat → Bool, Hid (∀ s, saB v D t s = F s) := ⟨fun s => saB v D t s, fun _ => rfl⟩
  have HY2 : Hid (∀ s, s < v → F s = true → r = true) := fun s hs h => by rw [← Hr.out]; exact muB_yes hs (by rw [HF.out]; exact h)
  have HN2 : Hid ((∀ s, s < v → F s = false) → r = false) := fun h => by rw [← Hr.out]; exact muB_no fun s hs => by rw [HF.out]; exact h s hs
  have HQ2 : Hid (∀ s w, (Op.equalIn 10000 50 (.agg (zrow (imF v D t 0))) (.agg (zrow (imF v D 1 s)))).run Try.prog w = .ok (F s) w) := fun s w => by rw [← HF.out]; exact eqS v D t s w
  rw [Hr.out]
  obtain ⟨f0, Hf0⟩ : ∃ f0, Hid (imF v D t 0 = f0) := ⟨_, rfl⟩
  obtain ⟨fs, Hfs⟩ : ∃ fs : Nat → Nat → Bool, Hid (∀ s, imF v D 1 s = fs s) := ⟨fun s => imF v D 1 s, fun _ => rfl⟩
  rw [Hf0.out] at HI0
  have HI2 : Hid (∀ (s : Nat) (W : World), s < 60 → Below w.heap.size w W → Calls Try.prog 25 #[.int .i64 (v : Int), .slice a D.length ca, .int .i64 1, .int .i64 (s : Int)] W fun e w' => e = .returned (.agg (zrow (fs s))) ∧ Below W.heap.size W w') := fun s W hs b => by rw [← Hfs.out]; exact HI1.out s W hs b
  have HQ3 : Hid (∀ s w, (Op.equalIn 10000 50 (.agg (zrow f0)) (.agg (zrow (fs s)))).run Try.prog w = .ok (F s) w) := fun s w => by rw [← Hf0.out, ← Hfs.out]; exact HQ2.out s w
  generalize D.length = n at *
  clear HI HI1 HQ2 HF Hf0 Hfs hu hG Hr
  go_enter Try.func23, Try.ntmps23
  go_wp2_with (first
    | (go_at_call 25; refine HI0.out.mono ?_; rintro e w1 ⟨rfl, hb1⟩; clear HI0; have hr1 := ZRow.made w1 (fun _ => false); have hB1 : Below w.heap.size w (w1.alloc (.cells (zrow fun _ => false) 50)) := Below.next hb1 (balloc _ _); have hs1 := hb1.size)
    | (refine wpList_store_row rfl 50 _ _ rfl w1.heap.size _ rfl rfl 50 _ hr1 (infB _) (by simp) (zrow_one _) ?_))
  have hr2 := hr1.whole f0
  have hB2 : Below w.heap.size w ((w1.alloc (.cells (zrow fun _ => false) 50)).setRow w1.heap.size (zrow f0)) := bsetRow hB1 hs1 _
  obtain ⟨g, Hg⟩ : ∃ g, Hid (w1.heap.size = g) := ⟨_, rfl⟩
  rw [Hg.out] at hr2 hB2 ⊢
  generalize (w1.alloc (.cells (zrow fun _ => false) 50)).setRow g (zrow f0) = w2 at *
  clear hr1 hB1 hb1 hs1 hz
  go_loopw [14] (fun sv wr => ∃ s : Nat, sv = .int .i64 (s : Int) ∧ s ≤ v ∧ Hid (∀ m, m < s → F m = false) ∧ ZRow wr g f0 ∧ Below w.heap.size w wr) (fun sv _ => (v - intOf sv).toNat)
  case atStart => exact ⟨0, rfl, by omega, (show ∀ m, m < 0 → _ from fun m h => by omega), hr2, hB2⟩
  case round =>
    clear hr2 hB2
    obtain ⟨s, rfl, hs, HM, hr, hB⟩ := hrel
    by_cases hlt : s < v
    · have hii : (s : Int) < v := by omega
      have hdec : decide ((s : Int) < v) = true := by simp; omega
      have hQ := HQ3.out s
      have CI := HI2.out s
      have HY3 := HY2.out s hlt
      obtain ⟨q, Hq⟩ : ∃ q, Hid (F s = q) := ⟨_, rfl⟩
      rw [Hq.out] at hQ HY3
      have HS : Hid (∀ W', Below wr.heap.size wr W' → ZRow W' g f0) := fun W' b => hr.below b
      have HCI : Hid (∀ W', Below wr.heap.size wr W' → Calls Try.prog 25 #[.int .i64 (v : Int), .slice a n ca, .int .i64 1, .int .i64 (s : Int)] W' fun e w' => e = .returned (.agg (zrow (fs s))) ∧ Below W'.heap.size W' w') := fun W' b => CI W' (by omega) (Below.next hB b)
      have HHQ : Hid (∀ w, (Op.equalIn 10000 50 (.agg (zrow f0)) (.agg (zrow (fs s)))).run Try.prog w = .ok q w) := hQ
      clear CI hr HI2 HQ3 hQ
      go_wp2
      refine wp_region_noPanic ?_
      refine wp_region_held_drew (S := fun w' => ZRow w' g f0) (by kernel_rfl) (HS.out _ (Below.refl _ wr).drew) (fun hSx => ?_)
      have d0 : Below wr.heap.size wr wr.drew := (Below.refl _ wr).drew
      refine wpAnyH_take (i := 0) (v := .agg (zrow f0)) rfl (by kernel_rfl) (by kernel_rfl) (by kernel_rfl) (fun _ _ _ h => h) (Or.inl ⟨by rfl, fun w' hSw => by (simp only [List.getElem_toArray, List.getElem_cons_zero, execOp, Act.eval]; show Sem.run Try.prog (do let x ← Instr.loadAt 50 (.pointer (some ⟨g, 0, none⟩)); pure (Next.value x)) w' = _; rw [Sem.run_bind, loadZ hSw]; rfl)⟩) hSx ?_
      try simp only [Act.put, List.setIfInBounds_toArray]
      refine wpAnyH_take (i := 1) (v := .int .i64 (v : Int)) rfl (by kernel_rfl) (by kernel_rfl) (by kernel_rfl) (fun _ _ _ h => h) (Or.inl ⟨by rfl, fun w' hSw => by (try dsimp only at hSw); have hs0 := hSw; go_simp⟩) hSx ?_
      try simp only [Act.put]
      refine wpAnyH_take (i := 2) (v := .slice a n ca) rfl (by kernel_rfl) (by kernel_rfl) (by kernel_rfl) (fun _ _ _ h => h) (Or.inl ⟨by rfl, fun w' hSw => by (try dsimp only at hSw); have hs0 := hSw; go_simp⟩) hSx ?_
      try simp only [Act.put]
      refine wpAnyH_take (i := 3) (v := .int .i64 (s : Int)) rfl (by kernel_rfl) (by kernel_rfl) (by kernel_rfl) (fun _ _ _ h => h) (Or.inl ⟨by rfl, fun w' hSw => by (try dsimp only at hSw); have hs0 := hSw; go_simp⟩) hSx ?_
      try simp only [Act.put]
      refine wpAnyH_ready (rs := [4]) (by kernel_rfl) (by simp) ?_
      refine AllReadyH.cons rfl (fun J hJ => ?_) AllReadyH.nil
      go_simp
      refine (HCI.out _ d0).mono ?_
      rintro e w1 ⟨rfl, b1⟩
      have d1 := Below.next d0 b1
      go_wp2_with fail
      refine hJ.out _ _ (HS.out _ d1) (fun hSx => ?_)
      clear hJ J
      try simp only [Act.put, List.setIfInBounds_toArray, List.set_cons_zero, List.set_cons_succ]
      refine wpAnyH_take (i := 5) (v := .bool q) rfl (by kernel_rfl) (by kernel_rfl) (by kernel_rfl) (fun _ _ _ h => h) (Or.inl ⟨by rfl, fun w' hSw => by (have hq := HHQ.out; go_simp)⟩) hSx ?_
      try simp only [Act.put, List.setIfInBounds_toArray]
      refine wpAnyH_done (by kernel_rfl) ?_ _
      refine NoPanic.normal ?_
      have hr1 := HS.out _ d1
      have hB1 := Below.next hB d1
      clear hSx HS HCI HHQ hB
      generalize hq : q = qq at *
      cases qq
      · have HM2 : Hid (∀ m, m < s + 1 → F m = false) := fun m hm => by
          by_cases e : m = s
          · subst e; exact Hq.out
          · exact HM.out m (by omega)
        clear HM HY2 HN2 HY3 hq
        go_wp2
        go_roundw
        case rel => exact ⟨s + 1, by go_num, by omega, HM2, hr1, hB1⟩
        case measure => simp [intOf]; omega
      · obtain rfl := HY3 rfl
        clear HM HY2 HN2 HY3 hq
        go_wp2
        go_ret
        exact ⟨rfl, hB1⟩
    · have hdec : decide ((s : Int) < v) = false := by simp; omega
      obtain rfl := HN2.out fun m hm => HM.out m (by omega)
      clear HM HY2 HN2
      go_wp2
      go_ret
      exact ⟨rfl, hB⟩

end Go.Proofs.Ytogdcjlgddleaaa
