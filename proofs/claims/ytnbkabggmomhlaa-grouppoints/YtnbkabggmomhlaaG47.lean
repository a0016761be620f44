/- The walk of orbits. -/
import Derived.Test.YtnbkabggmomhlaaG66
namespace Go.Proofs.Ytnbkabggmomhlaa
open Go.RowKit

/-- On the way: all points of the first j makers, the first i points of the next one. -/
structure OrbP (ms : List (List Nat)) (c : Nat → Nat) (j i : Nat) : Prop where
  cut : Cut c
  low : ∀ t m, t < j → ms[t]? = some m → ∀ x, x < 7 → c x = c (m.getD x 0)
  now : ∀ m, ms[j]? = some m → ∀ x, x < i → c x = c (m.getD x 0)
  fin : ∀ d : Nat → Nat, (∀ m ∈ ms, ∀ x, x < 7 → d x = d (m.getD x 0)) → Fin1 c d
theorem OrbP.start (ms : List (List Nat)) : OrbP ms (fun i => i) 0 0 := ⟨cut_id, fun t m h => by omega, fun m _ x h => by omega, fun d _ => fin_id d⟩
theorem OrbP.next {ms : List (List Nat)} {c : Nat → Nat} {j i : Nat} {m : List Nat} (h : OrbP ms c j i) (hm : ms[j]? = some m) (hi : i < 7) (h7 : m.getD i 0 < 7) : OrbP ms (joinC c i (m.getD i 0)) j (i + 1) := by
  refine ⟨h.cut.join _ _, fun t m' ht hm' x hx => join_same (h.low t m' ht hm' x hx), fun m' hm' x hx => ?_, fun d hd => (h.fin d hd).join hi h7 (hd m (List.mem_of_getElem? hm) i hi)⟩
  obtain rfl : m = m' := by rw [hm] at hm'; simpa using hm'
  by_cases e : x = i
  · rw [e]; exact join_two c i _
  · exact join_same (h.now m hm x (by omega))
theorem OrbP.turn {ms : List (List Nat)} {c : Nat → Nat} {j : Nat} (h : OrbP ms c j 7) : OrbP ms c (j + 1) 0 := by
  refine ⟨h.cut, fun t m ht hm x hx => ?_, fun m _ x hx => by omega, h.fin⟩
  by_cases e : t = j
  · subst e; exact h.now m hm x hx
  · exact h.low t m (by omega) hm x hx
theorem OrbP.done {ms : List (List Nat)} {c : Nat → Nat} (h : OrbP ms c ms.length 0) : OrbC ms c :=
  ⟨h.cut, fun m hm x hx => by
    obtain ⟨t, ht, rfl⟩ := List.mem_iff_getElem.1 hm
    exact h.low t _ ht (List.getElem?_eq_getElem ht) x hx, h.fin⟩
theorem Cut.lt7 {c : Nat → Nat} (h : Cut c) : ∀ i, i < 7 → c i < 7 := fun i hi => Nat.lt_of_le_of_lt (h.le i) hi

set_option maxRecDepth 100000 in
set_option maxHeartbeats 4000000 in
theorem orbits_any (ms : List (List Nat)) (v : Value) (w : World) (hk : ms.length ≤ 4) (hv : Mvs w v ms) (hm : ∀ m ∈ ms, IsP 7 m) :
    Calls Try.prog 47 #[v] w fun e w' => (∃ c : Nat → Nat, e = .returned (.agg (mrow (cr c))) ∧ OrbC ms c) ∧ Below w.heap.size w w' := by
  obtain ⟨k, Hk⟩ : ∃ k, Hid (ms.length = k) := ⟨_, rfl⟩
  rw [Hk.out] at hk
  obtain ⟨a, cap, rfl, _⟩ := id hv
  have HV : Hid (Mvs w (.slice a ms.length cap) ms) := hv
  rw [Hk.out] at HV ⊢
  have HMS : Hid (∀ m ∈ ms, IsP 7 m) := hm
  clear hv hm
  have C := fun W => apart_any W
  have hk0 := MRow.made0 69 w
  have hB0 := balloc w (.cells #[.int .i64 0, .int .i64 0, .int .i64 0, .int .i64 0, .int .i64 0, .int .i64 0, .int .i64 0] 69)
  have hcr0 : Hid (OrbP ms (fun i => i) 0 0) := OrbP.start ms
  obtain ⟨c0, Hc0⟩ : ∃ c0 : Nat → Nat, Hid ((fun i : Nat => i) = c0) := ⟨_, rfl⟩
  rw [Hc0.out] at C hcr0
  go_enter Try.func47, Try.ntmps47
  go_wp2_with (first
    | (go_at_call 65; refine (C _).mono ?_; rintro e w1 ⟨rfl, b1⟩; have hk1 := hk0.below b1; have hsz1 := b1.size; replace b1 := Below.next hB0 b1; have hz := MRow.made0 69 w1)
    | (refine wpList_store_row rfl 69 _ _ rfl w1.heap.size _ rfl rfl 69 _ hz (inf69 _) (by simp) (mrow_one _) ?_))
  rw [World.size_alloc] at hsz1
  have hg0 := hz.whole (cr c0)
  have hk2 := (hk1.alloc (.cells #[.int .i64 0, .int .i64 0, .int .i64 0, .int .i64 0, .int .i64 0, .int .i64 0, .int .i64 0] 69)).wother (g' := w1.heap.size) (Nat.ne_of_lt hk1.lt) (mrow (cr c0))
  have hB2 : Below w.heap.size w ((w1.alloc (.cells #[.int .i64 0, .int .i64 0, .int .i64 0, .int .i64 0, .int .i64 0, .int .i64 0, .int .i64 0] 69)).setRow w1.heap.size (mrow (cr c0))) := bsetRow (b1.alloc b1.size _) (by omega) _
  clear hk0 hB0 C hk1 b1 hz
  obtain ⟨g, Hg⟩ : ∃ g, Hid (w1.heap.size = g) := ⟨_, rfl⟩
  rw [Hg.out] at hg0 hk2 hB2 hsz1 ⊢
  go_loopw [11] (fun i wr => ∃ (j : Nat) (c : Nat → Nat), i = .int .i64 j ∧ j ≤ k ∧ MRow 69 wr w.heap.size (fun _ => 0) ∧ MRow 69 wr g (cr c) ∧ Hid (OrbP ms c j 0) ∧ Below w.heap.size w wr) (fun i _ => (k - intOf i).toNat)
  case atStart => exact ⟨0, c0, rfl, by omega, hk2, hg0, hcr0, hB2⟩
  case round =>
    clear hk2 hg0 hcr0 hB2
    obtain ⟨j, c, rfl, hj, hR, hG, HO, hB⟩ := hrel
    by_cases hlt : j < k
    · have hji : (j : Int) < k := by omega
      have hdec : decide ((j : Int) < k) = true := by simp; omega
      obtain ⟨m, hmj⟩ : ∃ m, ms[j]? = some m := ⟨ms[j]'(by have := Hk.out; omega), by simp⟩
      have hmP := HMS.out m (List.mem_of_getElem? hmj)
      obtain ⟨b, off, rfl, hbw, hrM⟩ := HV.out.at hmj
      replace hrM := range_below hrM hB hbw
      have hsz := hB.size
      have hinM : (Try.prog.info? 62).map (·.size) = some (mvL (m)).length := inf62L _
      have hlM : (mvL (m)).length = 7 := mvL_len _
      have h1M : ∀ u ∈ mvL (m), u.oneCell' = true := mvL_one _
      obtain ⟨M, HM⟩ : ∃ M, Hid (mvL (m) = M) := ⟨_, rfl⟩
      rw [HM.out] at hinM hrM hlM h1M
      have honeM := all_oneCell_toArray h1M
      have hinM' : (Try.prog.info? 62).map (·.size) = some M.toArray.size := by simpa using hinM
      have hthM : (wr.alloc (.cells #[.int .i64 0, .int .i64 0, .int .i64 0, .int .i64 0, .int .i64 0, .int .i64 0, .int .i64 0] 62)).there wr.heap.size 0 M.toArray.size := by
        intro q hq
        rw [Nat.zero_add, cell_of_row _ _ q _ _ _ (heap_alloc_new wr _), frozen_of_row _ _ q _ _ (heap_alloc_new wr _)]
        have hq7 : q < 7 := by simpa [hlM] using hq
        exact ⟨by simp [hq7], rfl⟩
      have hBM : Below wr.heap.size wr ((wr.alloc (.cells #[.int .i64 0, .int .i64 0, .int .i64 0, .int .i64 0, .int .i64 0, .int .i64 0, .int .i64 0] 62)).setCells wr.heap.size 0 M) := (balloc wr (.cells #[.int .i64 0, .int .i64 0, .int .i64 0, .int .i64 0, .int .i64 0, .int .i64 0, .int .i64 0] 62)).trans (bsets (Nat.le_refl _) _ _ _)
      have hrM2 : ((wr.alloc (.cells #[.int .i64 0, .int .i64 0, .int .i64 0, .int .i64 0, .int .i64 0, .int .i64 0, .int .i64 0] 62)).setCells wr.heap.size 0 M).rangeAt wr.heap.size 0 M := World.rangeAt_setCells_same _ _ _ _ (by simpa using hthM)
      have hsM : wr.heap.size < ((wr.alloc (.cells #[.int .i64 0, .int .i64 0, .int .i64 0, .int .i64 0, .int .i64 0, .int .i64 0, .int .i64 0] 62)).setCells wr.heap.size 0 M).heap.size := by rw [sets_size, World.size_alloc]; omega
      obtain ⟨W, HW⟩ : ∃ W, Hid ((wr.alloc (.cells #[.int .i64 0, .int .i64 0, .int .i64 0, .int .i64 0, .int .i64 0, .int .i64 0, .int .i64 0] 62)).setCells wr.heap.size 0 M = W) := ⟨_, rfl⟩
      rw [HW.out] at hBM hrM2 hsM
      clear h1M
      have hB3 := Below.next hB hBM
      have hR3 := hR.below hBM
      have hG3 := hG.below hBM
      have HMJ : Hid (ms[j]? = some m ∧ IsP 7 m) := ⟨hmj, hmP⟩
      have hM0 : M.toArray = mrow (fun t => (m.getD t 0 : Int)) := by rw [← HM.out]; rfl
      obtain ⟨F, HF⟩ : ∃ F : Nat → Int, Hid ((fun t => (m.getD t 0 : Int)) = F) := ⟨_, rfl⟩
      rw [HF.out] at hM0
      have HM0 : Hid (M.toArray = mrow F) := hM0
      clear hmj hmP hM0
      go_wp2_with (first
        | (refine wpList_load_mid rfl 62 _ rfl b (off + j * 7) rfl M _ hrM und62 rfl hinM ?_)
        | (refine wpList_store_mid rfl 62 _ _ rfl wr.heap.size 0 M.toArray rfl rfl hthM hinM' honeM ?_; rw [show M.toArray.toList = M from rfl, HW.out])
        | (refine wpList_load_mid rfl 62 _ rfl wr.heap.size 0 rfl M _ hrM2 und62 rfl hinM ?_; rw [HM0.out]))
      go_loopw [16] (fun i wr => ∃ (t : Nat) (c : Nat → Nat), i = .int .i64 t ∧ t ≤ 7 ∧ MRow 69 wr w.heap.size (fun _ => 0) ∧ MRow 69 wr g (cr c) ∧ Hid (OrbP ms c j t) ∧ Below w.heap.size w wr) (fun i _ => (7 - intOf i).toNat)
      case atStart => exact ⟨0, c, rfl, by omega, hR3, hG3, HO, hB3⟩
      case round =>
        have hjk : j < k := hlt
        clear hR3 hG3 hB3 hR hG hB hrM hBM hrM2 hsM hthM hsz hlt hji hdec HO
        obtain ⟨t, c, rfl, ht, hR, hG, HO, hB⟩ := hrel
        by_cases hlt : t < 7
        · have hti : (t : Int) < 7 := by omega
          have hdec : decide ((t : Int) < 7) = true := by simp; omega
          have hix := idx62 F t hlt
          have h7 := HMJ.out.2.at hlt
          have hFt : F t = (m.getD t 0 : Int) := by rw [← HF.out]
          obtain ⟨y, Hy⟩ : ∃ y, Hid (m.getD t 0 = y) := ⟨_, rfl⟩
          rw [hFt, Hy.out] at hix
          rw [Hy.out] at h7
          have D := join_any c t y g wr hG hlt h7 HO.out.cut.lt7
          have HNX : Hid (OrbP ms (joinC c t y) j (t + 1)) := by have := HO.out.next HMJ.out.1 hlt (by rw [Hy.out]; exact h7); rwa [Hy.out] at this
          clear hFt
          go_wp2_with (first
            | (go_at_call 66; refine D.mono ?_; rintro e w3 ⟨rfl, hG4, hO4⟩))
          go_roundw
          case rel => exact ⟨t + 1, joinC c t y, by go_num, by omega, hO4.mrow hR (by omega), hG4, HNX, hB.trans (hO4.below (by omega))⟩
          case measure => simp [intOf]; omega
        · obtain rfl : t = 7 := by omega
          go_wp2
          go_roundw
          case rel => exact ⟨j + 1, c, by go_num, by omega, hR, hG, HO.out.turn, hB⟩
          case measure => simp [intOf]; omega
    · obtain rfl : j = k := by omega
      have hkd : decide ((j : Int) < (j : Int)) = false := by simp
      go_wp2_with (first
        | (refine wpList_load_row rfl 69 _ rfl g rfl 69 _ (0, 0) _ hG und69 rfl (inf69 _) ?_)
        | (refine wpList_store_row rfl 69 _ _ rfl w.heap.size _ rfl rfl 69 _ hR (inf69 _) (by simp) (mrow_one _) ?_))
      refine post_mrow und69 inf69 2 rfl rfl (hR.whole _) rfl ⟨⟨c, rfl, ?_⟩, bsetRow hB (Nat.le_refl _) _⟩
      have h := HO.out
      rw [← Hk.out] at h
      exact h.done

end Go.Proofs.Ytnbkabggmomhlaa
