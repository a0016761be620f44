/- The walk of Orbits. -/
import Derived.Test.YtgpkhfpejopacabGreatDoorZG66
import Derived.Test.YtgpkhfpejopacabGreatDoorZP25
import Derived.Deep.AppendLies
import Derived.Test.YtgpkhfpejopacabGreatDoorZG11
/- The walk of orbits. -/
namespace Go.Proofs.YtgpkhfpejopacabGreatDoor.Gc
open Go.RowKit

/-- On the way: all points of the first j makers, the first i points of the next one. -/
structure OrbP (ms : List (List Nat)) (c : Nat → Nat) (j i : Nat) : Prop where
  cut : Cut c
  low : ∀ t m, t < j → ms[t]? = some m → ∀ x, x < 7 → c x = c (m.getD x 0)
  now : ∀ m, ms[j]? = some m → ∀ x, x < i → c x = c (m.getD x 0)
  fin : ∀ d : Nat → Nat, (∀ m ∈ ms, ∀ x, x < 7 → d x = d (m.getD x 0)) → Fin1 c d
theorem OrbP.start (ms : List (List Nat)) : OrbP ms (fun i => i) 0 0 := ⟨cut_id, fun t m h => by omega, fun m _ x h => by omega, fun d _ => fin_id d⟩
theorem OrbP.next {ms : List (List Nat)} {c : Nat → Nat} {j i : Nat} {m : List Nat} (h : OrbP ms c j i) (hm : ms[j]? = some m) (hi : i < 7) (h7 : m.getD i 0 < 7) : OrbP ms (joinC c i (m.getD i 0)) j (i + 1) := by
  refine ⟨h.cut.join _ _, fun t m' ht hm' x hx => join_same (h.low t m' ht hm' x hx), fun m' hm' x hx => ?_, fun d hd => (h.fin d hd).join hi h7 (hd m (List.mem_of_getElem? hm) i hi)⟩
  obtain rfl : m = m' := by rw [hm] at hm'; simpa using hm'
  by_cases e : x = i
  · rw [e]; exact join_two c i _
  · exact join_same (h.now m hm x (by omega))
theorem OrbP.turn {ms : List (List Nat)} {c : Nat → Nat} {j : Nat} (h : OrbP ms c j 7) : OrbP ms c (j + 1) 0 := by
  refine ⟨h.cut, fun t m ht hm x hx => ?_, fun m _ x hx => by omega, h.fin⟩
  by_cases e : t = j
  · subst e; exact h.now m hm x hx
  · exact h.low t m (by omega) hm x hx
theorem OrbP.done {ms : List (List Nat)} {c : Nat → Nat} (h : OrbP ms c ms.length 0) : OrbC ms c :=
  ⟨h.cut, fun m hm x hx => by
    obtain ⟨t, ht, rfl⟩ := List.mem_iff_getElem.1 hm
    exact h.low t _ ht (List.getElem?_eq_getElem ht) x hx, h.fin⟩
theorem Cut.lt7 {c : Nat → Nat} (h : Cut c) : ∀ i, i < 7 → c i < 7 := fun i hi => Nat.lt_of_le_of_lt (h.le i) hi

set_option maxRecDepth 100000 in
set_option maxHeartbeats 4000000 in
theorem orbits_any (ms : List (List Nat)) (v : Value) (w : World) (hk : ms.length ≤ 4) (hv : Mvs w v ms) (hm : ∀ m ∈ ms, IsP 7 m) :
    Calls Tryz.prog 41 #[v] w fun e w' => (∃ c : Nat → Nat, e = .returned (.agg (mrow (cr c))) ∧ OrbC ms c) ∧ Below w.heap.size w w' := by
  obtain ⟨k, Hk⟩ : ∃ k, Hid (ms.length = k) := ⟨_, rfl⟩
  rw [Hk.out] at hk
  obtain ⟨a, cap, rfl, _⟩ := id hv
  have HV : Hid (Mvs w (.slice a ms.length cap) ms) := hv
  rw [Hk.out] at HV ⊢
  have HMS : Hid (∀ m ∈ ms, IsP 7 m) := hm
  clear hv hm
  have C := fun W => apart_any W
  have hk0 := MRow.made0 83 w
  have hB0 := balloc w (.cells #[.int .i64 0, .int .i64 0, .int .i64 0, .int .i64 0, .int .i64 0, .int .i64 0, .int .i64 0] 83)
  have hcr0 : Hid (OrbP ms (fun i => i) 0 0) := OrbP.start ms
  obtain ⟨c0, Hc0⟩ : ∃ c0 : Nat → Nat, Hid ((fun i : Nat => i) = c0) := ⟨_, rfl⟩
  rw [Hc0.out] at C hcr0
  go_enter Tryz.func41, Tryz.ntmps41
  go_wp2_with (first
    | (go_at_call 86; refine (C _).mono ?_; rintro e w1 ⟨rfl, b1⟩; have hk1 := hk0.below b1; have hsz1 := b1.size; replace b1 := Below.next hB0 b1; have hz := MRow.made0 83 w1)
    | (refine wpList_store_row rfl 83 _ _ rfl w1.heap.size _ rfl rfl 83 _ hz (inf69 _) (by simp) (mrow_one _) ?_))
  rw [World.size_alloc] at hsz1
  have hg0 := hz.whole (cr c0)
  have hk2 := (hk1.alloc (.cells #[.int .i64 0, .int .i64 0, .int .i64 0, .int .i64 0, .int .i64 0, .int .i64 0, .int .i64 0] 83)).wother (g' := w1.heap.size) (Nat.ne_of_lt hk1.lt) (mrow (cr c0))
  have hB2 : Below w.heap.size w ((w1.alloc (.cells #[.int .i64 0, .int .i64 0, .int .i64 0, .int .i64 0, .int .i64 0, .int .i64 0, .int .i64 0] 83)).setRow w1.heap.size (mrow (cr c0))) := bsetRow (b1.alloc b1.size _) (by omega) _
  clear hk0 hB0 C hk1 b1 hz
  obtain ⟨g, Hg⟩ : ∃ g, Hid (w1.heap.size = g) := ⟨_, rfl⟩
  rw [Hg.out] at hg0 hk2 hB2 hsz1 ⊢
  go_loopw [11] (fun i wr => ∃ (j : Nat) (c : Nat → Nat), i = .int .i64 j ∧ j ≤ k ∧ MRow 83 wr w.heap.size (fun _ => 0) ∧ MRow 83 wr g (cr c) ∧ Hid (OrbP ms c j 0) ∧ Below w.heap.size w wr) (fun i _ => (k - intOf i).toNat)
  case atStart => exact ⟨0, c0, rfl, by omega, hk2, hg0, hcr0, hB2⟩
  case round =>
    clear hk2 hg0 hcr0 hB2
    obtain ⟨j, c, rfl, hj, hR, hG, HO, hB⟩ := hrel
    by_cases hlt : j < k
    · have hji : (j : Int) < k := by omega
      have hdec : decide ((j : Int) < k) = true := by simp; omega
      obtain ⟨m, hmj⟩ : ∃ m, ms[j]? = some m := ⟨ms[j]'(by have := Hk.out; omega), by simp⟩
      have hmP := HMS.out m (List.mem_of_getElem? hmj)
      obtain ⟨b, off, rfl, hbw, hrM⟩ := HV.out.at hmj
      replace hrM := range_below hrM hB hbw
      have hsz := hB.size
      have hinM : (Tryz.prog.info? 95).map (·.size) = some (mvL (m)).length := inf62L _
      have hlM : (mvL (m)).length = 7 := mvL_len _
      have h1M : ∀ u ∈ mvL (m), u.oneCell' = true := mvL_one _
      obtain ⟨M, HM⟩ : ∃ M, Hid (mvL (m) = M) := ⟨_, rfl⟩
      rw [HM.out] at hinM hrM hlM h1M
      have honeM := all_oneCell_toArray h1M
      have hinM' : (Tryz.prog.info? 95).map (·.size) = some M.toArray.size := by simpa using hinM
      have hthM : (wr.alloc (.cells #[.int .i64 0, .int .i64 0, .int .i64 0, .int .i64 0, .int .i64 0, .int .i64 0, .int .i64 0] 95)).there wr.heap.size 0 M.toArray.size := by
        intro q hq
        rw [Nat.zero_add, cell_of_row _ _ q _ _ _ (heap_alloc_new wr _), frozen_of_row _ _ q _ _ (heap_alloc_new wr _)]
        have hq7 : q < 7 := by simpa [hlM] using hq
        exact ⟨by simp [hq7], rfl⟩
      have hBM : Below wr.heap.size wr ((wr.alloc (.cells #[.int .i64 0, .int .i64 0, .int .i64 0, .int .i64 0, .int .i64 0, .int .i64 0, .int .i64 0] 95)).setCells wr.heap.size 0 M) := (balloc wr (.cells #[.int .i64 0, .int .i64 0, .int .i64 0, .int .i64 0, .int .i64 0, .int .i64 0, .int .i64 0] 95)).trans (bsets (Nat.le_refl _) _ _ _)
      have hrM2 : ((wr.alloc (.cells #[.int .i64 0, .int .i64 0, .int .i64 0, .int .i64 0, .int .i64 0, .int .i64 0, .int .i64 0] 95)).setCells wr.heap.size 0 M).rangeAt wr.heap.size 0 M := World.rangeAt_setCells_same _ _ _ _ (by simpa using hthM)
      have hsM : wr.heap.size < ((wr.alloc (.cells #[.int .i64 0, .int .i64 0, .int .i64 0, .int .i64 0, .int .i64 0, .int .i64 0, .int .i64 0] 95)).setCells wr.heap.size 0 M).heap.size := by rw [sets_size, World.size_alloc]; omega
      obtain ⟨W, HW⟩ : ∃ W, Hid ((wr.alloc (.cells #[.int .i64 0, .int .i64 0, .int .i64 0, .int .i64 0, .int .i64 0, .int .i64 0, .int .i64 0] 95)).setCells wr.heap.size 0 M = W) := ⟨_, rfl⟩
      rw [HW.out] at hBM hrM2 hsM
      clear h1M
      have hB3 := Below.next hB hBM
      have hR3 := hR.below hBM
      have hG3 := hG.below hBM
      have HMJ : Hid (ms[j]? = some m ∧ IsP 7 m) := ⟨hmj, hmP⟩
      have hM0 : M.toArray = mrow (fun t => (m.getD t 0 : Int)) := by rw [← HM.out]; rfl
      obtain ⟨F, HF⟩ : ∃ F : Nat → Int, Hid ((fun t => (m.getD t 0 : Int)) = F) := ⟨_, rfl⟩
      rw [HF.out] at hM0
      have HM0 : Hid (M.toArray = mrow F) := hM0
      clear hmj hmP hM0
      go_wp2_with (first
        | (refine wpList_load_mid rfl 95 _ rfl b (off + j * 7) rfl M _ hrM und62 rfl hinM ?_)
        | (refine wpList_store_mid rfl 95 _ _ rfl wr.heap.size 0 M.toArray rfl rfl hthM hinM' honeM ?_; rw [show M.toArray.toList = M from rfl, HW.out])
        | (refine wpList_load_mid rfl 95 _ rfl wr.heap.size 0 rfl M _ hrM2 und62 rfl hinM ?_; rw [HM0.out]))
      go_loopw [16] (fun i wr => ∃ (t : Nat) (c : Nat → Nat), i = .int .i64 t ∧ t ≤ 7 ∧ MRow 83 wr w.heap.size (fun _ => 0) ∧ MRow 83 wr g (cr c) ∧ Hid (OrbP ms c j t) ∧ Below w.heap.size w wr) (fun i _ => (7 - intOf i).toNat)
      case atStart => exact ⟨0, c, rfl, by omega, hR3, hG3, HO, hB3⟩
      case round =>
        have hjk : j < k := hlt
        clear hR3 hG3 hB3 hR hG hB hrM hBM hrM2 hsM hthM hsz hlt hji hdec HO
        obtain ⟨t, c, rfl, ht, hR, hG, HO, hB⟩ := hrel
        by_cases hlt : t < 7
        · have hti : (t : Int) < 7 := by omega
          have hdec : decide ((t : Int) < 7) = true := by simp; omega
          have hix := idx62 F t hlt
          have h7 := HMJ.out.2.at hlt
          have hFt : F t = (m.getD t 0 : Int) := by rw [← HF.out]
          obtain ⟨y, Hy⟩ : ∃ y, Hid (m.getD t 0 = y) := ⟨_, rfl⟩
          rw [hFt, Hy.out] at hix
          rw [Hy.out] at h7
          have D := join_any c t y g wr hG hlt h7 HO.out.cut.lt7
          have HNX : Hid (OrbP ms (joinC c t y) j (t + 1)) := by have := HO.out.next HMJ.out.1 hlt (by rw [Hy.out]; exact h7); rwa [Hy.out] at this
          clear hFt
          go_wp2_with (first
            | (go_at_call 87; refine D.mono ?_; rintro e w3 ⟨rfl, hG4, hO4⟩))
          go_roundw
          case rel => exact ⟨t + 1, joinC c t y, by go_num, by omega, hO4.mrow hR (by omega), hG4, HNX, hB.trans (hO4.below (by omega))⟩
          case measure => simp [intOf]; omega
        · obtain rfl : t = 7 := by omega
          go_wp2
          go_roundw
          case rel => exact ⟨j + 1, c, by go_num, by omega, hR, hG, HO.out.turn, hB⟩
          case measure => simp [intOf]; omega
    · obtain rfl : j = k := by omega
      have hkd : decide ((j : Int) < (j : Int)) = false := by simp
      go_wp2_with (first
        | (refine wpList_load_row rfl 83 _ rfl g rfl 83 _ (0, 0) _ hG und69 rfl (inf69 _) ?_)
        | (refine wpList_store_row rfl 83 _ _ rfl w.heap.size _ rfl rfl 83 _ hR (inf69 _) (by simp) (mrow_one _) ?_))
      refine post_mrow und69 inf69 2 rfl rfl (hR.whole _) rfl ⟨⟨c, rfl, ?_⟩, bsetRow hB (Nat.le_refl _) _⟩
      have h := HO.out
      rw [← Hk.out] at h
      exact h.done

end Go.Proofs.YtgpkhfpejopacabGreatDoor.Gc

/- The walk of lists. -/
namespace Go.Proofs.YtgpkhfpejopacabGreatDoor.Gc
open Go.RowKit

/-- Of the first p points those whose least is f. -/
def bl (c : Nat → Nat) (p f : Nat) : List Nat := (List.range p).filter fun x => c x == f
theorem bl_succ (c : Nat → Nat) (p f : Nat) : bl c (p + 1) f = if c p = f then bl c p f ++ [p] else bl c p f := by
  unfold bl
  rw [List.range_succ, List.filter_append]
  by_cases h : c p = f <;> simp [h]
theorem bl_len (c : Nat → Nat) (p f : Nat) : (bl c p f).length ≤ p := by
  unfold bl
  have := List.length_filter_le (fun x => c x == f) (List.range p)
  rwa [List.length_range] at this
/-- Block B has n rows of numbers, each in memory of its own. -/
def Bh (w : World) (B n : Nat) (ls : Nat → List Nat) : Prop :=
  ∃ (us : Nat → Value) (cur : Array Value), w.heap[B]? = some (.cells cur 29 (0, 0)) ∧ (∀ i, i < n → cur[i]? = some (us i)) ∧ (∀ i, i < n → w.ownsRow (B + 1) 3 1 (us i) (ls i).length (vl (ls i))) ∧ ∀ i j, i < n → j < n → i ≠ j → ∀ g, (us i).ownBlock = some g → (us j).ownBlock ≠ some g
theorem Bh.made (w : World) (n : Nat) : Bh (w.alloc (.cells (madeCells #[.slice none 0 0] n) 29)) w.heap.size n (fun _ => []) := by
  refine ⟨fun _ => .slice none 0 0, _, heap_alloc_new w _, fun i hi => ?_, fun i _ => World.ownsRow_nil _ _ _ _, fun i j _ _ _ g hg => by cases hg⟩
  rw [Array.getElem?_eq_getElem (by rw [size_madeCells]; exact hi)]
  simp [madeCells, Nat.mod_one]
theorem Bh.congr {w : World} {B n : Nat} {ls ls' : Nat → List Nat} (h : Bh w B n ls) (e : ∀ i, i < n → ls i = ls' i) : Bh w B n ls' := by
  obtain ⟨us, cur, h1, h2, h3, h4⟩ := h
  exact ⟨us, cur, h1, h2, fun i hi => by rw [← e i hi]; exact h3 i hi, h4⟩
theorem Bh.lt {w : World} {B n : Nat} {ls : Nat → List Nat} (h : Bh w B n ls) : B < w.heap.size := by
  obtain ⟨us, cur, h1, _⟩ := h
  exact (Array.getElem?_eq_some_iff.1 h1).1
/-- What a row is, and the way back behind an append to it and a store. -/
theorem Bh.at {w : World} {B n : Nat} {ls : Nat → List Nat} (h : Bh w B n ls) {i : Nat} (hi : i < n) : ∃ u, w.cell? ⟨B, i, none⟩ = some u ∧ w.ownsRow (B + 1) 3 1 u (ls i).length (vl (ls i)) ∧ w.frozen? ⟨B, i, none⟩ = false ∧
    ∀ (w1 w2 : World) (u' : Value) (l' : List Nat), Below w.heap.size w w1 → w1.grownBy w2 u.ownBlock → w2.ownsRow (B + 1) 3 1 u' l'.length (vl l') → (u'.ownBlock = u.ownBlock ∨ u'.ownBlock = some w1.heap.size) →
      w2.cell? ⟨B, i, none⟩ = some u ∧ w2.frozen? ⟨B, i, none⟩ = false ∧ Bh (w2.setCell ⟨B, i, none⟩ u') B n (fun j => if j = i then l' else ls j) := by
  obtain ⟨us, cur, h1, h2, h3, h4⟩ := h
  have hBl : B < w.heap.size := (Array.getElem?_eq_some_iff.1 h1).1
  refine ⟨us i, ?_, h3 i hi, frozen_of_row w B i _ _ h1, fun w1 w2 u' l' hb hg hown hat => ?_⟩
  · rw [cell_of_row w B i _ _ _ h1, h2 i hi]
  have hne : some B ≠ (us i).ownBlock := fun e => by have := ((h3 i hi).lt B e.symm).1; omega
  have h1' : w2.heap[B]? = some (.cells cur 29 (0, 0)) := (hg.block B (Nat.lt_of_lt_of_le hBl hb.size) hne).trans ((hb.block B hBl).trans h1)
  refine ⟨by rw [cell_of_row w2 B i _ _ _ h1', h2 i hi], frozen_of_row w2 B i _ _ h1', ?_⟩
  refine ⟨fun j => if j = i then u' else us j, _, heap_setCell_same w2 B i _ _ _ h1', fun j hj => ?_, fun j hj => ?_, fun j k hj hk hjk g hgj hgk => ?_⟩
  · rw [Array.getElem?_setIfInBounds]
    by_cases e : i = j
    · subst e; rw [if_pos rfl, if_pos (Array.getElem?_eq_some_iff.1 (h2 i hi)).1]; simp
    · rw [if_neg e, h2 j hj]; simp [Ne.symm e]
  · refine own_other ?_ _ _ (by simp)
    by_cases e : j = i
    · subst e; simp only [if_pos]; exact hown
    · simp only [if_neg e]
      have ho := own_below (h3 j hj) hb
      refine World.ownsRow.kept ho hg ?_
      cases hv : (us j).ownBlock with
      | none => exact .inl rfl
      | some g => exact .inr fun e2 => h4 j i hj hi e g hv e2.symm
  · have old : ∀ t, t < n → t ≠ i → ∀ g, (us t).ownBlock = some g → u'.ownBlock ≠ some g := fun t ht hti g hgt hu => by
      rcases hat with h | h
      · exact h4 t i ht hi hti g hgt (by rw [← h]; exact hu)
      · rw [h] at hu
        have h5 := ((h3 t ht).lt g hgt).2
        have h6 := hb.size
        have h7 : w1.heap.size = g := by simpa using hu
        omega
    by_cases ej : j = i
    · by_cases ek : k = i
      · exact hjk (ej.trans ek.symm)
      · simp only [if_pos ej] at hgj; simp only [if_neg ek] at hgk
        exact old k hk ek g hgk hgj
    · by_cases ek : k = i
      · simp only [if_neg ej] at hgj; simp only [if_pos ek] at hgk
        exact old j hj ej g hgj hgk
      · simp only [if_neg ej] at hgj; simp only [if_neg ek] at hgk
        exact h4 j k hj hk hjk g hgj hgk
/-- A row of a slice of rows is as it was where another row is written. -/
theorem RowIs.grown {wa w2 : World} {base : Nat} {v u : Value} {l : List Nat} {n : Nat} {vals : List Value} (h1 : wa.ownsRow base 29 1 v n vals) (hgr : wa.grownBy w2 v.ownBlock) (h : RowIs wa base u l) : RowIs w2 base u l := by
  obtain ⟨g, cap, rfl, hg, hO⟩ := h
  have hl := hO.lt
  obtain ⟨cur, k1, k2⟩ := hO
  refine ⟨g, cap, rfl, hg, cur, (hgr.block g hl (fun e => ?_)).trans k1, k2⟩
  obtain ⟨_, ⟨rfl, _⟩ | ⟨g', cap', cur', rfl, _, hg', _⟩⟩ := h1
  · simp [Value.ownBlock] at e
  · have e2 : g = g' := by simpa [Value.ownBlock] using e
    subst e2
    rw [hg'] at k1
    simp at k1
/-- The rows of block B, to be read alone. -/
def Br (w : World) (B n : Nat) (us : Nat → Value) (ls : Nat → List Nat) : Prop := ∀ i, i < n → w.cell? ⟨B, i, none⟩ = some (us i) ∧ (∃ a c, us i = .slice a (ls i).length c) ∧ ((ls i) ≠ [] → RowIs w (B + 1) (us i) (ls i))
theorem Bh.read {w : World} {B n : Nat} {ls : Nat → List Nat} (h : Bh w B n ls) : ∃ us, Br w B n us ls := by
  obtain ⟨us, cur, h1, h2, h3, _⟩ := h
  refine ⟨us, fun i hi => ⟨by rw [cell_of_row w B i _ _ _ h1, h2 i hi], ?_, fun hne => ?_⟩⟩
  · obtain ⟨a, c, e, _⟩ := own_vl (h3 i hi) rfl
    exact ⟨a, c, by rw [e, List.length_map]⟩
  · have hp : 0 < (ls i).length := List.length_pos_iff.2 hne
    obtain ⟨g, cap, e, hb, hO⟩ := Own.of (l := (ls i).map Int.ofNat) (h3 i hi) hp
    refine ⟨g, cap, e, hb, hO.congr fun j hj => ?_⟩
    simp [hj]

set_option maxRecDepth 100000 in
theorem info23 : ∃ i, Tryz.prog.info? 29 = some i ∧ i.zero = some (.slice none 0 0) ∧ i.size = 1 ∧ i.bytes = 24 := by
  have h1 : (Tryz.prog.info? 29).map (·.zero) = some (some (.slice none 0 0)) := by kernel_rfl
  have h2 : (Tryz.prog.info? 29).map (·.size) = some 1 := by kernel_rfl
  have h3 : (Tryz.prog.info? 29).map (·.bytes) = some 24 := by kernel_rfl
  cases h : Tryz.prog.info? 29 with
  | none => rw [h] at h1; cases h1
  | some i =>
    rw [h] at h1 h2 h3
    exact ⟨i, rfl, Option.some.inj h1, Option.some.inj h2, Option.some.inj h3⟩
set_option maxRecDepth 100000 in
theorem und22' : Tryz.prog.underlying 22 = some (.slice 29) := by kernel_rfl
/-- The lists of a cut, by their least points. -/
def cutL (c : Nat → Nat) (n k : Nat) : List (List Nat) := ((List.range k).map fun f => bl c n f).filter fun l => !l.isEmpty
theorem cutL_succ (c : Nat → Nat) (n k : Nat) : cutL c n (k + 1) = if bl c n k = [] then cutL c n k else cutL c n k ++ [bl c n k] := by
  unfold cutL
  rw [List.range_succ, List.map_append, List.filter_append]
  by_cases h : bl c n k = []
  · simp [h]
  · have : (bl c n k).isEmpty = false := by simpa using h
    simp [h, this]
theorem cutL_len (c : Nat → Nat) (n k : Nat) : (cutL c n k).length ≤ k := by
  unfold cutL
  refine Nat.le_trans (List.length_filter_le _ _) ?_
  simp
theorem ownM {w w' : World} {b : Nat} {f : Nat → Int} {T : Nat} (h : MRow T w b f) (e : w'.heap[b]? = w.heap[b]?) : MRow T w' b f := e.trans h

set_option maxRecDepth 100000 in
set_option maxHeartbeats 4000000 in
theorem lists_any (c : Nat → Nat) (n : Nat) (w : World) (hn : n ≤ 7) (hc : ∀ i, c i ≤ i) :
    Calls Tryz.prog 43 #[.agg (mrow (cr c)), .int .i64 (n : Int)] w fun e w' => (∃ v, e = .returned v ∧ SlSl w' v (cutL c n n)) ∧ Below w.heap.size w w' := by
  obtain ⟨i23, hi, hz0, hz1, hz2⟩ := info23
  have hmk : ∀ w : World, (Instr.makeSlice 22 (.int .i64 (n : Int)) (.int .i64 (n : Int))).run Tryz.prog w = .ok (.slice (some ⟨w.heap.size, 0, none⟩) n n) (w.alloc (.cells (madeCells #[.slice none 0 0] n) 29)) := fun w => by
    have h := run_make (P := Tryz.prog) w 22 29 i23 (.slice none 0 0) und22' hi hz0 .i64 .i64 n n (by omega) (by omega) (by rw [hz2]; omega) (by omega)
    rw [hz1] at h
    simpa [Value.cells] using h
  have hk0 : MRow 83 ((w.alloc (.cells (mrow (cr c)) 83)).alloc (.cells (madeCells #[.slice none 0 0] n) 29)) w.heap.size (cr c) := (MRow.made 83 w _).alloc _
  have hB0 : Below w.heap.size w ((w.alloc (.cells (mrow (cr c)) 83)).alloc (.cells (madeCells #[.slice none 0 0] n) 29)) := (balloc w _).alloc (by simp) _
  have hH0 : Bh ((w.alloc (.cells (mrow (cr c)) 83)).alloc (.cells (madeCells #[.slice none 0 0] n) 29)) (w.heap.size + 1) n (fun f => bl c 0 f) := by
    have h := Bh.made (w.alloc (.cells (mrow (cr c)) 83)) n
    rw [World.size_alloc] at h
    exact h
  obtain ⟨i3, ti, tz0, tz1, tz2⟩ := info3
  have HI : Hid (Tryz.prog.info? 3 = some i3 ∧ i3.zero = some (.int .i64 0) ∧ i3.size = 1 ∧ i3.bytes = 8) := ⟨ti, tz0, tz1, tz2⟩
  have HI2 : Hid (Tryz.prog.info? 29 = some i23 ∧ i23.zero = some (.slice none 0 0) ∧ i23.size = 1 ∧ i23.bytes = 24) := ⟨hi, hz0, hz1, hz2⟩
  have HC : Hid (∀ i, c i ≤ i) := hc
  have hn0 : (0 : Int) ≤ (n : Int) := by omega
  have hn7 : (n : Int) ≤ 7 := by omega
  clear hi hz0 hz1 hz2 hc ti tz0 tz1 tz2
  go_enter Tryz.func43, Tryz.ntmps43
  go_wp2
  go_loopw [16] (fun i wr => ∃ p : Nat, i = .int .i64 p ∧ p ≤ n ∧ MRow 83 wr w.heap.size (cr c) ∧ Bh wr (w.heap.size + 1) n (fun f => bl c p f) ∧ Below w.heap.size w wr) (fun i _ => (n - intOf i).toNat)
  case atStart => exact ⟨0, rfl, by omega, hk0, hH0, hB0⟩
  case round =>
    clear hk0 hH0 hB0
    obtain ⟨p, rfl, hp, hK, hH, hB⟩ := hrel
    by_cases hlt : p < n
    · have hpi : (p : Int) < n := by omega
      have hdec : decide ((p : Int) < n) = true := by simp; omega
      have hcp := hK.cell p (by omega)
      unfold cr at hcp
      have hcl := HC.out p
      obtain ⟨f, Hf⟩ : ∃ f, Hid (c p = f) := ⟨_, rfl⟩
      rw [Hf.out] at hcp hcl
      have hfi : (f : Int) < n := by omega
      have hHl := hH.lt
      obtain ⟨u, hcu, hown, hfu, hback⟩ := hH.at (i := f) (by omega)
      have hlb := bl_len c p f
      obtain ⟨l, Hl⟩ : ∃ l, Hid (bl c p f = l) := ⟨_, rfl⟩
      simp only [Hl.out] at hown hlb
      have HBK : Hid (∀ (w1 w2 : World) (u' : Value) (l' : List Nat), Below wr.heap.size wr w1 → w1.grownBy w2 u.ownBlock → w2.ownsRow (w.heap.size + 1 + 1) 3 1 u' l'.length (vl l') → (u'.ownBlock = u.ownBlock ∨ u'.ownBlock = some w1.heap.size) →
        w2.cell? ⟨w.heap.size + 1, f, none⟩ = some u ∧ w2.frozen? ⟨w.heap.size + 1, f, none⟩ = false ∧ Bh (w2.setCell ⟨w.heap.size + 1, f, none⟩ u') (w.heap.size + 1) n (fun j => if j = f then l' else bl c p j)) := hback
      clear hback
      obtain ⟨k, Hk⟩ : ∃ k, Hid (l.length = k) := ⟨_, rfl⟩
      rw [Hk.out] at hown hlb
      obtain ⟨ua, uc, hue⟩ : ∃ ua uc, u = .slice ua k uc := by
        obtain ⟨_, ⟨e, e2⟩ | ⟨g, cap, cur, e, _⟩⟩ := hown
        · exact ⟨none, 0, by rw [e, e2]⟩
        · exact ⟨_, cap, e⟩
      subst hue
      go_wp2_with (first
        | (at_builtin; refine wpList_append_own_at _ rfl _ _ 29 rfl (w.heap.size + 1 + 1) 3 i3 (.int .i64 0) 1 8 und22 HI.out.1 HI.out.2.1 HI.out.2.2.1 HI.out.2.2.2 rfl (by decide) _ _ _ rfl (hown.alloc _) ⟨wr.heap.size, 0, none⟩ 1 1 [.int .i64 (p : Int)] rfl rfl ?c1 ?c2 ?c3 ?c4 ?c5 ?_))
      case c1 => exact cell_one_new _ _ _
      case c2 => intro u hu; simp at hu; subst hu; rfl
      case c3 => unfold maxLen; omega
      case c4 => omega
      case c5 => simp; omega
      · intro v' w1 hown' hgrow _ hat
        have e1 : vl l ++ [Value.int .i64 (p : Int)] = vl (l ++ [p]) := by simp [vl]
        rw [e1] at hown'
        have hbk := HBK.out _ w1 v' (l ++ [p]) (balloc wr (.cells #[.int .i64 (p : Int)] 3)) hgrow (by rw [List.length_append, Hk.out]; exact hown') (by simpa using hat)
        obtain ⟨hcu1, hfu1, hH1⟩ := hbk
        have hrow0 : ∀ g, (Value.slice ua k uc).ownBlock = some g → w.heap.size + 1 + 1 ≤ g := fun g hg => (hown.lt g hg).1
        have hb1 : Below w.heap.size w w1 := (hB.alloc hB.size _).grown hgrow (by simp; omega) (fun g hg => by have := hrow0 g hg; omega)
        have hK1 : MRow 83 w1 w.heap.size (cr c) := ownM hK ((hgrow.block w.heap.size (by simp; omega) (fun e => by have := hrow0 _ e.symm; omega)).trans ((balloc wr _).block w.heap.size (by omega)))
        obtain ⟨va, vc, hve⟩ : ∃ va vc, v' = .slice va (k + 1) vc := by
          obtain ⟨_, ⟨e, e2⟩ | ⟨g, cap, cur, e, _⟩⟩ := hown'
          · omega
          · exact ⟨_, cap, e⟩
        subst hve
        clear HBK hown hown' hgrow hat
        go_wp2
        go_roundw
        case rel =>
          refine ⟨p + 1, by go_num, by omega, hK1.other _ _ (by simp), hH1.congr (fun j hj => ?_), hb1.setCell (p := ⟨w.heap.size + 1, f, none⟩) (by simp) _⟩
          rw [bl_succ, Hf.out]
          by_cases e : j = f
          · subst e; rw [if_pos rfl, if_pos rfl, Hl.out]
          · rw [if_neg e, if_neg (Ne.symm e)]
        case measure => simp [intOf]; omega
    · obtain rfl : p = n := by omega
      have hkd : decide ((p : Int) < (p : Int)) = false := by simp
      obtain ⟨us, hBr⟩ := hH.read
      have hHl := hH.lt
      clear hH hK
      go_wp2
      go_loopw [8, 34] (fun o i wr => ∃ j : Nat, i = .int .i64 j ∧ j ≤ p ∧ CycR wr (w.heap.size + 1 + 1) o (cutL c p j) ∧ Hid (Br wr (w.heap.size + 1) p us (fun f => bl c p f)) ∧ w.heap.size + 1 < wr.heap.size ∧ Below w.heap.size w wr) (fun _ i _ => (p - intOf i).toNat)
      case atStart => exact ⟨0, rfl, by omega, CycR.nil _ _, hBr, hHl, hB⟩
      case round =>
        clear hBr hHl hB hkd
        obtain ⟨j, rfl, hj, hcy, HBr, hHl, hB⟩ := hrel
        by_cases hlt : j < p
        · have hji : (j : Int) < p := by omega
          have hdec : decide ((j : Int) < p) = true := by simp; omega
          obtain ⟨hcu, ⟨ua, uc, hue⟩, hrow⟩ := HBr.out j hlt
          have hbl := bl_len c p j
          have HCS : Hid (cutL c p (j + 1) = if bl c p j = [] then cutL c p j else cutL c p j ++ [bl c p j]) := cutL_succ c p j
          have hcl := cutL_len c p j
          obtain ⟨l, Hl⟩ : ∃ l, Hid (bl c p j = l) := ⟨_, rfl⟩
          simp only [Hl.out] at hrow hue hbl
          rw [Hl.out] at HCS
          rw [hue] at hcu
          obtain ⟨k, Hk⟩ : ∃ k, Hid (l.length = k) := ⟨_, rfl⟩
          rw [Hk.out] at hcu hue hbl
          obtain ⟨oa, oc, hoe⟩ := hcy.form
          subst hoe
          by_cases e : k = 0
          · subst e
            have HE : Hid (l = []) := List.length_eq_zero_iff.1 Hk.out
            clear hrow hue
            go_wp2
            go_roundw
            case rel => exact ⟨j + 1, by go_num, by omega, by rw [HCS.out, if_pos HE.out]; exact hcy, HBr, hHl, hB⟩
            case measure => simp [intOf]; omega
          · have hkp : (0 : Int) < (k : Int) := by omega
            have HE : Hid (¬ l = []) := fun h => e (by rw [← Hk.out, h]; rfl)
            have HR : Hid (RowIs wr (w.heap.size + 1 + 1) (.slice ua k uc) l) := by rw [← hue]; exact hrow HE.out
            clear hrow e hue
            obtain ⟨q, Hq⟩ : ∃ q, Hid ((cutL c p j).length = q) := ⟨_, rfl⟩
            rw [Hq.out] at hcl hcy ⊢
            obtain ⟨vals, hv1, hv2⟩ := hcy
            rw [Hq.out] at hv1
            have HV2 : Hid (∀ (i : Nat) (u : Value) (l : List Nat), vals[i]? = some u → (cutL c p j)[i]? = some l → RowIs wr (w.heap.size + 1 + 1) u l) := hv2
            clear hv2
            go_wp2_with (first
              | (at_builtin; refine wpList_append_own_at _ rfl _ _ 22 rfl (w.heap.size + 1 + 1) 29 i23 (.slice none 0 0) 1 24 und22' HI2.out.1 HI2.out.2.1 HI2.out.2.2.1 HI2.out.2.2.2 rfl (by decide) _ _ _ rfl (hv1.alloc _) ⟨wr.heap.size, 0, none⟩ 1 1 [.slice ua k uc] rfl rfl ?c1 ?c2 ?c3 ?c4 ?c5 ?_))
            case c1 => exact cell_one_new _ _ _
            case c2 => intro u hu; simp at hu; subst hu; rfl
            case c3 => unfold maxLen; omega
            case c4 => omega
            case c5 => simp; omega
            · intro v' w1 hown' hgrow _ _
              have hb1 : Below w.heap.size w w1 := (hB.alloc hB.size _).grown hgrow (by simp; omega) (fun g hg => by have := (hv1.lt g hg).1; omega)
              have hal : ∀ {u l}, RowIs wr (w.heap.size + 1 + 1) u l → RowIs (wr.alloc (.cells #[.slice ua k uc] 29)) (w.heap.size + 1 + 1) u l := fun h => h.kp (M := 0) (Kp.below (balloc _ _)) (by omega)
              have hcy1 : CycR w1 (w.heap.size + 1 + 1) v' (cutL c p j ++ [l]) := CycR.more (wa := wr.alloc (.cells #[.slice ua k uc] 29)) (vals := vals) (by rw [Hq.out]; exact hv1.alloc _) (fun i u l h1 h2 => hal (HV2.out i u l h1 h2)) (hal HR.out) (by rw [Hq.out]; exact hown') hgrow
              have hBr1 : Br w1 (w.heap.size + 1) p us (fun f => bl c p f) := fun i hi => by
                obtain ⟨k1, k2, k3⟩ := HBr.out i hi
                refine ⟨?_, k2, fun h => RowIs.grown (hv1.alloc _) hgrow (hal (k3 h))⟩
                have e2 : w1.heap[w.heap.size + 1]? = wr.heap[w.heap.size + 1]? := (hgrow.block _ (by simp; omega) (fun e => by have := (hv1.lt _ e.symm).1; omega)).trans ((balloc wr _).block _ hHl)
                exact (World.cell?_of_block (w := wr) (a := ⟨w.heap.size + 1, i, none⟩) e2).trans k1
              have hs1 : w.heap.size + 1 < w1.heap.size := by have := hgrow.size; simp at this; omega
              obtain ⟨va, vc, hve⟩ : ∃ va vc, v' = .slice va (q + 1) vc := by
                obtain ⟨_, ⟨e, e2⟩ | ⟨g, cap, cur, e, _⟩⟩ := hown'
                · omega
                · exact ⟨_, cap, e⟩
              subst hve
              clear hown' hgrow hv1 HV2
              go_wp2
              go_roundw
              case rel => exact ⟨j + 1, by go_num, by omega, by rw [HCS.out, if_neg HE.out]; exact hcy1, hBr1, hs1, hb1⟩
              case measure => simp [intOf]; omega
        · obtain rfl : j = p := by omega
          have hkd : decide ((j : Int) < (j : Int)) = false := by simp
          go_wp2
          go_ret
          exact ⟨⟨_, rfl, hcy.sl⟩, hB⟩

end Go.Proofs.YtgpkhfpejopacabGreatDoor.Gc

namespace Go.Proofs.YtgpkhfpejopacabGreatDoor.Gc
open Go.RowKit Go.Maps

/-- The orbits, by their least points. -/
noncomputable def orbs (n : Nat) (ms : List (List Nat)) : List (List Nat) := (reps n (Gen n ms)).map (orbL n (Gen n ms))
open Classical in
theorem cutL_orbs {n : Nat} {ms : List (List Nat)} {c : Nat → Nat} (hn : n ≤ 7) (hm : ∀ m ∈ ms, IsP n m) (h : OrbC (ms.map (ext n)) c) : cutL c n n = orbs n ms := by
  have hG := gen_grp hm
  have hr : ∀ x, x < n → c x = repO n (Gen n ms) x := fun x hx => orb_least hG h.cut (fun x y hx hy => h.orb hn hm hx hy) hx
  have hbl : ∀ f, f < n → bl c n f = if repO n (Gen n ms) f = f then orbL n (Gen n ms) f else [] := by
    intro f hf
    unfold bl
    by_cases e : repO n (Gen n ms) f = f
    · rw [if_pos e]
      unfold orbL
      refine List.filter_congr fun x hx => ?_
      have hx := List.mem_range.1 hx
      rw [hr x hx, Bool.eq_iff_iff, beq_iff_eq, decide_eq_true_iff]
      constructor
      · intro e2; exact (repO_eq hG hf hx).1 (e.trans e2.symm)
      · intro e2; exact ((repO_eq hG hf hx).2 e2).symm.trans e
    · rw [if_neg e, List.filter_eq_nil_iff]
      intro x hx hh
      have hx := List.mem_range.1 hx
      have e2 : c x = f := by simpa using hh
      refine e ?_
      rw [← hr f hf, ← e2]
      exact h.cut.fix x
  have hne : ∀ f, f < n → orbL n (Gen n ms) f ≠ [] := fun f hf e => by
    have := mem_orbL.2 ⟨hf, Orb.refl hG hf⟩
    rw [e] at this; cases this
  unfold cutL orbs reps
  rw [List.filter_map]
  have e1 : (List.range n).filter ((fun l : List Nat => !l.isEmpty) ∘ fun f => bl c n f) = (List.range n).filter fun x => decide (repO n (Gen n ms) x = x) := by
    refine List.filter_congr fun f hf => ?_
    have hf := List.mem_range.1 hf
    simp only [Function.comp]
    rw [hbl f hf]
    by_cases e : repO n (Gen n ms) f = f
    · rw [if_pos e]
      have : (orbL n (Gen n ms) f).isEmpty = false := by simpa using hne f hf
      simp [this, e]
    · simp [e]
  rw [e1]
  refine List.map_congr_left fun f hf => ?_
  obtain ⟨h1, h2⟩ := List.mem_filter.1 hf
  rw [hbl f (List.mem_range.1 h1), if_pos (of_decide_eq_true h2)]
theorem reps_len (n : Nat) (G : List Nat → Prop) : (reps n G).length ≤ n := by
  unfold reps
  refine Nat.le_trans (List.length_filter_le _ _) ?_
  rw [List.length_range]; exact Nat.le_refl _
theorem Mk.ext7 {n : Nat} {ms : List (List Nat)} {v : Value} {w : World} (h : Mk n ms v w) : ∀ m ∈ ms.map (ext n), IsP 7 m := fun m hm => by
  obtain ⟨a, ha, rfl⟩ := List.mem_map.1 hm
  exact ext_isP (h.isP a ha) h.n7

set_option maxRecDepth 100000 in
set_option maxHeartbeats 1000000 in
theorem Orbits_ok (n : Nat) (ms : List (List Nat)) (v : Value) (w : World) (h : Mk n ms v w) :
    Calls Tryz.prog 12 #[.int .i64 (n : Int), v] w fun e w' => (∃ y, e = .returned (.tuple #[y, .int .i64 0]) ∧ SlSl w' y (orbs n ms)) ∧ Below w.heap.size w w' := by
  have C1 := h.check
  have C2 := fun W (hb : Below w.heap.size w W) => (h.below hb).moves
  have C3 := fun x W (hx : Mvs W x (ms.map (ext n))) => orbits_any (ms.map (ext n)) x W (by rw [List.length_map]; exact h.len) hx h.ext7
  have C4 := fun (c : Nat → Nat) (hc : OrbC (ms.map (ext n)) c) W => lists_any c n W h.n7 hc.cut.le
  have HE : Hid (∀ c, OrbC (ms.map (ext n)) c → cutL c n n = orbs n ms) := fun c hc => cutL_orbs h.n7 h.isP hc
  clear h
  go_enter Tryz.func12, Tryz.ntmps12
  go_wp2_with (first
    | (go_at_call 40; refine C1.mono ?_; rintro e w1 ⟨rfl, b1⟩)
    | (go_at_call 42; refine (C2 _ b1).mono ?_; rintro e w2 ⟨⟨x, rfl, hx⟩, b2⟩; replace b2 := Below.next b1 b2)
    | (go_at_call 41; refine (C3 _ _ hx).mono ?_; rintro e w3 ⟨⟨c, rfl, hc⟩, b3⟩; replace b3 := Below.next b2 b3)
    | (go_at_call 43; refine (C4 c hc _).mono ?_; rw [HE.out c hc]; rintro e w4 ⟨⟨y, rfl, hy⟩, b4⟩; replace b4 := Below.next b3 b4))
  exact bodyPost_ret (v := .tuple #[y, .int .i64 0]) (by simp [results, Tryz.results12, go_sem]) rfl ⟨⟨y, rfl, hy⟩, b4⟩

end Go.Proofs.YtgpkhfpejopacabGreatDoor.Gc
