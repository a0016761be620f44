/- The walk of kept. -/
import Derived.Test.YtnbkabggmomhlabG47
import Derived.Test.YtnbkabggmomhlabGEq
namespace Go.Proofs.Ytnbkabggmomhlab
open Go.RowKit

/-- On the way, ahead of a pass: a cut that is none too coarse. -/
structure KpA (ms : List (List Nat)) (p q : Nat) (c : Nat → Nat) : Prop where
  cut : Cut c
  two : c p = c q
  fin : ∀ d, Keeps ms d → d p = d q → Fin1 c d
/-- In a pass: b the cut ahead of it. -/
structure KpP (ms : List (List Nat)) (p q : Nat) (b c : Nat → Nat) (j i : Nat) : Prop where
  a : KpA ms p q c
  le : ∀ x, c x ≤ b x
  low : ∀ t m, t < j → ms[t]? = some m → ∀ x, x < 7 → c (m.getD x 0) = c (m.getD (b x) 0)
  now : ∀ m, ms[j]? = some m → ∀ x, x < i → c (m.getD x 0) = c (m.getD (b x) 0)
theorem KpP.start {ms : List (List Nat)} {p q : Nat} {c : Nat → Nat} (h : KpA ms p q c) : KpP ms p q c c 0 0 := ⟨h, fun _ => Nat.le_refl _, fun t m h => by omega, fun m _ x h => by omega⟩
theorem KpP.next {ms : List (List Nat)} {p q : Nat} {b c : Nat → Nat} {j i : Nat} {m : List Nat} (hb : KpA ms p q b) (h : KpP ms p q b c j i) (hm : ms[j]? = some m) (hi : i < 7) (h1 : m.getD i 0 < 7) (h2 : m.getD (b i) 0 < 7) : KpP ms p q b (joinC c (m.getD i 0) (m.getD (b i) 0)) j (i + 1) := by
  refine ⟨⟨h.a.cut.join _ _, join_same h.a.two, fun d hd hpq => (h.a.fin d hd hpq).join h1 h2 ?_⟩, fun x => Nat.le_trans (joinC_le _ _ _ _) (h.le x), fun t m' ht hm' x hx => join_same (h.low t m' ht hm' x hx), fun m' hm' x hx => ?_⟩
  · have hbi : b i < 7 := Nat.lt_of_le_of_lt (hb.cut.le i) hi
    exact hd m (List.mem_of_getElem? hm) i (b i) hi hbi (hb.fin d hd hpq i (b i) hi hbi (hb.cut.fix i).symm)
  · obtain rfl : m = m' := by rw [hm] at hm'; simpa using hm'
    by_cases e : x = i
    · rw [e]; exact join_two c _ _
    · exact join_same (h.now m hm x (by omega))
theorem KpP.turn {ms : List (List Nat)} {p q : Nat} {b c : Nat → Nat} {j : Nat} (h : KpP ms p q b c j 7) : KpP ms p q b c (j + 1) 0 := by
  refine ⟨h.a, h.le, fun t m ht hm x hx => ?_, fun m _ x hx => by omega⟩
  by_cases e : t = j
  · subst e; exact h.now m hm x hx
  · exact h.low t m (by omega) hm x hx
theorem KpP.done {ms : List (List Nat)} {p q : Nat} {b c : Nat → Nat} (h : KpP ms p q b c ms.length 0) (e : ∀ x, x < 7 → c x = b x) : Finest ms p q c := by
  refine ⟨h.a.cut, fun m hm x y hx hy exy => ?_, h.a.two, h.a.fin⟩
  obtain ⟨t, ht, rfl⟩ := List.mem_iff_getElem.1 hm
  have k := h.low t _ ht (List.getElem?_eq_getElem ht)
  rw [k x hx, k y hy, ← e x hx, ← e y hy, exy]
def sum7 (c : Nat → Nat) : Nat := c 0 + c 1 + c 2 + c 3 + c 4 + c 5 + c 6
theorem sum7_lt {b c : Nat → Nat} (hle : ∀ x, c x ≤ b x) (hne : ¬ ∀ x, x < 7 → c x = b x) : sum7 c < sum7 b := by
  unfold sum7
  refine Nat.lt_of_not_le fun h => hne fun x hx => ?_
  have h0 := hle 0; have h1 := hle 1; have h2 := hle 2; have h3 := hle 3; have h4 := hle 4; have h5 := hle 5; have h6 := hle 6
  have : x = 0 ∨ x = 1 ∨ x = 2 ∨ x = 3 ∨ x = 4 ∨ x = 5 ∨ x = 6 := by omega
  rcases this with rfl | rfl | rfl | rfl | rfl | rfl | rfl <;> omega
/-- What is left to lower, as memory tells it. -/
noncomputable def leftC (g : Nat) (w : World) : Nat := open Classical in if h : ∃ c : Nat → Nat, MRow 49 w g (cr c) then sum7 (Classical.choose h) else 0
theorem leftC_eq {g : Nat} {w : World} {c : Nat → Nat} (h : MRow 49 w g (cr c)) : leftC g w = sum7 c := by
  have hex : ∃ c : Nat → Nat, MRow 49 w g (cr c) := ⟨c, h⟩
  unfold leftC
  rw [dif_pos hex]
  have h2 := Classical.choose_spec hex
  have h3 : mrow (cr c) = mrow (cr (Classical.choose hex)) := by
    have := Eq.trans (Eq.symm h) h2
    simpa using this
  have key : ∀ j, j < 7 → c j = Classical.choose hex j := fun j hj => Int.ofNat.inj (mrow_inj h3 hj)
  unfold sum7
  rw [key 0 (by omega), key 1 (by omega), key 2 (by omega), key 3 (by omega), key 4 (by omega), key 5 (by omega), key 6 (by omega)]

set_option maxRecDepth 100000 in
set_option maxHeartbeats 8000000 in
theorem kept_any (ms : List (List Nat)) (v : Value) (p q : Nat) (w : World) (hk : ms.length ≤ 4) (hv : Mvs w v ms) (hm : ∀ m ∈ ms, IsP 7 m) (hp : p < 7) (hq : q < 7) :
    Calls Try.prog 22 #[v, .int .i64 (p : Int), .int .i64 (q : Int)] w fun e w' => (∃ c : Nat → Nat, e = .returned (.agg (mrow (cr c))) ∧ Finest ms p q c) ∧ Below w.heap.size w w' := by
  obtain ⟨k, Hk⟩ : ∃ k, Hid (ms.length = k) := ⟨_, rfl⟩
  rw [Hk.out] at hk
  obtain ⟨a, cap, rfl, _⟩ := id hv
  have HV : Hid (Mvs w (.slice a ms.length cap) ms) := hv
  rw [Hk.out] at HV ⊢
  have HMS : Hid (∀ m ∈ ms, IsP 7 m) := hm
  clear hv hm
  have C := fun W => apart_any W
  have hk0 := MRow.made0 49 w
  have hB0 := balloc w (.cells #[.int .i64 0, .int .i64 0, .int .i64 0, .int .i64 0, .int .i64 0, .int .i64 0, .int .i64 0] 49)
  have HA0 : Hid (KpA ms p q (joinC (fun i => i) p q)) := ⟨cut_id.join p q, join_two _ p q, fun d _ e => (fin_id d).join hp hq e⟩
  have hc7 : Hid (∀ i : Nat, i < 7 → (fun i : Nat => i) i < 7) := fun i hi => hi
  obtain ⟨c0, Hc0⟩ : ∃ c0 : Nat → Nat, Hid ((fun i : Nat => i) = c0) := ⟨_, rfl⟩
  rw [Hc0.out] at C HA0 hc7
  have D := fun g W (h : MRow 49 W g (cr c0)) => join_any c0 p q g W h hp hq hc7.out
  go_enter Try.func22, Try.ntmps22
  go_wp2_with (first
    | (go_at_call 26; refine (C _).mono ?_; rintro e w1 ⟨rfl, b1⟩; have hk1 := hk0.below b1; have hsz1 := b1.size; replace b1 := Below.next hB0 b1; have hz := MRow.made0 49 w1)
    | (refine wpList_store_row rfl 49 _ _ rfl w1.heap.size _ rfl rfl 49 _ hz (inf69 _) (by simp) (mrow_one _) ?_; have hg0 := hz.whole (cr c0); have hk2 := (hk1.alloc (.cells #[.int .i64 0, .int .i64 0, .int .i64 0, .int .i64 0, .int .i64 0, .int .i64 0, .int .i64 0] 49)).wother (g' := w1.heap.size) (Nat.ne_of_lt hk1.lt) (mrow (cr c0)); have hB2 : Below w.heap.size w ((w1.alloc (.cells #[.int .i64 0, .int .i64 0, .int .i64 0, .int .i64 0, .int .i64 0, .int .i64 0, .int .i64 0] 49)).setRow w1.heap.size (mrow (cr c0))) := bsetRow (b1.alloc b1.size _) (by rw [World.size_alloc] at hsz1; omega) _)
    | (go_at_call 27; refine (D _ _ hg0).mono ?_; rintro e w2 ⟨rfl, hg1, ho1⟩))
  rw [World.size_alloc] at hsz1
  have hk3 := ho1.mrow hk2 (by omega)
  have hB3 := hB2.trans (ho1.below (by omega))
  clear hk0 hB0 C hk1 b1 hz D hg0 hk2 hB2 ho1 hc7
  obtain ⟨g, Hg⟩ : ∃ g, Hid (w1.heap.size = g) := ⟨_, rfl⟩
  rw [Hg.out] at hg1 hsz1 ⊢
  go_loopw [8] (fun _ wr => ∃ (c : Nat → Nat), MRow 49 wr w.heap.size (fun _ => 0) ∧ MRow 49 wr g (cr c) ∧ Hid (KpA ms p q c) ∧ Below w.heap.size w wr) (fun _ wr => leftC g wr)
  case atStart => exact ⟨_, hk3, hg1, HA0, hB3⟩
  case round =>
    clear hk3 hg1 HA0 hB3
    obtain ⟨b, hR, hG, HA, hB⟩ := hrel
    have hsz := hB.size
    have hgl := hG.lt
    have HL : Hid (leftC g wr = sum7 b) := leftC_eq hG
    have hz := MRow.made0 49 wr
    have hBA := balloc wr (.cells #[.int .i64 0, .int .i64 0, .int .i64 0, .int .i64 0, .int .i64 0, .int .i64 0, .int .i64 0] 49)
    have hR1 := (hR.alloc (.cells #[.int .i64 0, .int .i64 0, .int .i64 0, .int .i64 0, .int .i64 0, .int .i64 0, .int .i64 0] 49)).wother (g' := wr.heap.size) (by omega) (mrow (cr b))
    have hG1 := (hG.alloc (.cells #[.int .i64 0, .int .i64 0, .int .i64 0, .int .i64 0, .int .i64 0, .int .i64 0, .int .i64 0] 49)).wother (g' := wr.heap.size) (by omega) (mrow (cr b))
    have hP1 := hz.whole (cr b)
    have hB1 : Below w.heap.size w ((wr.alloc (.cells #[.int .i64 0, .int .i64 0, .int .i64 0, .int .i64 0, .int .i64 0, .int .i64 0, .int .i64 0] 49)).setRow wr.heap.size (mrow (cr b))) := bsetRow (hB.alloc hsz _) hsz _
    have hs1 : wr.heap.size < ((wr.alloc (.cells #[.int .i64 0, .int .i64 0, .int .i64 0, .int .i64 0, .int .i64 0, .int .i64 0, .int .i64 0] 49)).setRow wr.heap.size (mrow (cr b))).heap.size := by simp
    go_wp2_with (first
      | (refine wpList_load_row rfl 49 _ rfl g rfl 49 _ (0, 0) _ hG und69 rfl (inf69 _) ?_)
      | (refine wpList_store_row rfl 49 _ _ rfl wr.heap.size _ rfl rfl 49 _ hz (inf69 _) (by simp) (mrow_one _) ?_))
    obtain ⟨P, HP⟩ : ∃ P, Hid (wr.heap.size = P) := ⟨_, rfl⟩
    rw [HP.out] at hR1 hG1 hP1 hB1 hs1 hgl hsz ⊢
    clear hR hG hz hBA
    go_loopw [20] (fun i ws => ∃ (j : Nat) (c : Nat → Nat), i = .int .i64 j ∧ j ≤ k ∧ MRow 49 ws w.heap.size (fun _ => 0) ∧ MRow 49 ws g (cr c) ∧ MRow 49 ws P (cr b) ∧ P < ws.heap.size ∧ Hid (KpP ms p q b c j 0) ∧ Below w.heap.size w ws) (fun i _ => (k - intOf i).toNat)
    case atStart => exact ⟨0, b, rfl, by omega, hR1, hG1, hP1, hs1, KpP.start HA.out, hB1⟩
    case round =>
      clear hR1 hG1 hP1 hs1 hB1 hB
      obtain ⟨j, c, rfl, hj, hR, hG, hP, hPl, HO, hB⟩ := hrel
      by_cases hlt : j < k
      · have hji : (j : Int) < k := by omega
        have hdec : decide ((j : Int) < k) = true := by simp; omega
        obtain ⟨m, hmj⟩ : ∃ m, ms[j]? = some m := ⟨ms[j]'(by have := Hk.out; omega), by simp⟩
        have hmP := HMS.out m (List.mem_of_getElem? hmj)
        obtain ⟨bb, off, rfl, hbw, hrM⟩ := HV.out.at hmj
        replace hrM := range_below hrM hB hbw
        have hsz2 := hB.size
        have hinM : (Try.prog.info? 45).map (·.size) = some (mvL (m)).length := inf62L _
        have hlM : (mvL (m)).length = 7 := mvL_len _
        have h1M : ∀ u ∈ mvL (m), u.oneCell' = true := mvL_one _
        obtain ⟨M, HM⟩ : ∃ M, Hid (mvL (m) = M) := ⟨_, rfl⟩
        rw [HM.out] at hinM hrM hlM h1M
        have honeM := all_oneCell_toArray h1M
        have hinM' : (Try.prog.info? 45).map (·.size) = some M.toArray.size := by simpa using hinM
        have hthM : (wr.alloc (.cells #[.int .i64 0, .int .i64 0, .int .i64 0, .int .i64 0, .int .i64 0, .int .i64 0, .int .i64 0] 45)).there wr.heap.size 0 M.toArray.size := by
          intro q hq
          rw [Nat.zero_add, cell_of_row _ _ q _ _ _ (heap_alloc_new wr _), frozen_of_row _ _ q _ _ (heap_alloc_new wr _)]
          have hq7 : q < 7 := by simpa [hlM] using hq
          exact ⟨by simp [hq7], rfl⟩
        have hBM : Below wr.heap.size wr ((wr.alloc (.cells #[.int .i64 0, .int .i64 0, .int .i64 0, .int .i64 0, .int .i64 0, .int .i64 0, .int .i64 0] 45)).setCells wr.heap.size 0 M) := (balloc wr (.cells #[.int .i64 0, .int .i64 0, .int .i64 0, .int .i64 0, .int .i64 0, .int .i64 0, .int .i64 0] 45)).trans (bsets (Nat.le_refl _) _ _ _)
        have hrM2 : ((wr.alloc (.cells #[.int .i64 0, .int .i64 0, .int .i64 0, .int .i64 0, .int .i64 0, .int .i64 0, .int .i64 0] 45)).setCells wr.heap.size 0 M).rangeAt wr.heap.size 0 M := World.rangeAt_setCells_same _ _ _ _ (by simpa using hthM)
        have hsM : wr.heap.size < ((wr.alloc (.cells #[.int .i64 0, .int .i64 0, .int .i64 0, .int .i64 0, .int .i64 0, .int .i64 0, .int .i64 0] 45)).setCells wr.heap.size 0 M).heap.size := by rw [sets_size, World.size_alloc]; omega
        obtain ⟨W, HW⟩ : ∃ W, Hid ((wr.alloc (.cells #[.int .i64 0, .int .i64 0, .int .i64 0, .int .i64 0, .int .i64 0, .int .i64 0, .int .i64 0] 45)).setCells wr.heap.size 0 M = W) := ⟨_, rfl⟩
        rw [HW.out] at hBM hrM2 hsM
        clear h1M
        have hB3 := Below.next hB hBM
        have hR3 := hR.below hBM
        have hG3 := hG.below hBM
        have hP3 := hP.below hBM
        have HMJ : Hid (ms[j]? = some m ∧ IsP 7 m) := ⟨hmj, hmP⟩
        clear hmj hmP
        go_wp2_with (first
          | (refine wpList_load_mid rfl 45 _ rfl bb (off + j * 7) rfl M _ hrM und62 rfl hinM ?_)
          | (refine wpList_store_mid rfl 45 _ _ rfl wr.heap.size 0 M.toArray rfl rfl hthM hinM' honeM ?_; rw [show M.toArray.toList = M from rfl, HW.out])
          | (refine wpList_load_row rfl 49 _ rfl P rfl 49 _ (0, 0) _ hP3 und69 rfl (inf69 _) ?_))
        obtain ⟨X, HX⟩ : ∃ X, Hid (wr.heap.size = X) := ⟨_, rfl⟩
        rw [HX.out] at hrM2 hsM hPl ⊢
        go_loopw [25] (fun i ws => ∃ (t : Nat) (c : Nat → Nat), i = .int .i64 t ∧ t ≤ 7 ∧ MRow 49 ws w.heap.size (fun _ => 0) ∧ MRow 49 ws g (cr c) ∧ MRow 49 ws P (cr b) ∧ X < ws.heap.size ∧ Hid (ws.rangeAt X 0 M) ∧ Hid (KpP ms p q b c j t) ∧ Below w.heap.size w ws) (fun i _ => (7 - intOf i).toNat)
        case atStart => exact ⟨0, c, rfl, by omega, hR3, hG3, hP3, hsM, hrM2, HO, hB3⟩
        case round =>
          have hjk : j < k := hlt
          clear hR3 hG3 hB3 hP3 hR hG hP hB hrM hBM hrM2 hsM hthM hlt hji hdec HO HX hsz2
          obtain ⟨t, c, rfl, ht, hR, hG, hP, hXl, HRM, HO, hB⟩ := hrel
          by_cases hlt : t < 7
          · have hti : (t : Int) < 7 := by omega
            have ht0 : (0 : Int) ≤ (t : Int) := by omega
            have hdec : decide ((t : Int) < 7) = true := by simp; omega
            have hix := idx69 (cr b) t hlt
            have hbl := HA.out.cut.lt7 t hlt
            have hm1 := HMJ.out.2.at hlt
            have hm2 := HMJ.out.2.at hbl
            have hc1 := HRM.out t (.int .i64 (m.getD t 0 : Int)) (by rw [← HM.out]; unfold mvL; rw [List.getElem?_map, List.getElem?_range hlt]; rfl)
            have hc2 := HRM.out (b t) (.int .i64 (m.getD (b t) 0 : Int)) (by rw [← HM.out]; unfold mvL; rw [List.getElem?_map, List.getElem?_range hbl]; rfl)
            rw [Nat.zero_add] at hc1 hc2
            have HNX : Hid (KpP ms p q b (joinC c (m.getD t 0) (m.getD (b t) 0)) j (t + 1)) := HO.out.next HA.out HMJ.out.1 hlt hm1 hm2
            obtain ⟨bt, Hbt⟩ : ∃ bt, Hid (b t = bt) := ⟨_, rfl⟩
            rw [Hbt.out] at hbl hm2 hc2 HNX
            rw [show cr b t = (bt : Int) by unfold cr; rw [Hbt.out]] at hix
            obtain ⟨y1, Hy1⟩ : ∃ y, Hid (m.getD t 0 = y) := ⟨_, rfl⟩
            obtain ⟨y2, Hy2⟩ : ∃ y, Hid (m.getD bt 0 = y) := ⟨_, rfl⟩
            rw [Hy1.out] at hc1 hm1 HNX
            rw [Hy2.out] at hc2 hm2 HNX
            have hbi : (bt : Int) < 7 := by omega
            have hb0 : (0 : Int) ≤ (bt : Int) := by omega
            have D := fun W (h : MRow 49 W g (cr c)) => join_any c y1 y2 g W h hm1 hm2 HO.out.a.cut.lt7
            have HRM2 : Hid (∀ W, Only g wr.drew W → W.rangeAt X 0 M) := fun W h => h.range (by exact HRM.out) (by omega)
            have hSS : Hid (∀ W, Only g wr.drew W → W.cell? ⟨X, t, none⟩ = some (.int .i64 (y1 : Int)) ∧ W.cell? ⟨X, bt, none⟩ = some (.int .i64 (y2 : Int))) := fun W h => ⟨(World.cell?_of_block (w := wr.drew) (a := ⟨X, t, none⟩) (h.2.2 X (by omega))).trans hc1, (World.cell?_of_block (w := wr.drew) (a := ⟨X, bt, none⟩) (h.2.2 X (by omega))).trans hc2⟩
            clear HRM
            go_wp2_with fail
            refine wp_region_noPanic ?_
            refine wp_region_held_drew (S := Only g wr.drew) (by kernel_rfl) (Only.refl _ _) (fun hSx => ?_)
            refine wpAnyH_take (i := 0) (v := .int .i64 (t : Int)) rfl (by kernel_rfl) (by kernel_rfl) (by kernel_rfl) (fun _ _ _ h => h) (Or.inl ⟨by rfl, fun w' hSw => by have h1 := (hSS.out w' hSw).1; have h2 := (hSS.out w' hSw).2; go_simp⟩) hSx ?_
            try simp only [Act.put, List.setIfInBounds_toArray]
            refine wpAnyH_take (i := 1) (v := .pointer (some ⟨X, t, none⟩)) rfl (by kernel_rfl) (by kernel_rfl) (by kernel_rfl) (fun _ _ _ h => h) (Or.inl ⟨by rfl, fun w' hSw => by have h1 := (hSS.out w' hSw).1; have h2 := (hSS.out w' hSw).2; go_simp⟩) hSx ?_
            try simp only [Act.put]
            refine wpAnyH_take (i := 2) (v := .int .i64 (y1 : Int)) rfl (by kernel_rfl) (by kernel_rfl) (by kernel_rfl) (fun _ _ _ h => h) (Or.inl ⟨by rfl, fun w' hSw => by have h1 := (hSS.out w' hSw).1; have h2 := (hSS.out w' hSw).2; go_simp⟩) hSx ?_
            try simp only [Act.put]
            refine wpAnyH_take (i := 3) (v := .int .i64 (bt : Int)) rfl (by kernel_rfl) (by kernel_rfl) (by kernel_rfl) (fun _ _ _ h => h) (Or.inl ⟨by rfl, fun w' hSw => by have h1 := (hSS.out w' hSw).1; have h2 := (hSS.out w' hSw).2; go_simp⟩) hSx ?_
            try simp only [Act.put]
            refine wpAnyH_take (i := 4) (v := .pointer (some ⟨X, bt, none⟩)) rfl (by kernel_rfl) (by kernel_rfl) (by kernel_rfl) (fun _ _ _ h => h) (Or.inl ⟨by rfl, fun w' hSw => by have h1 := (hSS.out w' hSw).1; have h2 := (hSS.out w' hSw).2; go_simp⟩) hSx ?_
            try simp only [Act.put]
            refine wpAnyH_take (i := 5) (v := .int .i64 (y2 : Int)) rfl (by kernel_rfl) (by kernel_rfl) (by kernel_rfl) (fun _ _ _ h => h) (Or.inl ⟨by rfl, fun w' hSw => by have h1 := (hSS.out w' hSw).1; have h2 := (hSS.out w' hSw).2; go_simp⟩) hSx ?_
            try simp only [Act.put]
            refine wpAnyH_ready (rs := [6]) (by kernel_rfl) (by simp) ?_
            refine AllReadyH.cons rfl (fun J hJ => ?_) AllReadyH.nil
            go_simp
            refine (D wr.drew hG).mono ?_
            rintro e w3 ⟨rfl, hG4, ho4⟩
            go_wp2_with fail
            refine hJ.out _ _ ho4 (fun _ => ?_)
            clear hJ J
            try simp only [Act.put, List.setIfInBounds_toArray, List.set_cons_zero, List.set_cons_succ]
            refine wpAnyH_done (by kernel_rfl) ?_ _
            refine NoPanic.normal ?_
            go_wp2_with fail
            go_roundw
            case rel => exact ⟨t + 1, _, by go_num, by omega, ho4.mrow (w := wr.drew) hR (by omega), hG4, ho4.mrow (w := wr.drew) hP (by omega), by rw [ho4.2.1]; exact hXl, HRM2.out _ ho4, HNX, hB.drew.trans (ho4.below (by omega))⟩
            case measure => simp [intOf]; omega
          · obtain rfl : t = 7 := by omega
            go_wp2
            go_roundw
            case rel => exact ⟨j + 1, c, by go_num, by omega, hR, hG, hP, by omega, HO.out.turn, hB⟩
            case measure => simp [intOf]; omega
      · obtain rfl : j = k := by omega
        have hkd : decide ((j : Int) < (j : Int)) = false := by simp
        obtain ⟨r, hr, hre⟩ := eq_ever (eq69 (cr c) (cr b) (fun j hj => ⟨by unfold cr; omega, by have := HO.out.a.cut.lt7 j hj; unfold cr; omega⟩) (fun j hj => ⟨by unfold cr; omega, by have := HA.out.cut.lt7 j hj; unfold cr; omega⟩))
        have HRE : Hid (r = true ↔ ∀ x, x < 7 → c x = b x) := by
          rw [hre]; unfold cr; exact ⟨fun h x hx => Int.ofNat.inj (h x hx), fun h x hx => by rw [h x hx]⟩
        clear hre
        cases r with
        | true =>
          go_wp2_with (first
            | (refine wpList_load_row rfl 49 _ rfl g rfl 49 _ (0, 0) _ hG und69 rfl (inf69 _) ?_)
            | (refine wpList_load_row rfl 49 _ rfl P rfl 49 _ (0, 0) _ hP und69 rfl (inf69 _) ?_)
            | (refine wpList_store_row rfl 49 _ _ rfl w.heap.size _ rfl rfl 49 _ hR (inf69 _) (by simp) (mrow_one _) ?_))
          refine post_mrow und69 inf69 6 rfl rfl (hR.whole _) rfl ⟨⟨c, rfl, ?_⟩, bsetRow hB (Nat.le_refl _) _⟩
          have h := HO.out
          rw [← Hk.out] at h
          exact h.done (HRE.out.1 (by trivial))
        | false =>
          go_wp2_with (first
            | (refine wpList_load_row rfl 49 _ rfl g rfl 49 _ (0, 0) _ hG und69 rfl (inf69 _) ?_)
            | (refine wpList_load_row rfl 49 _ rfl P rfl 49 _ (0, 0) _ hP und69 rfl (inf69 _) ?_))
          go_roundw
          case rel => exact ⟨c, hR, hG, HO.out.a, hB⟩
          case measure =>
            rw [HL.out, leftC_eq hG]
            exact sum7_lt HO.out.le (fun h => absurd (HRE.out.2 h) Bool.false_ne_true)

end Go.Proofs.Ytnbkabggmomhlab
