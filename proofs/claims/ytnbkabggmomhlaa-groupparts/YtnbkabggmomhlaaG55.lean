/- The walk of derived. -/
import Derived.Test.YtnbkabggmomhlaaG72
import Derived.Test.YtnbkabggmomhlaaG11
namespace Go.Proofs.Ytnbkabggmomhlaa
open Go.RowKit Go.Maps

/-- On the way through members and makers: the commutators that were chosen make all that came up. -/
structure DerP (n : Nat) (ms L cs : List (List Nat)) (j t : Nat) : Prop where
  cs_in : ∀ c ∈ cs, DerM n ms c
  low : ∀ i a m, i < j → L[i]? = some a → m ∈ ms → Gen n cs (comm n a m)
  now : ∀ a q m, L[j]? = some a → q < t → ms[q]? = some m → Gen n cs (comm n a m)
theorem DerP.start (n : Nat) (ms L : List (List Nat)) : DerP n ms L [] 0 0 := ⟨by simp, fun i a m h => by omega, fun a q m _ h => by omega⟩
theorem DerP.next {n : Nat} {ms L cs cs' : List (List Nat)} {j t : Nat} {a m : List Nat} (h : DerP n ms L cs j t) (ha : L[j]? = some a) (hm : ms[t]? = some m) (hs : ∀ c ∈ cs, c ∈ cs') (hc : ∀ c ∈ cs', DerM n ms c) (hg : Gen n cs' (comm n a m)) : DerP n ms L cs' j (t + 1) := by
  refine ⟨hc, fun i b q hi hb hq => (h.low i b q hi hb hq).mono hs, fun b q m' hb hq hm' => ?_⟩
  by_cases e : q = t
  · subst e
    obtain rfl : m = m' := by rw [hm] at hm'; simpa using hm'
    obtain rfl : a = b := by rw [ha] at hb; simpa using hb
    exact hg
  · exact (h.now b q m' hb (by omega) hm').mono hs
theorem DerP.turn {n : Nat} {ms L cs : List (List Nat)} {j : Nat} (h : DerP n ms L cs j ms.length) : DerP n ms L cs (j + 1) 0 := by
  refine ⟨h.cs_in, fun i a m hi ha hm => ?_, fun a q m _ hq => by omega⟩
  by_cases e : i = j
  · subst e
    obtain ⟨q, hq, rfl⟩ := List.mem_iff_getElem.1 hm
    exact h.now a q _ ha hq (List.getElem?_eq_getElem hq)
  · exact h.low i a m (by omega) ha hm
theorem DerP.done {n : Nat} {ms L cs : List (List Nat)} (h : DerP n ms L cs L.length 0) (hL : ∀ a, a ∈ L ↔ Gen n ms a) : ∀ c, DerM n ms c → Gen n cs c := by
  rintro c ⟨a, b, ha, hb, rfl⟩
  obtain ⟨i, hi, rfl⟩ := List.mem_iff_getElem.1 ((hL a).2 ha)
  exact h.low i _ b hi (List.getElem?_eq_getElem hi) hb
theorem DerP.isP {n : Nat} {ms L cs : List (List Nat)} {j t : Nat} (hm : ∀ m ∈ ms, IsP n m) (h : DerP n ms L cs j t) : ∀ c ∈ cs, IsP n c := fun c hc => by
  obtain ⟨a, b, h1, h2, rfl⟩ := h.cs_in c hc
  exact comm_isP (h1.isP hm) (hm b h2)
theorem own_mvs {w : World} {base : Nat} {v : Value} {xs : List (List Nat)} (h : w.ownsRow base 62 7 v xs.length (xs.flatMap mvL)) : Mvs w v xs := by
  obtain ⟨_, ⟨rfl, h0⟩ | ⟨g, cap, cur, rfl, _, h7, h8, h9, h10, ht⟩⟩ := h
  · refine ⟨none, 0, by rw [h0], fun i x hx => ?_⟩
    rw [List.length_eq_zero_iff.1 h0] at hx; simp at hx
  · refine ⟨_, cap, rfl, fun i x hx => ⟨g, 0, rfl, (Array.getElem?_eq_some_iff.1 h7).1, fun j v hv => ?_⟩⟩
    rw [Nat.zero_add, cell_of_row w g _ _ _ _ h7]
    have h3 := flat_range hx j v hv
    rw [← ht] at h3
    have hj : j < 7 := by have := (List.getElem?_eq_some_iff.1 hv).1; rwa [mvL_len] at this
    have hi : i < xs.length := (List.getElem?_eq_some_iff.1 hx).1
    rw [List.getElem?_take, if_pos (by omega)] at h3
    rw [← Array.getElem?_toList]; exact h3
/-- What is chosen, and what it makes. -/
structure DS (n B0 X : Nat) (wr : World) (v u : Value) (cs : List (List Nat)) : Prop where
  own : wr.ownsRow B0 62 7 v cs.length ((cs.map (ext n)).flatMap mvL)
  apart : ∀ g, v.ownBlock = some g → g ≠ X
  out : ∃ (b G : Nat) (L : List (List Nat)), u = .pointer (some ⟨G, 0, none⟩) ∧ Mem b wr G (L.map (ext n)) ∧ L.Nodup ∧ ∀ a, a ∈ L ↔ Gen n cs a
theorem DS.below {n B0 X : Nat} {w w' : World} {v u : Value} {cs : List (List Nat)} (h : DS n B0 X w v u cs) (hb : Below w.heap.size w w') : DS n B0 X w' v u cs := by
  obtain ⟨h1, h2, b, G, L, h3, h4, h5⟩ := h
  exact ⟨orow_below h1 hb, h2, b, G, L, h3, h4.below hb, h5⟩
theorem DS.move {n B0 X Y : Nat} {w : World} {v u : Value} {cs : List (List Nat)} (h : DS n B0 X w v u cs) (hY : w.heap.size ≤ Y) : DS n B0 Y w v u cs :=
  ⟨h.own, fun g hg e => by have := (h.own.lt g hg).2; omega, h.out⟩
theorem DS.anyX {n B0 X : Nat} {w : World} {v u : Value} {cs : List (List Nat)} (h : DS n B0 X w v u cs) (hB : 0 < B0) : DS n B0 0 w v u cs :=
  ⟨h.own, fun g hg e => by have := (h.own.lt g hg).1; omega, h.out⟩
theorem DS.form {n B0 X : Nat} {w : World} {v u : Value} {cs : List (List Nat)} (h : DS n B0 X w v u cs) : (∃ a c, v = .slice a cs.length c) ∧ ∃ G, u = .pointer (some ⟨G, 0, none⟩) := by
  obtain ⟨h1, h2, b, G, L, h3, _⟩ := h
  obtain ⟨a, c, e, _⟩ := own_mvs (xs := cs.map (ext n)) (by rw [List.length_map]; exact h1)
  exact ⟨⟨a, c, by rw [e, List.length_map]⟩, G, h3⟩

set_option maxRecDepth 100000 in
set_option maxHeartbeats 8000000 in
theorem derived_any (n base G : Nat) (ms L : List (List Nat)) (v : Value) (w : World) (hn : n ≤ 7) (hM : Mem base w G (L.map (ext n))) (nd : L.Nodup) (hg : ∀ a, a ∈ L ↔ Gen n ms a) (hk : ms.length ≤ 4) (hv : Mvs w v (ms.map (ext n))) (hm : ∀ m ∈ ms, IsP n m) :
    Calls Try.prog 55 #[.pointer (some ⟨G, 0, none⟩), v] w fun e w' => (∃ (b G' : Nat) (L' cs : List (List Nat)), e = .returned (.pointer (some ⟨G', 0, none⟩)) ∧ Mem b w' G' (L'.map (ext n)) ∧ L'.Nodup ∧ (∀ a, a ∈ L' ↔ Gen n cs a) ∧ (∀ c ∈ cs, DerM n ms c) ∧ ∀ c, DerM n ms c → Gen n cs c) ∧ Below w.heap.size w w' := by
  obtain ⟨k, Hk⟩ : ∃ k, Hid (ms.length = k) := ⟨_, rfl⟩
  rw [Hk.out] at hk
  obtain ⟨va, vc, rfl, _⟩ := id hv
  have HV : Hid (Mvs w (.slice va (ms.map (ext n)).length vc) (ms.map (ext n))) := hv
  rw [List.length_map, Hk.out] at HV ⊢
  have HMS : Hid (∀ m ∈ ms, IsP n m) := hm
  have hbd := gen_bound hm hn nd hg
  obtain ⟨g, gc, hc0, hgl, hGl, _, _, hrg⟩ := hM.open (by rw [List.length_map]; exact hbd.1)
  obtain ⟨r, Hr⟩ : ∃ r, Hid (L.length = r) := ⟨_, rfl⟩
  rw [List.length_map, Hr.out] at hc0
  rw [Hr.out] at hbd
  have HRG : Hid (∀ i x, (L.map (ext n))[i]? = some x → w.rangeAt g (i * 7) (mvL x)) := hrg
  have HLG : Hid (∀ a, a ∈ L ↔ Gen n ms a) := hg
  have HLP : Hid (∀ a ∈ L, IsP n a) := fun a ha => ((hg a).1 ha).isP hm
  have C0 := made_any n [] (.slice none 0 0) w hn (by simp) ⟨none, 0, rfl, fun i x hx => by simp at hx⟩ (by simp)
  obtain ⟨i62, hi, hz0, hz1, hz2⟩ := info62
  have HI : Hid (Try.prog.info? 62 = some i62 ∧ i62.zero = some (.agg (mrow fun _ => 0)) ∧ i62.size = 7 ∧ i62.bytes = 56) := ⟨hi, hz0, hz1, hz2⟩
  clear hM hrg hv hm nd hg hi hz0 hz1 hz2
  go_enter Try.func55, Try.ntmps55
  go_wp2_with (first
    | (go_at_call 37; refine C0.mono ?_; rintro e w0 ⟨⟨G0, L0, rfl, hM0, nd0, hg0⟩, b0⟩; have hc1 := (b0.cell (p := ⟨G, 0, none⟩) hGl).trans hc0; have hD0 : DS n w.heap.size 0 w0 (.slice none 0 0) (.pointer (some ⟨G0, 0, none⟩)) [] := ⟨World.ownsRow_nil _ _ _ _, (fun g hg => by cases hg), _, G0, L0, rfl, hM0, nd0, hg0⟩; clear hM0 nd0 hg0))
  clear C0
  go_loopw [5, 6, 19] (fun v5 v6 i wr => ∃ (j : Nat) (cs : List (List Nat)), i = .int .i64 j ∧ j ≤ r ∧ cs.length ≤ j * 4 ∧ Hid (DerP n ms L cs j 0) ∧ Hid (DS n w.heap.size 0 wr v5 v6 cs) ∧ Below w.heap.size w wr) (fun _ _ i _ => (r - intOf i).toNat)
  case atStart => exact ⟨0, [], rfl, by omega, by simp, DerP.start n ms L, hD0, b0⟩
  case round =>
    clear hD0 b0 hc1
    obtain ⟨j, cs, rfl, hj, hcl, HP, HD, hB⟩ := hrel
    obtain ⟨⟨ca, cc, hce⟩, Go, hGo⟩ := HD.out.form
    subst hce hGo
    by_cases hlt : j < r
    · have hji : (j : Int) < r := by omega
      have hdec : decide ((j : Int) < r) = true := by simp; omega
      obtain ⟨x, hx⟩ : ∃ x, L[j]? = some x := ⟨L[j]'(by have := Hr.out; omega), by simp⟩
      have HX1 : Hid (L[j]? = some x ∧ IsP n x) := ⟨hx, HLP.out x (List.mem_of_getElem? hx)⟩
      have hrM := range_below (HRG.out j (ext n x) (by rw [List.getElem?_map, hx]; rfl)) hB hgl
      have hinM : (Try.prog.info? 62).map (·.size) = some (mvL (ext n x)).length := inf62L _
      have hlM : (mvL (ext n x)).length = 7 := mvL_len _
      have h1M : ∀ u ∈ mvL (ext n x), u.oneCell' = true := mvL_one _
      obtain ⟨M, HM⟩ : ∃ M, Hid (mvL (ext n x) = M) := ⟨_, rfl⟩
      rw [HM.out] at hinM hrM hlM h1M
      have honeM := all_oneCell_toArray h1M
      have hinM' : (Try.prog.info? 62).map (·.size) = some M.toArray.size := by simpa using hinM
      have hthM : (wr.alloc (.cells #[.int .i64 0, .int .i64 0, .int .i64 0, .int .i64 0, .int .i64 0, .int .i64 0, .int .i64 0] 62)).there wr.heap.size 0 M.toArray.size := by
        intro q hq
        rw [Nat.zero_add, cell_of_row _ _ q _ _ _ (heap_alloc_new wr _), frozen_of_row _ _ q _ _ (heap_alloc_new wr _)]
        have hq7 : q < 7 := by simpa [hlM] using hq
        exact ⟨by simp [hq7], rfl⟩
      have hBM : Below wr.heap.size wr ((wr.alloc (.cells #[.int .i64 0, .int .i64 0, .int .i64 0, .int .i64 0, .int .i64 0, .int .i64 0, .int .i64 0] 62)).setCells wr.heap.size 0 M) := (balloc wr (.cells #[.int .i64 0, .int .i64 0, .int .i64 0, .int .i64 0, .int .i64 0, .int .i64 0, .int .i64 0] 62)).trans (bsets (Nat.le_refl _) _ _ _)
      have hrM2 : ((wr.alloc (.cells #[.int .i64 0, .int .i64 0, .int .i64 0, .int .i64 0, .int .i64 0, .int .i64 0, .int .i64 0] 62)).setCells wr.heap.size 0 M).rangeAt wr.heap.size 0 M := World.rangeAt_setCells_same _ _ _ _ (by simpa using hthM)
      have hsM : wr.heap.size < ((wr.alloc (.cells #[.int .i64 0, .int .i64 0, .int .i64 0, .int .i64 0, .int .i64 0, .int .i64 0, .int .i64 0] 62)).setCells wr.heap.size 0 M).heap.size := by rw [sets_size, World.size_alloc]; omega
      obtain ⟨W, HW⟩ : ∃ W, Hid ((wr.alloc (.cells #[.int .i64 0, .int .i64 0, .int .i64 0, .int .i64 0, .int .i64 0, .int .i64 0, .int .i64 0] 62)).setCells wr.heap.size 0 M = W) := ⟨_, rfl⟩
      rw [HW.out] at hBM hrM2 hsM
      clear h1M
      have hB2 := Below.next hB hBM
      have HD2 : Hid (DS n w.heap.size wr.heap.size W (.slice ca cs.length cc) (.pointer (some ⟨Go, 0, none⟩)) cs) := (HD.out.move (Nat.le_refl _)).below hBM
      clear hx
      go_wp2_with (first
          | (refine wpList_load_mid rfl 62 _ rfl g (j * 7) rfl M _ hrM und62 rfl hinM ?_)
          | (refine wpList_store_mid rfl 62 _ _ rfl wr.heap.size 0 M.toArray rfl rfl hthM hinM' honeM ?_; rw [show M.toArray.toList = M from rfl, HW.out]))
      obtain ⟨X, HX⟩ : ∃ X, Hid (wr.heap.size = X) := ⟨_, rfl⟩
      rw [HX.out] at hrM2 hsM HD2 ⊢
      go_loopw [5, 6, 25] (fun v5 v6 i ws => ∃ (t : Nat) (cs : List (List Nat)), i = .int .i64 t ∧ t ≤ k ∧ cs.length ≤ j * 4 + t ∧ Hid (DerP n ms L cs j t) ∧ Hid (DS n w.heap.size X ws v5 v6 cs) ∧ Hid (ws.rangeAt X 0 M) ∧ X < ws.heap.size ∧ Below w.heap.size w ws) (fun _ _ i _ => (k - intOf i).toNat)
      case atStart => exact ⟨0, cs, rfl, by omega, by omega, HP, HD2, hrM2, hsM, hB2⟩
      case round =>
        have hjr : j < r := hlt
        clear hB2 hB hrM hBM hrM2 hsM hthM hlt hji hdec HX HP HD HD2 hcl
        obtain ⟨t, cs, rfl, ht, hcl, HP, HD, HRM, hXl, hB⟩ := hrel
        obtain ⟨⟨ca, cc, hce⟩, Go, hGo⟩ := HD.out.form
        subst hce hGo
        by_cases hlt : t < k
        · have hti : (t : Int) < k := by omega
          have hdec : decide ((t : Int) < k) = true := by simp; omega
          obtain ⟨m, hmj⟩ : ∃ m, ms[t]? = some m := ⟨ms[t]'(by have := Hk.out; omega), by simp⟩
          have HMP : Hid (ms[t]? = some m ∧ IsP n m) := ⟨hmj, HMS.out m (List.mem_of_getElem? hmj)⟩
          obtain ⟨bb, off, rfl, hbw, hrN⟩ := HV.out.at (i := t) (x := ext n m) (by rw [List.getElem?_map, hmj]; rfl)
          replace hrN := range_below hrN hB hbw
          clear hmj
          have hinN : (Try.prog.info? 62).map (·.size) = some (mvL (ext n m)).length := inf62L _
          have hlN : (mvL (ext n m)).length = 7 := mvL_len _
          have h1N : ∀ u ∈ mvL (ext n m), u.oneCell' = true := mvL_one _
          obtain ⟨N, HN⟩ : ∃ M, Hid (mvL (ext n m) = M) := ⟨_, rfl⟩
          rw [HN.out] at hinN hrN hlN h1N
          have honeN := all_oneCell_toArray h1N
          have hinN' : (Try.prog.info? 62).map (·.size) = some N.toArray.size := by simpa using hinN
          have hthN : (wr.alloc (.cells #[.int .i64 0, .int .i64 0, .int .i64 0, .int .i64 0, .int .i64 0, .int .i64 0, .int .i64 0] 62)).there wr.heap.size 0 N.toArray.size := by
            intro q hq
            rw [Nat.zero_add, cell_of_row _ _ q _ _ _ (heap_alloc_new wr _), frozen_of_row _ _ q _ _ (heap_alloc_new wr _)]
            have hq7 : q < 7 := by simpa [hlN] using hq
            exact ⟨by simp [hq7], rfl⟩
          have hBN : Below wr.heap.size wr ((wr.alloc (.cells #[.int .i64 0, .int .i64 0, .int .i64 0, .int .i64 0, .int .i64 0, .int .i64 0, .int .i64 0] 62)).setCells wr.heap.size 0 N) := (balloc wr (.cells #[.int .i64 0, .int .i64 0, .int .i64 0, .int .i64 0, .int .i64 0, .int .i64 0, .int .i64 0] 62)).trans (bsets (Nat.le_refl _) _ _ _)
          have hrN2 : ((wr.alloc (.cells #[.int .i64 0, .int .i64 0, .int .i64 0, .int .i64 0, .int .i64 0, .int .i64 0, .int .i64 0] 62)).setCells wr.heap.size 0 N).rangeAt wr.heap.size 0 N := World.rangeAt_setCells_same _ _ _ _ (by simpa using hthN)
          have hsN : wr.heap.size < ((wr.alloc (.cells #[.int .i64 0, .int .i64 0, .int .i64 0, .int .i64 0, .int .i64 0, .int .i64 0, .int .i64 0] 62)).setCells wr.heap.size 0 N).heap.size := by rw [sets_size, World.size_alloc]; omega
          obtain ⟨V, HV⟩ : ∃ W, Hid ((wr.alloc (.cells #[.int .i64 0, .int .i64 0, .int .i64 0, .int .i64 0, .int .i64 0, .int .i64 0, .int .i64 0] 62)).setCells wr.heap.size 0 N = W) := ⟨_, rfl⟩
          rw [HV.out] at hBN hrN2 hsN
          clear h1N
          have hB3 := Below.next hB hBN
          have HD3 : Hid (DS n w.heap.size X V (.slice ca cs.length cc) (.pointer (some ⟨Go, 0, none⟩)) cs) := HD.out.below hBN
          have hrM3 := range_below HRM.out hBN hXl
          have hsz := hB.size
          obtain ⟨Z, HZ⟩ : ∃ Z, Hid (wr.heap.size = Z) := ⟨_, rfl⟩
          have C1 := fun W => commutator_any (ext n x) (ext n m) W (ext_isP HX1.out.2 hn) (ext_isP HMP.out.2 hn)
          rw [← ext_comm HX1.out.2 HMP.out.2 hn] at C1
          have HCP : Hid (IsP n (comm n x m)) := comm_isP HX1.out.2 HMP.out.2
          obtain ⟨c, Hc⟩ : ∃ c, Hid (comm n x m = c) := ⟨_, rfl⟩
          rw [Hc.out] at C1 HCP
          have hinC := inf62L (ext n c)
          have hlC := mvL_len (ext n c)
          have h1C := mvL_one (ext n c)
          simp only [mv_eq] at C1
          rw [HM.out, HN.out] at C1
          have C2 := fun b G (L' : List (List Nat)) W (hM : Mem b W G (L'.map (ext n))) (hg : ∀ a, a ∈ L' ↔ Gen n cs a) => has_any b G _ (ext n c) W hM (fun y hy => by
            obtain ⟨z, hz, rfl⟩ := List.mem_map.1 hy
            exact (ext_isP (((hg z).1 hz).isP (HP.out.isP HMS.out)) hn).small) (ext_isP HCP.out hn).small
          have HIN : Hid (∀ (L' : List (List Nat)), (∀ a, a ∈ L' ↔ Gen n cs a) → (ext n c ∈ L'.map (ext n) ↔ Gen n cs c)) := fun L' hg => by
            rw [← hg c, List.mem_map]
            exact ⟨fun ⟨y, hy, e⟩ => ext_inj (((hg y).1 hy).isP (HP.out.isP HMS.out)).len HCP.out.len hn e ▸ hy, fun hy => ⟨c, hy, rfl⟩⟩
          simp only [mv_eq] at C2
          obtain ⟨K, HK⟩ : ∃ K, Hid (mvL (ext n c) = K) := ⟨_, rfl⟩
          rw [HK.out] at C1 C2 hinC hlC h1C
          have honeC := all_oneCell_toArray h1C
          have hinC' : (Try.prog.info? 62).map (·.size) = some K.toArray.size := by simpa using hinC
          have hthC : ∀ w : World, (w.alloc (.cells #[.int .i64 0, .int .i64 0, .int .i64 0, .int .i64 0, .int .i64 0, .int .i64 0, .int .i64 0] 62)).there w.heap.size 0 K.toArray.size := fun w => by
            intro q hq
            rw [Nat.zero_add, cell_of_row _ _ q _ _ _ (heap_alloc_new w _), frozen_of_row _ _ q _ _ (heap_alloc_new w _)]
            have hq7 : q < 7 := by simpa [hlC] using hq
            exact ⟨by simp [hq7], rfl⟩
          obtain ⟨l, Hl⟩ : ∃ l, Hid (cs.length = l) := ⟨_, rfl⟩
          rw [Hl.out] at HD3 hcl ⊢
          clear hB HD HRM
          refine Classical.byCases (p := Gen n cs c) (fun hgc => ?_) (fun hgc => ?_)
          · have HGC : Hid (Gen n cs c) := hgc
            have C2' := fun b G (L' : List (List Nat)) W (hM : Mem b W G (L'.map (ext n))) (hg : ∀ a, a ∈ L' ↔ Gen n cs a) => (C2 b G L' W hM hg).mono (R' := fun e w' => e = .returned (.bool true) ∧ Below W.heap.size W w') (fun e w' ⟨h1, h2⟩ => ⟨by rw [h1, decide_eq_true ((HIN.out L' hg).2 HGC.out)], h2⟩)
            clear hgc C2
            obtain ⟨bo, Go', Lo, hGo, hMo, _, hgo⟩ := HD3.out.out
            obtain rfl : Go = Go' := by simpa using hGo
            go_wp2_with (first
              | (refine wpList_load_mid rfl 62 _ rfl bb (off + t * 7) rfl N _ hrN und62 rfl hinN ?_)
              | (refine wpList_store_mid rfl 62 _ _ rfl wr.heap.size 0 N.toArray rfl rfl hthN hinN' honeN ?_; rw [show N.toArray.toList = N from rfl, HV.out])
              | (refine wpList_load_mid rfl 62 _ rfl X 0 rfl M _ hrM3 und62 rfl hinM ?_)
              | (refine wpList_load_mid rfl 62 _ rfl wr.heap.size 0 rfl N _ hrN2 und62 rfl hinN ?_)
              | (go_at_call 72; refine (C1 _).mono ?_; rintro e w1 ⟨rfl, b1⟩; have hMo1 := hMo.below b1; have HD4 := HD3.out.below b1; have hrM4 := range_below hrM3 b1 (by omega); have hB4 := Below.next hB3 b1; have hth1 := hthC w1)
              | (refine wpList_store_mid rfl 62 _ _ rfl w1.heap.size 0 K.toArray rfl rfl hth1 hinC' honeC ?_; rw [show K.toArray.toList = K from rfl]; have hbK : Below w1.heap.size w1 ((w1.alloc (.cells #[.int .i64 0, .int .i64 0, .int .i64 0, .int .i64 0, .int .i64 0, .int .i64 0, .int .i64 0] 62)).setCells w1.heap.size 0 K) := (balloc w1 _).trans (bsets (Nat.le_refl _) _ _ _); have hrK : ((w1.alloc (.cells #[.int .i64 0, .int .i64 0, .int .i64 0, .int .i64 0, .int .i64 0, .int .i64 0, .int .i64 0] 62)).setCells w1.heap.size 0 K).rangeAt w1.heap.size 0 K := World.rangeAt_setCells_same _ _ _ _ (by simpa using hth1); have hMo2 := hMo1.below hbK)
              | (refine wpList_load_mid rfl 62 _ rfl w1.heap.size 0 rfl K _ hrK und62 rfl hinC ?_)
              | (go_at_call 42; refine (C2' _ _ _ _ hMo2 hgo).mono ?_; rintro e w3 ⟨rfl, b3⟩; have hb3 := Below.next hbK b3))
            go_roundw
            case rel =>
              exact ⟨t + 1, cs, by go_num, by omega, by have := Hl.out; omega, HP.out.next HX1.out.1 HMP.out.1 (fun c h => h) HP.out.cs_in (by rw [Hc.out]; exact HGC.out), HD4.below hb3, range_below hrM4 hb3 (by have := b1.size; omega), by have := b1.size; have := hb3.size; omega, Below.next hB4 hb3⟩
            case measure => simp [intOf]; omega
          · have HGC : Hid (¬ Gen n cs c) := hgc
            have C2' := fun b G (L' : List (List Nat)) W (hM : Mem b W G (L'.map (ext n))) (hg : ∀ a, a ∈ L' ↔ Gen n cs a) => (C2 b G L' W hM hg).mono (R' := fun e w' => e = .returned (.bool false) ∧ Below W.heap.size W w') (fun e w' ⟨h1, h2⟩ => ⟨by rw [h1, decide_eq_false (fun h => HGC.out ((HIN.out L' hg).1 h))], h2⟩)
            have HCS : Hid (∀ q ∈ cs ++ [c], DerM n ms q) := fun q hq => by
              rcases List.mem_append.1 hq with h | h
              · exact HP.out.cs_in q h
              · rw [List.mem_singleton.1 h, ← Hc.out]
                exact ⟨x, m, (HLG.out x).1 (List.mem_of_getElem? HX1.out.1), List.mem_of_getElem? HMP.out.1, rfl⟩
            have HCI : Hid (∀ q ∈ cs ++ [c], IsP n q) := fun q hq => by
              obtain ⟨a, b, h1, h2, rfl⟩ := HCS.out q hq
              exact comm_isP (h1.isP HMS.out) (HMS.out b h2)
            clear hgc C2
            obtain ⟨bo, Go', Lo, hGo, hMo, _, hgo⟩ := HD3.out.out
            obtain rfl : Go = Go' := by simpa using hGo
            go_wp2_with (first
              | (refine wpList_load_mid rfl 62 _ rfl bb (off + t * 7) rfl N _ hrN und62 rfl hinN ?_)
              | (refine wpList_store_mid rfl 62 _ _ rfl wr.heap.size 0 N.toArray rfl rfl hthN hinN' honeN ?_; rw [show N.toArray.toList = N from rfl, HV.out])
              | (refine wpList_load_mid rfl 62 _ rfl X 0 rfl M _ hrM3 und62 rfl hinM ?_)
              | (refine wpList_load_mid rfl 62 _ rfl wr.heap.size 0 rfl N _ hrN2 und62 rfl hinN ?_)
              | (go_at_call 72; refine (C1 _).mono ?_; rintro e w1 ⟨rfl, b1⟩; have hMo1 := hMo.below b1; have HD4 := HD3.out.below b1; have hrM4 := range_below hrM3 b1 (by omega); have hB4 := Below.next hB3 b1; have hth1 := hthC w1)
              | (refine wpList_store_mid rfl 62 _ _ rfl w1.heap.size 0 K.toArray rfl rfl hth1 hinC' honeC ?_; rw [show K.toArray.toList = K from rfl]; have hbK : Below w1.heap.size w1 ((w1.alloc (.cells #[.int .i64 0, .int .i64 0, .int .i64 0, .int .i64 0, .int .i64 0, .int .i64 0, .int .i64 0] 62)).setCells w1.heap.size 0 K) := (balloc w1 _).trans (bsets (Nat.le_refl _) _ _ _); have hrK : ((w1.alloc (.cells #[.int .i64 0, .int .i64 0, .int .i64 0, .int .i64 0, .int .i64 0, .int .i64 0, .int .i64 0] 62)).setCells w1.heap.size 0 K).rangeAt w1.heap.size 0 K := World.rangeAt_setCells_same _ _ _ _ (by simpa using hth1); have hMo2 := hMo1.below hbK; have hsK : w1.heap.size < ((w1.alloc (.cells #[.int .i64 0, .int .i64 0, .int .i64 0, .int .i64 0, .int .i64 0, .int .i64 0, .int .i64 0] 62)).setCells w1.heap.size 0 K).heap.size := (by rw [sets_size, World.size_alloc]; omega))
              | (refine wpList_load_mid rfl 62 _ rfl w1.heap.size 0 rfl K _ hrK und62 rfl hinC ?_)
              | (go_at_call 42; refine (C2' _ _ _ _ hMo2 hgo).mono ?_; rintro e w3 ⟨rfl, b3⟩; have hb3 := Below.next hbK b3; have hrK3 := range_below hrK b3 hsK; have HD5 := HD4.below hb3; have hrM5 := range_below hrM4 hb3 (by have := b1.size; omega); have hB5 := Below.next hB4 hb3; have hs3 : X < w3.heap.size := (by have := b1.size; have := hb3.size; omega); have hw3 := hB5.size)
              | (refine wpList_load_mid rfl 62 _ rfl w1.heap.size 0 rfl K _ hrK3 und62 rfl hinC ?_)
              | (at_builtin; refine wpList_append_lies _ rfl _ _ 58 rfl w.heap.size 62 i62 (.agg (mrow fun _ => 0)) 7 56 und58 HI.out.1 HI.out.2.1 HI.out.2.2.1 HI.out.2.2.2 (by simp [Value.cells]) (by omega) _ l _ rfl (World.ownsRow.alloc (by have h := HD5.own; rw [Hl.out] at h; exact h) _) ⟨w3.heap.size, 0, none⟩ 1 1 K rfl ?a1 ?a2 ?a3 (by omega) ?a4 ?a5 ?a6 (w3.heap.size + 1) (by simp) ?_))
            case a1 => rw [hlC]
            case a2 =>
              intro q u hu
              rw [Addr.add_mid, fill7 hlC, Nat.zero_add, cell_of_row _ _ q _ _ _ (heap_alloc_new w3 _)]
              simpa using hu
            case a3 => exact h1C
            case a4 => unfold maxLen; omega
            case a5 => omega
            case a6 => rw [World.size_alloc]; omega
            · intro g5 cap5 w5 hown5 hgrow5 hat5 hlt5
              have hgl5 : ∀ q, (Value.slice ca l cc).ownBlock = some q → w.heap.size ≤ q ∧ q ≠ X := fun q hq => ⟨(HD5.own.lt q hq).1, HD5.apart q hq⟩
              have hB6 : Below w.heap.size w w5 := (hB5.alloc hw3 _).grown hgrow5 (by rw [World.size_alloc]; omega) (fun q hq => (hgl5 q hq).1)
              have hrM6 : w5.rangeAt X 0 M := range_block hrM5 ((hgrow5.block X (by rw [World.size_alloc]; omega) (fun e => (hgl5 X e.symm).2 rfl)).trans ((balloc w3 _).block X hs3))
              have e5 : (cs.map (ext n)).flatMap mvL ++ K = ((cs ++ [c]).map (ext n)).flatMap mvL := by
                rw [List.map_append, List.flatMap_append, ← HK.out]; simp
              rw [e5] at hown5
              have hl5 : (cs ++ [c]).length = l + 1 := by rw [List.length_append, Hl.out]; rfl
              have hown6 : w5.ownsRow w.heap.size 62 7 (.slice (some ⟨g5, 0, none⟩) (l + 1) cap5) (cs ++ [c]).length (((cs ++ [c]).map (ext n)).flatMap mvL) := by rw [hl5]; exact hown5
              have hs5 : X < w5.heap.size := by have := hgrow5.size; rw [World.size_alloc] at this; omega
              have hap5 : g5 ≠ X := by
                rcases hat5 with h | h
                · exact (hgl5 g5 h).2
                · omega
              have E := made_any n (cs ++ [c]) (.slice (some ⟨g5, 0, none⟩) (l + 1) cap5) w5 hn (by rw [hl5]; omega) (own_mvs (by rw [List.length_map]; exact hown6)) HCI.out
              clear hown5 hgrow5 hat5 C2' C1 HIN e5
              go_wp2_with (first
                | (go_at_call 37; refine E.mono ?_; rintro e w6 ⟨⟨G6, L6, rfl, hM6, nd6, hg6⟩, b6⟩))
              go_roundw
              case rel =>
                refine ⟨t + 1, cs ++ [c], by go_num, by omega, by rw [hl5]; omega, HP.out.next HX1.out.1 HMP.out.1 (fun c h => List.mem_append.2 (.inl h)) HCS.out (by rw [Hc.out]; exact Gen.maker HCI.out (by simp)), ⟨orow_below hown6 b6, ?_, _, G6, L6, rfl, hM6, nd6, hg6⟩, range_below hrM6 b6 (by omega), by have := b6.size; omega, Below.next hB6 b6⟩
                intro q hq
                obtain rfl : g5 = q := by simpa [Value.ownBlock] using hq
                exact hap5
              case measure => simp [intOf]; omega
        · obtain rfl : t = k := by omega
          have hkd : decide ((t : Int) < (t : Int)) = false := by simp
          go_wp2
          go_roundw
          case rel =>
            refine ⟨j + 1, cs, by go_num, by omega, by omega, ?_, HD.out.anyX (by omega), hB⟩
            have h := HP.out
            rw [← Hk.out] at h
            exact h.turn
          case measure => simp [intOf]; omega
    · obtain rfl : j = r := by omega
      have hkd : decide ((j : Int) < (j : Int)) = false := by simp
      go_wp2
      go_ret
      obtain ⟨b, G', L', h1, h2, h3, h4⟩ := HD.out.out
      obtain rfl : Go = G' := by simpa using h1
      have h := HP.out
      rw [← Hr.out] at h
      exact ⟨⟨b, Go, L', cs, rfl, h2, h3, h4, HP.out.cs_in, h.done HLG.out⟩, hB⟩

end Go.Proofs.Ytnbkabggmomhlaa
