/- Proved here: the law GroupPoints gives true for every input. Its conditions: none. -/
import Derived.Test.YtnbkabggmomhlaaG15
import Derived.Test.YtnbkabggmomhlaaG49
import Derived.Test.YtnbkabggmomhlaaGPrim
import Derived.Test.YtnbkabggmomhlaaG19
import Derived.Test.YtnbkabggmomhlaaPList
import Derived.Test.YtnbkabggmomhlaaGDeep
import Derived.Test.YtnbkabggmomhlaaP14
import Derived.Test.YtnbkabggmomhlaaG47
import Derived.Test.YtnbkabggmomhlaaGEq
import Derived.Test.YtnbkabggmomhlaaGL3
import Derived.Test.YtnbkabggmomhlaaRGB
/- The walk of the document's FixedOf. -/
namespace Go.Proofs.Ytnbkabggmomhlaa
open Go.RowKit

theorem SlSl.row {w : World} {a : Option Addr} {m c n : Nat} {L : List (List Nat)} {i : Nat} {x : List Nat} (h : SlSl w (.slice a m c) L) (hx : L[i]? = some x) (hl : x.length = n) (hn : 0 < n) :
    ∃ lb lo xb xo xc, a = some ⟨lb, lo, none⟩ ∧ lb < w.heap.size ∧ w.cell? ⟨lb, lo + i, none⟩ = some (.slice (some ⟨xb, xo, none⟩) n xc) ∧ xb < w.heap.size ∧ ∀ j, j < n → w.cell? ⟨xb, xo + j, none⟩ = some (.int .i64 (x.getD j 0 : Int)) := by
  obtain ⟨lb, lo, u, e, hb, hc, hs⟩ := h.at hx
  obtain ⟨ua, uc, rfl, hu⟩ := hs
  rw [List.length_map, hl] at hu hc
  obtain ⟨xb, xo, rfl, hc0⟩ := hu 0 hn
  refine ⟨lb, lo, xb, xo, uc, e, hb, hc, by simpa using block_lt_of_cell hc0, fun j hj => ?_⟩
  obtain ⟨b', o', e', hcj⟩ := hu j hj
  cases e'
  rw [hcj]
  simp [List.getD_eq_getElem?_getD, hl, hj]

set_option maxRecDepth 100000 in
set_option maxHeartbeats 4000000 in
theorem FixedOf_any (n : Nat) (L : List (List Nat)) (u : Value) (w : World) (hn : n ≤ 7) (h1 : 1 ≤ n) (hu : SlSl w u L) (hL : ∀ m ∈ L, IsP n m) (hr : L.length ≤ 5040) :
    Calls Try.prog 27 #[.int .i64 (n : Int), u] w fun e w' => (∃ v, e = .returned v ∧ Sl w' v ((List.range (n + 1)).map fun k => (fixC n L k : Int))) ∧ Below w.heap.size w w' := by
  obtain ⟨r, Hr⟩ : ∃ r, Hid (L.length = r) := ⟨_, rfl⟩
  obtain ⟨la, lc, rfl, _⟩ := id hu
  have HU : Hid (SlSl w (.slice la L.length lc) L) := hu
  rw [Hr.out] at HU hr ⊢
  have HLS : Hid (∀ m ∈ L, IsP n m) := hL
  clear hu hL
  obtain ⟨i3, hi, hz0, hz1, hz2⟩ := info3
  have hmk : ∀ w : World, (Instr.makeSlice 23 (.int .i64 ((n : Int) + 1)) (.int .i64 ((n : Int) + 1))).run Try.prog w = .ok (.slice (some ⟨w.heap.size, 0, none⟩) (n + 1) (n + 1)) (w.alloc (.cells (madeCells #[.int .i64 0] (n + 1)) 3)) := fun w => by
    have h := run_make (P := Try.prog) w 23 3 i3 (.int .i64 0) und22 hi hz0 .i64 .i64 ((n : Int) + 1) ((n : Int) + 1) (by omega) (by omega) (by rw [hz2]; omega) (by omega)
    rw [hz1] at h
    have e : ((n : Int) + 1).toNat = n + 1 := by omega
    rw [e] at h
    simpa [Value.cells] using h
  have hO : Own (w.alloc (.cells (madeCells #[.int .i64 0] (n + 1)) 3)) w.heap.size (n + 1) (fun k => (fixC n (L.take 0) k : Int)) := by
    refine ⟨_, heap_alloc_new w _, fun j hj => ?_⟩
    have hs : j < (madeCells #[Value.int .i64 0] (n + 1)).size := by rw [size_madeCells]; exact hj
    rw [Array.getElem?_eq_getElem hs]
    simp [madeCells, fixC, Nat.mod_one]
  have hB0 := balloc w (.cells (madeCells #[.int .i64 0] (n + 1)) 3)
  clear hi hz0 hz1 hz2
  have hn0 : (0 : Int) ≤ (n : Int) := by omega
  have hn7 : (n : Int) ≤ 7 := by omega
  go_enter Try.func27, Try.ntmps27
  go_wp2
  go_loopw [6] (fun i wr => ∃ j : Nat, i = .int .i64 j ∧ j ≤ r ∧ Own wr w.heap.size (n + 1) (fun k => (fixC n (L.take j) k : Int)) ∧ w.heap.size < wr.heap.size ∧ Below w.heap.size w wr) (fun i _ => (r - intOf i).toNat)
  case atStart => exact ⟨0, rfl, by omega, hO, by simp, hB0⟩
  case round =>
    clear hO hB0
    obtain ⟨j, rfl, hj, hO, hs, hB⟩ := hrel
    by_cases hlt : j < r
    · have hji : (j : Int) < r := by omega
      have hj0 : (0 : Int) ≤ (j : Int) := by omega
      have hdec : decide ((j : Int) < r) = true := by simp; omega
      obtain ⟨x, hx⟩ : ∃ x, L[j]? = some x := ⟨L[j]'(by have := Hr.out; omega), by simp⟩
      have HT : Hid (∀ k, fixC n (L.take (j + 1)) k = fixC n (L.take j) k + if fixN n x = k then 1 else 0) := fun k => by
        rw [List.take_add_one, hx, Option.toList_some, fixC_snoc]
      obtain ⟨lb, lo, xb, xo, xc, hla, hlbw, hcx0, hxbw, hcxs⟩ := HU.out.row hx (HLS.out x (List.mem_of_getElem? hx)).len (by omega)
      subst hla
      have hcx := (hB.cell (p := ⟨lb, lo + j, none⟩) hlbw).trans hcx0
      have HCX : Hid (∀ i, i < n → wr.cell? ⟨xb, xo + i, none⟩ = some (.int .i64 (x.getD i 0 : Int))) := fun i hi => (hB.cell (p := ⟨xb, xo + i, none⟩) hxbw).trans (hcxs i hi)
      clear hcx0 hcxs hlbw hxbw hx
      go_wp2
      go_loopw [7, 8] (fun o i wr' => ∃ k : Nat, o = .int .i64 (fixN k x : Int) ∧ i = .int .i64 k ∧ k ≤ n ∧ wr' = wr) (fun _ i _ => (n - intOf i).toNat)
      case atStart => exact ⟨0, by simp [fixN], rfl, by omega, rfl⟩
      case round =>
        obtain ⟨k, rfl, rfl, hk, rfl⟩ := hrel
        have hfl := fixN_le k x
        have hfs := fixN_succ k x
        by_cases hkl : k < n
        · have hki : (k : Int) < n := by omega
          have hk0 : (0 : Int) ≤ (k : Int) := by omega
          have hkd : decide ((k : Int) < n) = true := by simp; omega
          have hck := HCX.out k hkl
          obtain ⟨q, Hq⟩ : ∃ q, Hid (x.getD k 0 = q) := ⟨_, rfl⟩
          obtain ⟨f, Hf⟩ : ∃ f, Hid (fixN k x = f) := ⟨_, rfl⟩
          rw [Hf.out] at hfl hfs ⊢
          rw [Hq.out] at hck hfs
          have HFS : Hid (fixN (k + 1) x = f + if q = k then 1 else 0) := hfs
          clear hfs
          by_cases hqk : q = k
          · have hqd : ((q : Int) == (k : Int)) = true := by simp; omega
            go_wp2
            go_roundw
            case rel => exact ⟨k + 1, by rw [HFS.out, if_pos hqk]; go_num, by go_num, by omega, trivial⟩
            case measure => simp [intOf]; omega
          · have hqd : ((q : Int) == (k : Int)) = false := by simp; omega
            go_wp2
            go_roundw
            case rel => exact ⟨k + 1, by rw [HFS.out, if_neg hqk]; rfl, by go_num, by omega, trivial⟩
            case measure => simp [intOf]; omega
        · obtain rfl : k = n := by omega
          have hkd : decide ((k : Int) < (k : Int)) = false := by simp
          obtain ⟨y, Hy⟩ : ∃ y, Hid (fixN k x = y) := ⟨_, rfl⟩
          rw [Hy.out] at HT hfl ⊢
          have hcb : fixC k (L.take j) y ≤ j := by
            unfold fixC
            have := List.countP_le_length (p := fun x => decide (fixN k x = y)) (l := L.take j)
            rw [List.length_take] at this; omega
          obtain ⟨q, Hq⟩ : ∃ q, Hid (fixC k (L.take j) y = q) := ⟨_, rfl⟩
          rw [Hq.out] at hcb
          have hyi : (y : Int) < (k : Int) + 1 := by omega
          have hy0 : (0 : Int) ≤ (y : Int) := by omega
          have hcy := hO.cell y (by omega)
          rw [Hq.out] at hcy
          have hfy := hO.frozen y
          clear hfs
          go_wp2
          go_roundw
          case rel =>
            refine ⟨j + 1, by go_num, by omega, (hO.set y ((q : Int) + 1)).congr (fun k' hk' => ?_), by simp; omega, hB.setCell (p := ⟨w.heap.size, y, none⟩) (by simp) _⟩
            unfold upd
            rw [HT.out k']
            by_cases e : k' = y
            · rw [if_pos e, if_pos e.symm, e, Hq.out]; simp
            · rw [if_neg e, if_neg (fun h => e h.symm)]; simp
          case measure => simp [intOf]; omega
    · obtain rfl : j = r := by omega
      have hkd : decide ((j : Int) < (j : Int)) = false := by simp
      go_wp2
      go_ret
      have h := hO
      rw [← Hr.out, List.take_length] at h
      exact ⟨⟨_, rfl, h.sl _⟩, hB⟩

end Go.Proofs.Ytnbkabggmomhlaa

/- The walk of the document's kept. -/
namespace Go.Proofs.Ytnbkabggmomhlaa
open Go.RowKit

/-- The pairs that were looked at are kept. -/
def KU (f : Nat → Nat) (m : List Nat) (x y : Nat) : Prop := ∀ s t, (s < x ∨ s = x ∧ t < y) → t < s → f s = f t → f (m.getD s 0) = f (m.getD t 0)
theorem KU.start (f : Nat → Nat) (m : List Nat) : KU f m 0 0 := fun s t h => by omega
theorem KU.turn {f : Nat → Nat} {m : List Nat} {x : Nat} (h : KU f m x x) : KU f m (x + 1) 0 := fun s t h1 h2 => h s t (by omega) h2
theorem KU.next {f : Nat → Nat} {m : List Nat} {x y : Nat} (h : KU f m x y) (k : f x = f y → f (m.getD x 0) = f (m.getD y 0)) : KU f m x (y + 1) := fun s t h1 h2 e => by
  by_cases q : s = x ∧ t = y
  · obtain ⟨rfl, rfl⟩ := q; exact k e
  · exact h s t (by omega) h2 e
theorem KU.all {f : Nat → Nat} {m : List Nat} {n : Nat} (h : KU f m n 0) : ∀ x y, x < n → y < n → f x = f y → f (m.getD x 0) = f (m.getD y 0) := fun x y hx hy e => by
  rcases Nat.lt_trichotomy x y with k | k | k
  · exact (h y x (by omega) k e.symm).symm
  · rw [k]
  · exact h x y (by omega) k e

set_option maxRecDepth 100000 in
set_option maxHeartbeats 8000000 in
theorem keptOf_any (n cb cc : Nat) (f : Nat → Nat) (ms : List (List Nat)) (v : Value) (w : World) (hn : n ≤ 7) (h1 : 1 ≤ n) (hk : ms.length ≤ 4) (hO : Own w cb n (fun j => (f j : Int))) (hv : SlSl w v ms) (hm : ∀ m ∈ ms, IsP n m) :
    Calls Try.prog 71 #[.slice (some ⟨cb, 0, none⟩) n cc, v] w fun e w' => (∃ b : Bool, e = .returned (.bool b) ∧ (b = true ↔ keptB ms n f)) ∧ Below w.heap.size w w' := by
  obtain ⟨k, Hk⟩ : ∃ k, Hid (ms.length = k) := ⟨_, rfl⟩
  obtain ⟨a, cap, rfl, _⟩ := id hv
  have HV : Hid (SlSl w (.slice a ms.length cap) ms) := hv
  rw [Hk.out] at HV hk ⊢
  have HMS : Hid (∀ m ∈ ms, IsP n m) := hm
  have hcl := hO.lt
  have HC : Hid (∀ i, i < n → w.cell? ⟨cb, i, none⟩ = some (.int .i64 (f i : Int))) := fun i hi => hO.cell i hi
  clear hv hm hO
  go_enter Try.func71, Try.ntmps71
  go_wp2
  go_loopw [5] (fun jv wr => ∃ j : Nat, jv = .int .i64 j ∧ j ≤ k ∧ Hid (∀ m ∈ ms.take j, ∀ x y, x < n → y < n → f x = f y → f (m.getD x 0) = f (m.getD y 0)) ∧ Below w.heap.size w wr) (fun jv _ => (k - intOf jv).toNat)
  case atStart => exact ⟨0, rfl, by omega, (fun m h => by simp at h : ∀ m ∈ ms.take 0, ∀ x y, x < n → y < n → f x = f y → f (m.getD x 0) = f (m.getD y 0)), Below.refl _ _⟩
  case round =>
    obtain ⟨j, rfl, hj, HA, hB⟩ := hrel
    by_cases hlt : j < k
    · have hji : (j : Int) < k := by omega
      have hj0 : (0 : Int) ≤ (j : Int) := by omega
      have hdec : decide ((j : Int) < k) = true := by simp; omega
      obtain ⟨m, hmj⟩ : ∃ m, ms[j]? = some m := ⟨ms[j]'(by have := Hk.out; omega), by simp⟩
      have hmP := HMS.out m (List.mem_of_getElem? hmj)
      have HMM : Hid (m ∈ ms) := List.mem_of_getElem? hmj
      have HMA : Hid (∀ x, x < n → m.getD x 0 < n) := fun x hx => hmP.at hx
      have HTN : Hid ((∀ x y, x < n → y < n → f x = f y → f (m.getD x 0) = f (m.getD y 0)) → ∀ m ∈ ms.take (j + 1), ∀ x y, x < n → y < n → f x = f y → f (m.getD x 0) = f (m.getD y 0)) := fun h m' hm' => by
        rw [List.take_add_one, hmj, Option.toList_some] at hm'
        rcases List.mem_append.1 hm' with q | q
        · exact HA.out m' q
        · rw [List.mem_singleton.1 q]; exact h
      obtain ⟨lb, lo, xb, xo, xc, hla, hlbw, hcx0, hxbw, hcxs⟩ := HV.out.row hmj hmP.len (by omega)
      subst hla
      have hcx := (hB.cell (p := ⟨lb, lo + j, none⟩) hlbw).trans hcx0
      have HXC : Hid (xb < w.heap.size ∧ ∀ i, i < n → w.cell? ⟨xb, xo + i, none⟩ = some (.int .i64 (m.getD i 0 : Int))) := ⟨hxbw, hcxs⟩
      clear hmj hmP hcx0 hcxs hxbw hlbw
      go_wp2
      go_loopw [7] (fun xv wr => ∃ x : Nat, xv = .int .i64 x ∧ x ≤ n ∧ Hid (KU f m x 0) ∧ Below w.heap.size w wr) (fun xv _ => (n - intOf xv).toNat)
      case atStart => exact ⟨0, rfl, by omega, KU.start f m, hB⟩
      case round =>
        clear hB hcx
        obtain ⟨x, rfl, hx, HK, hB⟩ := hrel
        by_cases hxl : x < n
        · have hxi : (x : Int) < n := by omega
          have hx0 : (0 : Int) ≤ (x : Int) := by omega
          have hxd : decide ((x : Int) < n) = true := by simp; omega
          go_wp2
          go_loopw [8] (fun yv wr => ∃ y : Nat, yv = .int .i64 y ∧ y ≤ x ∧ Hid (KU f m x y) ∧ Below w.heap.size w wr) (fun yv _ => (x - intOf yv).toNat)
          case atStart => exact ⟨0, rfl, by omega, HK, hB⟩
          case round =>
            clear hB HK
            obtain ⟨y, rfl, hy, HK, hB⟩ := hrel
            by_cases hyl : y < x
            · have hyi : (y : Int) < x := by omega
              have hyn : (y : Int) < n := by omega
              have hy0 : (0 : Int) ≤ (y : Int) := by omega
              have hyd : decide ((y : Int) < x) = true := by simp; omega
              have c1 := (hB.cell (p := ⟨cb, x, none⟩) hcl).trans (HC.out x hxl)
              have c2 := (hB.cell (p := ⟨cb, y, none⟩) hcl).trans (HC.out y (by omega))
              have c3 := (hB.cell (p := ⟨xb, xo + x, none⟩) HXC.out.1).trans (HXC.out.2 x hxl)
              have c4 := (hB.cell (p := ⟨xb, xo + y, none⟩) HXC.out.1).trans (HXC.out.2 y (by omega))
              have l1 := HMA.out x hxl
              have l2 := HMA.out y (by omega)
              have c5 := (hB.cell (p := ⟨cb, m.getD x 0, none⟩) hcl).trans (HC.out _ l1)
              have c6 := (hB.cell (p := ⟨cb, m.getD y 0, none⟩) hcl).trans (HC.out _ l2)
              have HNX : Hid ((f x = f y → f (m.getD x 0) = f (m.getD y 0)) → KU f m x (y + 1)) := HK.out.next
              have HNO : Hid (f x = f y → f (m.getD x 0) ≠ f (m.getD y 0) → ¬ keptB ms n f) := fun h1 h2 h3 => h2 (h3 m HMM.out x y hxl (by omega) h1)
              obtain ⟨s, Hs⟩ : ∃ s, Hid (m.getD x 0 = s) := ⟨_, rfl⟩
              obtain ⟨t, Ht⟩ : ∃ t, Hid (m.getD y 0 = t) := ⟨_, rfl⟩
              rw [Hs.out] at c3 c5 l1 HNX HNO
              rw [Ht.out] at c4 c6 l2 HNX HNO
              obtain ⟨p1, Hp1⟩ : ∃ s, Hid (f x = s) := ⟨_, rfl⟩
              obtain ⟨p2, Hp2⟩ : ∃ s, Hid (f y = s) := ⟨_, rfl⟩
              obtain ⟨p3, Hp3⟩ : ∃ p, Hid (f s = p) := ⟨_, rfl⟩
              obtain ⟨p4, Hp4⟩ : ∃ p, Hid (f t = p) := ⟨_, rfl⟩
              rw [Hp1.out] at c1 HNX HNO
              rw [Hp2.out] at c2 HNX HNO
              rw [Hp3.out] at c5 HNX HNO
              rw [Hp4.out] at c6 HNX HNO
              have s1 : (s : Int) < n := by omega
              have s0 : (0 : Int) ≤ (s : Int) := by omega
              have t1 : (t : Int) < n := by omega
              have t0 : (0 : Int) ≤ (t : Int) := by omega
              clear HC HXC HMA HV
              by_cases e1 : p1 = p2
              · have hd1 : ((p1 : Int) == (p2 : Int)) = true := by simp; omega
                by_cases e2 : p3 = p4
                · have hd2 : ((p3 : Int) != (p4 : Int)) = false := by simp; omega
                  go_wp2
                  go_quiet (fail)
                  go_wp2
                  go_roundw
                  case rel => exact ⟨y + 1, by go_num, by omega, HNX.out (fun _ => e2), bdrewN hB _⟩
                  case measure => simp [intOf]; omega
                · have hd2 : ((p3 : Int) != (p4 : Int)) = true := by simp; omega
                  go_wp2
                  go_quiet (fail)
                  go_wp2
                  go_ret
                  exact ⟨⟨false, rfl, fun h => absurd h Bool.false_ne_true, fun h => absurd h (HNO.out e1 e2)⟩, bdrewN hB _⟩
              · have hd1 : ((p1 : Int) == (p2 : Int)) = false := by simp; omega
                go_wp2
                go_quiet (fail)
                go_wp2
                go_roundw
                case rel => exact ⟨y + 1, by go_num, by omega, HNX.out (fun h => absurd h e1), bdrewN hB _⟩
                case measure => simp [intOf]; omega
            · obtain rfl : y = x := by omega
              have hkd : decide ((y : Int) < (y : Int)) = false := by simp
              go_wp2
              go_roundw
              case rel => exact ⟨y + 1, by go_num, by omega, HK.out.turn, hB⟩
              case measure => simp [intOf]; omega
        · obtain rfl : x = n := by omega
          have hkd : decide ((x : Int) < (x : Int)) = false := by simp
          go_wp2
          go_roundw
          case rel => exact ⟨j + 1, by go_num, by omega, HTN.out HK.out.all, hB⟩
          case measure => simp [intOf]; omega
    · obtain rfl : j = k := by omega
      have hkd : decide ((j : Int) < (j : Int)) = false := by simp
      have h := HA.out
      rw [← Hk.out, List.take_length] at h
      have HF : Hid (keptB ms n f) := h
      clear h
      go_wp2
      go_ret
      exact ⟨⟨true, rfl, fun _ => HF.out, fun _ => rfl⟩, hB⟩

end Go.Proofs.Ytnbkabggmomhlaa

/- The walk of the document's OrbitsOf. -/
namespace Go.Proofs.Ytnbkabggmomhlaa
open Go.RowKit

theorem repO_le {n y : Nat} {G : List Nat → Prop} (hG : Grp n G) (hy : y < n) : repO n G y ≤ y := by
  have hm : y ∈ orbL n G y := mem_orbL.2 ⟨hy, Orb.refl hG hy⟩
  have hp : (orbL n G y).Pairwise (· < ·) := List.pairwise_lt_range.filter _
  unfold repO
  cases h : orbL n G y with
  | nil => simp
  | cons a t =>
    rw [h] at hm hp
    rw [List.headD_cons]
    rcases List.mem_cons.1 hm with e | e
    · omega
    · exact Nat.le_of_lt ((List.pairwise_cons.1 hp).1 y e)
theorem repO_self {n i : Nat} {G : List Nat → Prop} (hG : Grp n G) (hi : i < n) : repO n G i = i ↔ ¬ ∃ y, y < i ∧ Orb G y i := by
  constructor
  · rintro h ⟨y, hy, ho⟩
    have e := (repO_eq hG (by omega) hi).2 ho
    have := repO_le hG (show y < n by omega)
    omega
  · intro h
    have h1 := mem_orbL.1 (repO_mem hG hi)
    have h2 := repO_le hG hi
    rcases Nat.lt_or_ge (repO n G i) i with k | k
    · exact absurd ⟨_, k, h1.2.symm hG hi⟩ h
    · omega
open Classical in
/-- The points of the lists that are found. -/
noncomputable def dnB (G : List Nat → Prop) (i : Nat) (x : Nat) : Bool := decide (∃ y, y < i ∧ Orb G y x)
open Classical in
noncomputable def outO (n : Nat) (G : List Nat → Prop) (i : Nat) : List (List Nat) := ((List.range i).filter fun x => decide (repO n G x = x)).map (orbL n G)
theorem outO_all (n : Nat) (G : List Nat → Prop) : outO n G n = (reps n G).map (orbL n G) := rfl
theorem outO_yes {n i : Nat} {G : List Nat → Prop} (h : repO n G i = i) : outO n G (i + 1) = outO n G i ++ [orbL n G i] := by simp [outO, List.range_succ, h]
theorem outO_no {n i : Nat} {G : List Nat → Prop} (h : repO n G i ≠ i) : outO n G (i + 1) = outO n G i := by simp [outO, List.range_succ, h]
theorem outO_len (n : Nat) (G : List Nat → Prop) (i : Nat) : (outO n G i).length ≤ i := by
  unfold outO
  rw [List.length_map]
  exact Nat.le_trans (List.length_filter_le _ _) (by simp)
theorem dnB_no {n i : Nat} {G : List Nat → Prop} (hG : Grp n G) (hi : i < n) (h : dnB G i i = true) : ∀ x, x < n → dnB G (i + 1) x = dnB G i x := by
  intro x _
  have h' := h
  unfold dnB at h'
  simp only [decide_eq_true_eq] at h'
  obtain ⟨y, hy, ho⟩ := h'
  unfold dnB
  rw [decide_eq_decide]
  constructor
  · rintro ⟨z, hz, h1⟩
    by_cases e : z = i
    · subst e
      exact ⟨y, hy, ho.trans hG (by omega) h1⟩
    · exact ⟨z, by omega, h1⟩
  · rintro ⟨z, hz, h1⟩
    exact ⟨z, by omega, h1⟩
/-- Where the members that were taken carry the point. -/
def thB (L : List (List Nat)) (i j : Nat) (x : Nat) : Bool := (L.take j).any fun a => a.getD i 0 == x
theorem thB_next {L : List (List Nat)} {i j : Nat} {a : List Nat} (h : L[j]? = some a) (x : Nat) : upU (thB L i j) (a.getD i 0) x = thB L i (j + 1) x := by
  unfold upU thB
  rw [List.take_add_one, h, Option.toList_some, List.any_append]
  by_cases e : x = a.getD i 0
  · rw [if_pos e, e]; simp
  · rw [if_neg e]
    have : (a.getD i 0 == x) = false := by simp; exact fun h => e h.symm
    simp only [List.any_cons, List.any_nil, this, Bool.or_false]
theorem thB_orb {L : List (List Nat)} {G : List Nat → Prop} (hL : ∀ a, a ∈ L ↔ G a) (i x : Nat) : thB L i L.length x = true ↔ Orb G i x := by
  unfold thB Orb
  rw [List.take_length, List.any_eq_true]
  constructor
  · rintro ⟨a, h1, h2⟩; exact ⟨a, (hL a).1 h1, by simpa using h2⟩
  · rintro ⟨a, h1, h2⟩; exact ⟨a, (hL a).2 h1, by simpa using h2⟩
/-- The done points while a list is written. -/
def dnU (d t : Nat → Bool) (k : Nat) (x : Nat) : Bool := d x || (decide (x < k) && t x)
theorem dnU_yes {d t : Nat → Bool} {k : Nat} (h : t k = true) (x : Nat) : upU (dnU d t k) k x = dnU d t (k + 1) x := by
  unfold upU dnU
  by_cases e : x = k
  · rw [if_pos e, e, h]; simp
  · rw [if_neg e]
    have : decide (x < k + 1) = decide (x < k) := by rw [decide_eq_decide]; omega
    rw [this]
theorem dnU_no {d t : Nat → Bool} {k : Nat} (h : t k = false) (x : Nat) : dnU d t k x = dnU d t (k + 1) x := by
  unfold dnU
  by_cases e : x = k
  · rw [e, h]; simp
  · have : decide (x < k + 1) = decide (x < k) := by rw [decide_eq_decide]; omega
    rw [this]
theorem dnU_end {n i : Nat} {L : List (List Nat)} {G : List Nat → Prop} (hL : ∀ a, a ∈ L ↔ G a) (x : Nat) (hx : x < n) : dnU (dnB G i) (thB L i L.length) n x = dnB G (i + 1) x := by
  unfold dnU
  rw [decide_eq_true hx, Bool.true_and]
  apply Bool.eq_iff_iff.2
  rw [Bool.or_eq_true, thB_orb hL]
  unfold dnB
  simp only [decide_eq_true_eq]
  constructor
  · rintro (⟨y, hy, h⟩ | h)
    · exact ⟨y, by omega, h⟩
    · exact ⟨i, by omega, h⟩
  · rintro ⟨y, hy, h⟩
    by_cases e : y = i
    · subst e; exact .inr h
    · exact .inl ⟨y, by omega, h⟩
/-- The marked points below k. -/
def mkd (t : Nat → Bool) (k : Nat) : List Nat := (List.range k).filter t
theorem mkd_yes {t : Nat → Bool} {k : Nat} (h : t k = true) : mkd t (k + 1) = mkd t k ++ [k] := by simp [mkd, List.range_succ, h]
theorem mkd_no {t : Nat → Bool} {k : Nat} (h : t k = false) : mkd t (k + 1) = mkd t k := by simp [mkd, List.range_succ, h]
theorem mkd_len (t : Nat → Bool) (k : Nat) : (mkd t k).length ≤ k := Nat.le_trans (List.length_filter_le _ _) (by simp)
theorem mkd_orb {n i : Nat} {L : List (List Nat)} {G : List Nat → Prop} (hL : ∀ a, a ∈ L ↔ G a) : mkd (thB L i L.length) n = orbL n G i := by
  unfold mkd orbL
  refine List.filter_congr fun x _ => ?_
  apply Bool.eq_iff_iff.2
  rw [thB_orb hL]
  simp only [decide_eq_true_eq]

set_option maxRecDepth 100000 in
set_option maxHeartbeats 8000000 in
theorem OrbitsOf_any (n : Nat) (L : List (List Nat)) (G : List Nat → Prop) (u : Value) (w : World) (hn : n ≤ 7) (h1 : 1 ≤ n) (hu : SlSl w u L) (hG : Grp n G) (hLG : ∀ a, a ∈ L ↔ G a) (hr : L.length ≤ 5040) :
    Calls Try.prog 23 #[.int .i64 (n : Int), u] w fun e w' => (∃ v, e = .returned v ∧ CycR w' w.heap.size v ((reps n G).map (orbL n G))) ∧ Below w.heap.size w w' := by
  obtain ⟨r, Hr⟩ : ∃ r, Hid (L.length = r) := ⟨_, rfl⟩
  obtain ⟨la, lc, rfl, _⟩ := id hu
  have HU : Hid (SlSl w (.slice la L.length lc) L) := hu
  rw [Hr.out] at HU hr ⊢
  have HLS : Hid (∀ m ∈ L, IsP n m) := fun m hm => hG.isP m ((hLG m).1 hm)
  have HGG : Hid (Grp n G) := hG
  have HLG : Hid (∀ a, a ∈ L ↔ G a) := hLG
  clear hu hG hLG
  obtain ⟨i23, hi, hz0, hz1, hz2⟩ := info23
  have HI2 : Hid (Try.prog.info? 23 = some i23 ∧ i23.zero = some (.slice none 0 0) ∧ i23.size = 1 ∧ i23.bytes = 24) := ⟨hi, hz0, hz1, hz2⟩
  clear hi hz0 hz1 hz2
  obtain ⟨i3, hi, hz0, hz1, hz2⟩ := info3
  have HI3 : Hid (Try.prog.info? 3 = some i3 ∧ i3.zero = some (.int .i64 0) ∧ i3.size = 1 ∧ i3.bytes = 8) := ⟨hi, hz0, hz1, hz2⟩
  clear hi hz0 hz1 hz2
  have hmk := run_make4 n (by omega)
  have hO0 := (ownB_new w n).congr (f' := dnB G 0) (fun j _ => by unfold dnB; simp)
  have hB0 := balloc w (.cells (madeCells #[.bool false] n) 4)
  go_enter Try.func23, Try.ntmps23
  go_wp2
  go_loopw [5, 7] (fun o iv wr => ∃ i : Nat, iv = .int .i64 i ∧ i ≤ n ∧ CycR wr (w.heap.size + 1) o (outO n G i) ∧ OwnB wr w.heap.size n (dnB G i) ∧ w.heap.size + 1 ≤ wr.heap.size ∧ Below w.heap.size w wr) (fun _ iv _ => (n - intOf iv).toNat)
  case atStart => exact ⟨0, rfl, by omega, CycR.nil _ _, hO0, by simp, hB0⟩
  case round =>
    clear hO0 hB0
    obtain ⟨i, rfl, hin, hcy, hO, hs, hB⟩ := hrel
    obtain ⟨w0, hw0⟩ : ∃ w0 : World, w0 = wr := ⟨_, rfl⟩
    subst hw0
    by_cases hlt : i < n
    · have hii : (i : Int) < n := by omega
      have hi0 : (0 : Int) ≤ (i : Int) := by omega
      have hdec : decide ((i : Int) < n) = true := by simp; omega
      have hci := hO.cell i hlt
      have hfi := hO.frozen i
      have HRS : Hid (repO n G i = i ↔ dnB G i i = false) := by
        show _ ↔ _
        rw [repO_self HGG.out hlt]
        unfold dnB
        rw [decide_eq_false_iff_not]
      cases hd : dnB G i i with
      | true =>
        rw [hd] at hci
        have HNO : Hid (outO n G (i + 1) = outO n G i) := outO_no fun e => by have := HRS.out.1 e; rw [hd] at this; cases this
        have hO2 := hO.congr (fun x hx => (dnB_no HGG.out hlt hd x hx).symm)
        go_wp2
        go_roundw
        case rel => exact ⟨i + 1, by go_num, by omega, by rw [HNO.out]; exact hcy, hO2, hs, hB⟩
        case measure => simp [intOf]; omega
      | false =>
        rw [hd] at hci
        have HYES : Hid (outO n G (i + 1) = outO n G i ++ [orbL n G i]) := outO_yes (HRS.out.2 hd)
        have HIO : Hid (orbL n G i ≠ []) := fun e => by
          have : i ∈ orbL n G i := mem_orbL.2 ⟨hlt, Orb.refl HGG.out hlt⟩
          rw [e] at this; cases this
        have hol := outO_len n G i
        obtain ⟨O, HO⟩ : ∃ O, Hid (outO n G i = O) := ⟨_, rfl⟩
        rw [HO.out] at hcy HYES hol
        obtain ⟨ol, Hol⟩ : ∃ l, Hid (O.length = l) := ⟨_, rfl⟩
        obtain ⟨oa, oc, hoe⟩ := hcy.form
        rw [Hol.out] at hoe hol
        subst hoe
        have hT0 := (ownB_new w0 n).congr (f' := thB L i 0) (fun j _ => by unfold thB; simp)
        have hBT := balloc w0 (.cells (madeCells #[.bool false] n) 4)
        obtain ⟨tb, Htb⟩ : ∃ tb, Hid (w0.heap.size = tb) := ⟨_, rfl⟩
        rw [Htb.out] at hT0 hBT hs
        have hmk' := hmk w0
        rw [Htb.out] at hmk'
        clear hmk
        have hst : (w0.alloc (.cells (madeCells #[.bool false] n) 4)).heap.size = tb + 1 := by rw [World.size_alloc, Htb.out]
        obtain ⟨d, Hd⟩ : ∃ d, Hid (dnB G i = d) := ⟨_, rfl⟩
        have HDE : Hid (∀ x, x < n → dnU (dnB G i) (thB L i L.length) n x = dnB G (i + 1) x) := fun x hx => dnU_end HLG.out x hx
        have HMO : Hid (mkd (thB L i L.length) n = orbL n G i) := mkd_orb HLG.out
        rw [Hd.out] at hO HDE
        rw [Hr.out] at HDE HMO
        clear hd HRS
        go_wp2
        go_loopw [9] (fun jv wr2 => ∃ j : Nat, jv = .int .i64 j ∧ j ≤ r ∧ OwnB wr2 tb n (thB L i j) ∧ wr2.heap.size = tb + 1 ∧ Below tb w0 wr2) (fun jv _ => (r - intOf jv).toNat)
        case atStart => exact ⟨0, rfl, by omega, hT0, hst, hBT⟩
        case round =>
          clear hT0 hst hBT
          obtain ⟨j, rfl, hj, hT, hst, hBT⟩ := hrel
          by_cases hjl : j < r
          · have hji : (j : Int) < r := by omega
            have hj0 : (0 : Int) ≤ (j : Int) := by omega
            have hjd : decide ((j : Int) < r) = true := by simp; omega
            obtain ⟨x, hx⟩ : ∃ x, L[j]? = some x := ⟨L[j]'(by have := Hr.out; omega), by simp⟩
            have hxP := HLS.out x (List.mem_of_getElem? hx)
            obtain ⟨lb, lo, xb, xo, xc, hla, hlbw, hcx0, hxbw, hcxs⟩ := HU.out.row hx hxP.len (by omega)
            subst hla
            have hBB : Below w.heap.size w wr := hB.trans (hBT.mono (by omega))
            have hcx := (hBB.cell (p := ⟨lb, lo + j, none⟩) hlbw).trans hcx0
            have hci2 := (hBB.cell (p := ⟨xb, xo + i, none⟩) hxbw).trans (hcxs i hlt)
            have hxq := hxP.at hlt
            have HTN : Hid (∀ y, y < n → upU (thB L i j) (x.getD i 0) y = thB L i (j + 1) y) := fun y _ => thB_next hx y
            obtain ⟨q, Hq⟩ : ∃ q, Hid (x.getD i 0 = q) := ⟨_, rfl⟩
            rw [Hq.out] at hci2 HTN hxq
            have hqi : (q : Int) < n := by omega
            have hq0 : (0 : Int) ≤ (q : Int) := by omega
            have hcq := hT.cell q (by omega)
            have hfq := hT.frozen q
            have hT2 := (hT.set q).congr HTN.out
            have hBT2 : Below tb w0 (wr.setCell ⟨tb, q, none⟩ (.bool true)) := hBT.setCell (p := ⟨tb, q, none⟩) (Nat.le_refl _) _
            clear hx hxP hcx0 hcxs
            go_wp2
            go_roundw
            case rel => exact ⟨j + 1, by go_num, by omega, hT2, by simpa using hst, hBT2⟩
            case measure => simp [intOf]; omega
          · obtain rfl : j = r := by omega
            have hkd : decide ((j : Int) < (j : Int)) = false := by simp
            obtain ⟨w2, hw2⟩ : ∃ w2 : World, w2 = wr := ⟨_, rfl⟩
            subst hw2
            obtain ⟨th, Hth⟩ : ∃ th, Hid (thB L i j = th) := ⟨_, rfl⟩
            rw [Hth.out] at hT HDE HMO
            have hBB : Below w.heap.size w w2 := hB.trans (hBT.mono (by omega))
            have hcy2 : CycR w2 (w.heap.size + 1) (.slice oa ol oc) O := hcy.below (by rw [Htb.out]; exact hBT)
            have hO2 : OwnB w2 w.heap.size n d := hO.block (hBT.block _ (by omega))
            have hO2' := hO2.congr (f' := dnU d th 0) (fun x _ => by unfold dnU; simp)
            clear hO hcy hB hBT hci hfi hO2
            go_wp2
            go_loopw [10, 11] (fun ov xv wr => ∃ (x : Nat), xv = .int .i64 x ∧ x ≤ n ∧ wr.ownsRow (tb + 1) 3 1 ov (mkd th x).length (vl (mkd th x)) ∧ OwnB wr w.heap.size n (dnU d th x) ∧ Kp w.heap.size w2 wr ∧ Below w.heap.size w wr) (fun _ xv _ => (n - intOf xv).toNat)
            case atStart => exact ⟨0, rfl, by omega, World.ownsRow_nil _ _ _ _, hO2', Kp.refl _ _, hBB⟩
            case round =>
              clear hO2' hBB
              obtain ⟨x, rfl, hx, hown, hO, hK, hB⟩ := hrel
              have hml := mkd_len th x
              have hs3 : tb + 1 ≤ wr.heap.size := by have := hK.1; omega
              by_cases hxl : x < n
              · have hxi : (x : Int) < n := by omega
                have hx0 : (0 : Int) ≤ (x : Int) := by omega
                have hxd : decide ((x : Int) < n) = true := by simp; omega
                have hT3 : OwnB wr tb n th := hT.block (hK.2 tb (by omega) (by omega))
                have hcx := hT3.cell x hxl
                have hfx := hT3.frozen x
                have hcdx := hO.cell x hxl
                have hfdx := hO.frozen x
                cases htx : th x with
                | true =>
                  rw [htx] at hcx
                  have HMY : Hid (mkd th (x + 1) = mkd th x ++ [x]) := mkd_yes htx
                  have HDY : Hid (∀ y, y < n → upU (dnU d th x) x y = dnU d th (x + 1) y) := fun y _ => dnU_yes htx y
                  obtain ⟨M, HM⟩ : ∃ M, Hid (mkd th x = M) := ⟨_, rfl⟩
                  rw [HM.out] at hown HMY hml
                  obtain ⟨ml, Hml⟩ : ∃ l, Hid (M.length = l) := ⟨_, rfl⟩
                  rw [Hml.out] at hown hml
                  obtain ⟨ya, yc, hye⟩ : ∃ a c, u10 = .slice a ml c := by obtain ⟨_, ⟨e1, e2⟩ | ⟨g, cap, cur, e1, _⟩⟩ := hown; (exact ⟨none, 0, by rw [e1, e2]⟩); (exact ⟨_, cap, e1⟩)
                  subst hye
                  go_wp2_with (first
                    | (at_builtin; refine wpList_append_own _ rfl _ _ 23 rfl (tb + 1) 3 i3 (.int .i64 0) 1 8 und22 HI3.out.1 HI3.out.2.1 HI3.out.2.2.1 HI3.out.2.2.2 rfl (by decide) _ _ _ rfl (hown.alloc _) ⟨wr.heap.size, 0, none⟩ 1 1 [.int .i64 (x : Int)] rfl rfl ?c1 ?c2 ?c3 ?c4 ?c5 ?_))
                  case c1 =>
                    intro j u hj
                    match j, hj with
                    | 0, hj => simp at hj; subst hj; exact cell_new _ _ _ _ rfl
                  case c2 => intro u hu; simp at hu; subst hu; rfl
                  case c3 => unfold maxLen; omega
                  case c4 => omega
                  case c5 => simp; omega
                  intro v' w4 hown4 hgrow _
                  have hU4 : Below (tb + 1) wr w4 := ((Below.refl _ _).alloc hs3 _).grown hgrow (by simp; omega) (fun k hk => (hown.lt k hk).1)
                  have hO4 := hO.below hU4 (by omega)
                  have hcd4 := hO4.cell x hxl
                  have hfd4 := hO4.frozen x
                  have hB4 := hB.trans (hU4.mono (by omega))
                  have hK4 : Kp w.heap.size w2 w4 := hK.under (by omega) hU4
                  have hO5 := (hO4.set x).congr HDY.out
                  have hK5 := hK4.trans (Kp.set w.heap.size w4 x (.bool true))
                  have hB5 : Below w.heap.size w (w4.setCell ⟨w.heap.size, x, none⟩ (.bool true)) := hB4.setCell (p := ⟨w.heap.size, x, none⟩) (Nat.le_refl _) _
                  have hown5 := own_other hown4 ⟨w.heap.size, x, none⟩ (.bool true) (by show w.heap.size < tb + 1; omega)
                  go_wp2
                  go_roundw
                  case rel => exact ⟨x + 1, by go_num, by omega, by rw [HMY.out, vl_append, List.length_append, Hml.out]; exact hown5, hO5, hK5, hB5⟩
                  case measure => simp [intOf]; omega
                | false =>
                  rw [htx] at hcx
                  have HMN : Hid (mkd th (x + 1) = mkd th x) := mkd_no htx
                  have hO5 := hO.congr (fun y _ => dnU_no htx y)
                  go_wp2
                  go_roundw
                  case rel => exact ⟨x + 1, by go_num, by omega, by rw [HMN.out]; exact hown, hO5, hK, hB⟩
                  case measure => simp [intOf]; omega
              · obtain rfl : x = n := by omega
                have hkd2 : decide ((x : Int) < (x : Int)) = false := by simp
                rw [HMO.out] at hown hml
                have hO5 := hO.congr HDE.out
                have hlp : 0 < (orbL x G i).length := List.length_pos_iff.2 HIO.out
                have hrow := (row_of hown rfl hlp).base (b' := w.heap.size + 1) (by omega)
                have hcy3 : CycR wr (w.heap.size + 1) (.slice oa ol oc) O := hcy2.kp hK (by omega)
                obtain ⟨y, Hy⟩ : ∃ y, Hid (orbL x G i = y) := ⟨_, rfl⟩
                rw [Hy.out] at hrow HYES hml
                obtain ⟨m, Hm⟩ : ∃ m, Hid (y.length = m) := ⟨_, rfl⟩
                obtain ⟨ya, yc, hye⟩ : ∃ a c, u10 = .slice a m c := by obtain ⟨g, c, e, _⟩ := hrow; exact ⟨_, c, by rw [e, Hm.out]⟩
                subst hye
                obtain ⟨vals, hv1, hv2⟩ := hcy3
                rw [Hol.out] at hv1
                have HV2 : Hid (∀ (i : Nat) (u : Value) (l : List Nat), vals[i]? = some u → O[i]? = some l → RowIs wr (w.heap.size + 1) u l) := hv2
                have HR4 : Hid (RowIs wr (w.heap.size + 1) (.slice ya m yc) y) := hrow
                clear hv2 hrow hown hcy2 hO HDE HIO hlp
                go_wp2_with (first
                  | (at_builtin; refine wpList_append_lies _ rfl _ _ 22 rfl (w.heap.size + 1) 23 i23 (.slice none 0 0) 1 24 und22' HI2.out.1 HI2.out.2.1 HI2.out.2.2.1 HI2.out.2.2.2 rfl (by decide) _ ol _ rfl (hv1.alloc _) ⟨wr.heap.size, 0, none⟩ 1 1 [.slice ya m yc] rfl rfl ?c1 ?c2 (by omega) ?c3 ?c4 ?c5 (wr.heap.size + 1) (by simp) ?_))
                case c1 => exact cell_one_new wr (.slice ya m yc) 23
                case c2 => intro u hu; simp at hu; subst hu; rfl
                case c3 => unfold maxLen; omega
                case c4 => omega
                case c5 => simp; omega
                intro g6 cap6 w6 hown6 hgrow6 _ hlt6
                have hb6 : Below w.heap.size w w6 := (hB.alloc hB.size _).grown hgrow6 (by have := hB.size; simp; omega) (fun g hg => by have := (hv1.lt g hg).1; omega)
                have hal : ∀ {u l}, RowIs wr (w.heap.size + 1) u l → RowIs (wr.alloc (.cells #[.slice ya m yc] 23)) (w.heap.size + 1) u l := fun h => h.below (balloc _ _)
                have hcy6 : CycR w6 (w.heap.size + 1) (.slice (some ⟨g6, 0, none⟩) (ol + 1) cap6) (O ++ [y]) := CycR.more (wa := wr.alloc (.cells #[.slice ya m yc] 23)) (vals := vals) (by rw [Hol.out]; exact hv1.alloc _) (fun i u l h1 h2 => hal (HV2.out i u l h1 h2)) (hal HR4.out) (by rw [Hol.out]; exact hown6) hgrow6
                have hO6 : OwnB w6 w.heap.size x (dnB G (i + 1)) := hO5.block ((hgrow6.block _ (by simp; omega) (fun e => by have := (hv1.lt _ e.symm).1; omega)).trans ((balloc _ _).block _ (by omega)))
                have hs6 : w.heap.size + 1 ≤ w6.heap.size := by have := hgrow6.size; simp at this; omega
                clear hown6 hgrow6 hv1 HV2 HR4
                go_wp2
                go_roundw
                case rel => exact ⟨i + 1, by go_num, by omega, by rw [HYES.out]; exact hcy6, hO6, hs6, hb6⟩
                case measure => simp [intOf]; omega
    · obtain rfl : i = n := by omega
      have hkd : decide ((i : Int) < (i : Int)) = false := by simp
      go_wp2
      go_ret
      rw [outO_all] at hcy
      obtain ⟨vals, h1, h2⟩ := hcy
      refine ⟨⟨_, rfl, vals, ⟨h1.1, h1.2.imp_right fun ⟨g, c, cur, e, hb, hr⟩ => ⟨g, c, cur, e, by omega, hr⟩⟩, fun i u l hu hl => (h2 i u l hu hl).base (by omega)⟩, hB⟩

end Go.Proofs.Ytnbkabggmomhlaa

/- The walks of the document's cuts, PrimitiveOf. -/
namespace Go.Proofs.Ytnbkabggmomhlaa
open Go.RowKit

open Classical in
/-- Is the cut kept? -/
noncomputable def kB (ms : List (List Nat)) (n : Nat) (l : List Nat) : Bool := decide (keptB ms n fun j => l.getD j 0)
theorem kB_iff (ms : List (List Nat)) (n : Nat) (l : List Nat) : kB ms n l = true ↔ keptB ms n fun j => l.getD j 0 := by
  unfold kB
  simp only [decide_eq_true_eq]
theorem exCut_zero (n : Nat) (K : List Nat → Bool) (pre : List Nat) (parts : Nat) : exCut n K 0 pre parts = (parts != 1 && parts != n && K pre) := rfl
theorem exCut_yes {n : Nat} {K : List Nat → Bool} {k : Nat} {pre : List Nat} {parts c : Nat} (hc : c ≤ parts) (h : exCut n K k (pre ++ [c]) (if c = parts then parts + 1 else parts) = true) : exCut n K (k + 1) pre parts = true := by
  unfold exCut
  rw [List.any_eq_true]
  exact ⟨c, List.mem_range.2 (by omega), h⟩
theorem exCut_none {n : Nat} {K : List Nat → Bool} {k : Nat} {pre : List Nat} {parts : Nat} (h : ∀ c, c < parts + 1 → exCut n K k (pre ++ [c]) (if c = parts then parts + 1 else parts) = false) : exCut n K (k + 1) pre parts = false := by
  unfold exCut
  rw [List.any_eq_false]
  intro c hc
  rw [h c (List.mem_range.1 hc)]
  exact Bool.false_ne_true

set_option maxRecDepth 100000 in
set_option maxHeartbeats 8000000 in
theorem cuts_any (n cb : Nat) (ms : List (List Nat)) (v : Value) (w0 : World) (hn : n ≤ 7) (h1 : 1 ≤ n) (hk : ms.length ≤ 4) (hv : SlSl w0 v ms) (hm : ∀ m ∈ ms, IsP n m) (hcb : w0.heap.size ≤ cb) :
    ∀ (k : Nat) (pre : List Nat) (parts : Nat) (h : Nat → Int) (w : World) (ai pi : Int), ai = pre.length → pi = parts → pre.length + k = n → parts ≤ pre.length → Own w cb n h → (∀ j, j < pre.length → h j = (pre.getD j 0 : Int)) → Below w0.heap.size w0 w →
    Calls Try.prog 53 #[.slice (some ⟨cb, 0, none⟩) n n, .int .i64 ai, .int .i64 pi, v] w fun e w' => (∃ h', e = .returned (.bool (exCut n (kB ms n) k pre parts)) ∧ Own w' cb n h' ∧ ∀ j, j < pre.length → h' j = h j) ∧ Below w0.heap.size w0 w' := by
  obtain ⟨va, vc, rfl, _⟩ := id hv
  obtain ⟨r, Hr⟩ : ∃ r, Hid (ms.length = r) := ⟨_, rfl⟩
  intro k
  induction k with
  | zero =>
    intro pre parts h w ai pi hai hpi hl hpl hO hh hB
    have HPL : Hid (pre.length = n) := (by omega : pre.length = n)
    have hO2 := hO.congr (f' := fun j => (pre.getD j 0 : Int)) (fun j hj => hh j (by omega))
    have C := keptOf_any n cb n (fun j => pre.getD j 0) ms _ w hn h1 hk hO2 (hv.below hB) hm
    have HKB := kB_iff ms n pre
    rw [exCut_zero]
    obtain ⟨B, HBB⟩ : ∃ B, Hid (kB ms n pre = B) := ⟨_, rfl⟩
    rw [HBB.out] at HKB ⊢
    have HK : Hid (B = true ↔ keptB ms n fun j => pre.getD j 0) := HKB
    rw [Hr.out] at C ⊢
    have hai2 : ai = (n : Int) := by omega
    subst hai2 hpi
    have hnn : ((n : Int) == (n : Int)) = true := by simp
    clear hh hO2 HKB hl hai
    by_cases p1 : parts = 1
    · subst p1
      have hd1 : (((1 : Nat) : Int) == 1) = true := by decide
      go_enter Try.func53, Try.ntmps53
      go_wp2
      go_ret
      exact ⟨⟨h, by simp, hO, fun _ _ => rfl⟩, hB⟩
    · have hd1 : ((parts : Int) == 1) = false := by simp; omega
      by_cases p2 : parts = n
      · have hd2 : ((parts : Int) == (n : Int)) = true := by simp; omega
        have hb : (parts != n) = false := by simp [p2]
        rw [hb, Bool.and_false, Bool.false_and]
        go_enter Try.func53, Try.ntmps53
        go_wp2
        go_ret
        exact ⟨⟨h, by simp, hO, fun _ _ => rfl⟩, hB⟩
      · have hd2 : ((parts : Int) == (n : Int)) = false := by simp; omega
        have hb : (parts != n) = true := by simpa using p2
        have hb1 : (parts != 1) = true := by simpa using p1
        rw [hb, hb1, Bool.true_and, Bool.true_and]
        go_enter Try.func53, Try.ntmps53
        go_wp2_with (first
          | (go_at_call 71; refine C.mono ?_; rintro e w1 ⟨⟨b, rfl, hb'⟩, b1⟩; obtain rfl : b = B := (Bool.eq_iff_iff.2 (hb'.trans HK.out.symm))))
        go_ret
        exact ⟨⟨h, rfl, hO.below b1, fun _ _ => rfl⟩, Below.next hB b1⟩
  | succ k ih =>
    intro pre parts h w ai pi hai hpi hl hpl hO hh hB
    subst hai hpi
    obtain ⟨t, Ht⟩ : ∃ t, Hid (pre.length = t) := ⟨_, rfl⟩
    have hfin : ∀ b, (∃ c, c ≤ parts ∧ exCut n (kB ms n) k (pre ++ [c]) (if c = parts then parts + 1 else parts) = true) → b = exCut n (kB ms n) (k + 1) pre parts → b = true := fun b ⟨c, h1, h2⟩ e => by rw [e]; exact exCut_yes h1 h2
    have HY : Hid (∀ c, c ≤ parts → exCut n (kB ms n) k (pre ++ [c]) (if c = parts then parts + 1 else parts) = true → exCut n (kB ms n) (k + 1) pre parts = true) := fun c h1 h2 => exCut_yes h1 h2
    have HN : Hid ((∀ c, c < parts + 1 → exCut n (kB ms n) k (pre ++ [c]) (if c = parts then parts + 1 else parts) = false) → exCut n (kB ms n) (k + 1) pre parts = false) := fun h => exCut_none h
    have IH : Hid (∀ (c p : Nat) (h : Nat → Int) (w : World) (pi : Int), p = (if c = parts then parts + 1 else parts) → pi = p → c ≤ parts → Own w cb n h → (∀ j, j < t → h j = (pre.getD j 0 : Int)) → h t = c → Below w0.heap.size w0 w →
        Calls Try.prog 53 #[.slice (some ⟨cb, 0, none⟩) n n, .int .i64 ((t : Int) + 1), .int .i64 pi, .slice va ms.length vc] w fun e w' => (∃ h', e = .returned (.bool (exCut n (kB ms n) k (pre ++ [c]) (if c = parts then parts + 1 else parts))) ∧ Own w' cb n h' ∧ ∀ j, j < t → h' j = (pre.getD j 0 : Int)) ∧ Below w0.heap.size w0 w') := by
      intro c p h w pi hp hpi hc hO hh ht hB
      have hlen : (pre ++ [c]).length = t + 1 := by rw [List.length_append, Ht.out]; rfl
      have hpp : p ≤ t + 1 := by rw [hp]; have := Ht.out; split <;> omega
      have hhs : ∀ j, j < (pre ++ [c]).length → h j = ((pre ++ [c]).getD j 0 : Int) := fun j hj => by
        rw [hlen] at hj
        by_cases e : j = t
        · subst e
          rw [ht]
          have := getD_end (l := pre) (c := c)
          rw [Ht.out] at this
          rw [this]
        · rw [getD_app (by rw [Ht.out]; omega)]
          exact hh j (by omega)
      have q := ih (pre ++ [c]) p h w ((t : Int) + 1) pi (by rw [hlen]; simp) hpi (by rw [hlen]; have := Ht.out; omega) (by rw [hlen]; exact hpp) hO hhs hB
      rw [← hp]
      refine q.mono ?_
      rintro e w' ⟨⟨h', e1, e2, e3⟩, b⟩
      exact ⟨⟨h', e1, e2, fun j hj => by rw [e3 j (by rw [hlen]; omega)]; exact hh j hj⟩, b⟩
    obtain ⟨X, HX⟩ : ∃ X : Nat → Bool, Hid (∀ c, exCut n (kB ms n) k (pre ++ [c]) (if c = parts then parts + 1 else parts) = X c) := ⟨_, fun _ => rfl⟩
    obtain ⟨R, HR⟩ : ∃ R, Hid (exCut n (kB ms n) (k + 1) pre parts = R) := ⟨_, rfl⟩
    simp only [HX.out] at HY HN IH
    rw [HR.out] at HY HN ⊢
    have HHH : Hid (∀ j, j < t → h j = (pre.getD j 0 : Int)) := fun j hj => hh j (by rw [Ht.out]; exact hj)
    rw [Ht.out] at hl hpl ⊢
    rw [Hr.out] at IH ⊢
    have htn : (t : Int) < n := by omega
    have htd : ((t : Int) == (n : Int)) = false := by simp; omega
    have ht0 : (0 : Int) ≤ (t : Int) := by omega
    clear hh hfin ih hv hm
    go_enter Try.func53, Try.ntmps53
    go_wp2
    go_loopw [10] (fun cv wr => ∃ (c : Nat) (h' : Nat → Int), cv = .int .i64 c ∧ c ≤ parts + 1 ∧ Own wr cb n h' ∧ Hid (∀ j, j < t → h' j = (pre.getD j 0 : Int)) ∧ Hid (∀ c', c' < c → X c' = false) ∧ Below w0.heap.size w0 wr) (fun cv _ => (parts + 1 - intOf cv).toNat)
    case atStart => exact ⟨0, h, rfl, by omega, hO, HHH, (fun c' hc => by omega : ∀ c', c' < 0 → X c' = false), hB⟩
    case round =>
      clear hO hB
      obtain ⟨c, h', rfl, hc, hO, HP, HF, hB⟩ := hrel
      by_cases hcp : c ≤ parts
      · have hci : (c : Int) ≤ parts := by omega
        have hcd : decide ((c : Int) ≤ parts) = true := by simp; omega
        have hct := hO.cell t (by omega)
        have hft := hO.frozen t
        have hO2 := hO.set t (c : Int)
        have hB2 : Below w0.heap.size w0 (wr.setCell ⟨cb, t, none⟩ (.int .i64 (c : Int))) := hB.setCell (p := ⟨cb, t, none⟩) hcb _
        have hu1 : ∀ j, j < t → upd h' t (c : Int) j = (pre.getD j 0 : Int) := fun j hj => by
          unfold upd
          rw [if_neg (by omega)]
          exact HP.out j hj
        have hu2 : upd h' t (c : Int) t = (c : Int) := by unfold upd; rw [if_pos rfl]
        have C := fun p pi hp hpi => IH.out c p _ _ pi hp hpi hcp hO2 hu1 hu2 hB2
        have HXX : Hid (X c = true → R = true) := HY.out c hcp
        have HFN : Hid (X c = false → ∀ c', c' < c + 1 → X c' = false) := fun h c' hc' => by
          by_cases e : c' = c
          · rw [e]; exact h
          · exact HF.out c' (by omega)
        obtain ⟨x, Hx⟩ : ∃ x, Hid (X c = x) := ⟨_, rfl⟩
        rw [Hx.out] at C HXX HFN
        clear hu1 hu2 hO2
        by_cases hce : c = parts
        · subst hce
          have hcb2 : ((c : Int) == (c : Int)) = true := by simp
          have C' := C (c + 1) ((c : Int) + 1) (by rw [if_pos rfl]) (by omega)
          cases x with
          | true =>
            go_wp2_with (first
              | (go_at_call 53; refine C'.mono ?_; rintro e w1 ⟨⟨h2, rfl, hO3, hp3⟩, b3⟩))
            go_ret
            refine ⟨⟨h2, by rw [HXX.out (by trivial)]; rfl, hO3, fun j hj => by rw [hp3 j hj]; exact (HHH.out j hj).symm⟩, b3⟩
          | false =>
            go_wp2_with (first
              | (go_at_call 53; refine C'.mono ?_; rintro e w1 ⟨⟨h2, rfl, hO3, hp3⟩, b3⟩))
            go_roundw
            case rel => exact ⟨c + 1, h2, by go_num, by omega, hO3, hp3, HFN.out (by trivial), b3⟩
            case measure => simp [intOf]
        · have hcb2 : ((c : Int) == (parts : Int)) = false := by simp; omega
          have C' := C parts (parts : Int) (by rw [if_neg hce]) rfl
          cases x with
          | true =>
            go_wp2_with (first
              | (go_at_call 53; refine C'.mono ?_; rintro e w1 ⟨⟨h2, rfl, hO3, hp3⟩, b3⟩))
            go_ret
            refine ⟨⟨h2, by rw [HXX.out (by trivial)]; rfl, hO3, fun j hj => by rw [hp3 j hj]; exact (HHH.out j hj).symm⟩, b3⟩
          | false =>
            go_wp2_with (first
              | (go_at_call 53; refine C'.mono ?_; rintro e w1 ⟨⟨h2, rfl, hO3, hp3⟩, b3⟩))
            go_roundw
            case rel => exact ⟨c + 1, h2, by go_num, by omega, hO3, hp3, HFN.out (by trivial), b3⟩
            case measure => simp [intOf]; omega
      · obtain rfl : c = parts + 1 := by omega
        have hcd : decide (((parts + 1 : Nat) : Int) ≤ parts) = false := by simp; omega
        have HE := HN.out HF.out
        go_wp2
        go_ret
        exact ⟨⟨h', by rw [HE]; rfl, hO, fun j hj => by rw [HP.out j hj]; exact (HHH.out j hj).symm⟩, hB⟩

end Go.Proofs.Ytnbkabggmomhlaa

/- The walk of the document's PrimitiveOf. -/
namespace Go.Proofs.Ytnbkabggmomhlaa
open Go.RowKit

theorem reps_one {n : Nat} {G : List Nat → Prop} (hG : Grp n G) (hn : 1 ≤ n) : (reps n G).length = 1 ↔ ∀ x, x < n → Orb G 0 x := by
  have h0 : repO n G 0 = 0 := by have := repO_le hG (show 0 < n by omega); omega
  have hmem : ∀ x, x ∈ reps n G ↔ x < n ∧ repO n G x = x := fun x => by
    unfold reps
    rw [List.mem_filter, List.mem_range]
    simp
  have m0 : 0 ∈ reps n G := (hmem 0).2 ⟨by omega, h0⟩
  constructor
  · intro h x hx
    obtain ⟨y, hy⟩ := List.length_eq_one_iff.1 h
    rw [hy] at m0 hmem
    have h1 := mem_orbL.1 (repO_mem hG hx)
    have e1 : repO n G (repO n G x) = repO n G x := ((repO_eq hG h1.1 hx).2 (h1.2.symm hG hx))
    have h2 := (hmem (repO n G x)).2 ⟨h1.1, e1⟩
    have e2 : repO n G x = 0 := by rw [List.mem_singleton.1 h2, ← List.mem_singleton.1 m0]
    exact (repO_eq hG (by omega) hx).1 (by rw [h0, e2])
  · intro h
    have hall : ∀ x ∈ reps n G, x = 0 := fun x hx => by
      obtain ⟨k1, k2⟩ := (hmem x).1 hx
      rw [← k2, ← (repO_eq hG (by omega) k1).2 (h x k1), h0]
    have nd : (reps n G).Nodup := by unfold reps; exact List.nodup_range.filter _
    have hl : (reps n G).length ≤ [0].length := nd.length_le_of_subset fun x hx => by rw [hall x hx]; simp
    have hp : 0 < (reps n G).length := List.length_pos_of_mem m0
    simp at hl
    omega
theorem rgs_two {n : Nat} {l : List Nat} {p : Nat} (h : Rgs l p) (hl : l.length = n) (hp : p ≠ n) : ∃ x y, x < n ∧ y < n ∧ x ≠ y ∧ l.getD x 0 = l.getD y 0 := by
  refine Classical.byContradiction fun hno => hp ?_
  have nd : l.Nodup := by
    rw [List.nodup_iff_pairwise_ne, List.pairwise_iff_getElem]
    intro i j hi hj hij e
    refine hno ⟨i, j, by omega, by omega, by omega, ?_⟩
    simp [List.getD_eq_getElem?_getD, hi, hj, e]
  have h1 := nd.length_le_of_subset (l₂ := List.range p) fun x hx => List.mem_range.2 (h.lt x hx)
  have h2 := List.nodup_range.length_le_of_subset (l₁ := List.range p) (l₂ := l) fun x hx => h.all x (List.mem_range.1 hx)
  rw [List.length_range] at h1 h2
  omega
theorem rgs_apart {n : Nat} {l : List Nat} {p : Nat} (h : Rgs l p) (hl : l.length = n) (hn : 1 ≤ n) (hp : p ≠ 1) : ¬ ∀ x y, x < n → y < n → l.getD x 0 = l.getD y 0 := by
  intro hall
  have h0 := h.lt _ (at_mem (by omega : 0 < l.length))
  by_cases h2 : 2 ≤ p
  · obtain ⟨i, hi, e1⟩ := mem_at (h.all 0 (by omega))
    obtain ⟨j, hj, e2⟩ := mem_at (h.all 1 (by omega))
    have := hall i j (by omega) (by omega)
    omega
  · omega
theorem prim_ex {n : Nat} {ms : List (List Nat)} (hn : 2 ≤ n) (hm : ∀ m ∈ ms, IsP n m) (ho : ∀ x, x < n → Orb (Gen n ms) 0 x) : Prim n ms ↔ exCut n (kB ms n) n [] 0 = false := by
  constructor
  · rintro ⟨_, _, h⟩
    cases he : exCut n (kB ms n) n [] 0 with
    | false => rfl
    | true =>
      obtain ⟨l, p, hr, hl, p1, pn, hK⟩ := exCut_sound n [] 0 ⟨fun x h => by simp at h, fun c h => by omega⟩ (by simp) he
      have hk := (kB_iff ms n l).1 hK
      exact absurd (h _ hk (rgs_two hr hl pn)) (rgs_apart hr hl (by omega) p1)
  · intro he
    refine ⟨hn, ho, fun d hk ht => Classical.byContradiction fun hno => ?_⟩
    have hs : ∃ x y, x < n ∧ y < n ∧ d x ≠ d y := Classical.byContradiction fun h2 => hno fun x y hx hy => Classical.byContradiction fun h3 => h2 ⟨x, y, hx, hy, h3⟩
    have hf := exCut_full (n := n) (K := kB ms n) (d := d) (fun l hl hsc => (kB_iff ms n l).2 fun m hm' x y hx hy e => by
      have pm := hm m hm'
      exact (hsc _ _ (pm.at hx) (pm.at hy)).2 (hk m hm' x y hx hy ((hsc x y hx hy).1 e))) ht hs n [] 0 ⟨fun x h => by simp at h, fun c h => by omega⟩ (by simp) (fun x y hx => by simp at hx)
    rw [he] at hf
    cases hf

set_option maxRecDepth 100000 in
set_option maxHeartbeats 8000000 in
theorem PrimitiveOf_any (n : Nat) (ms L : List (List Nat)) (v u : Value) (w : World) (hn : n ≤ 7) (h1 : 1 ≤ n) (hk : ms.length ≤ 4) (hv : SlSl w v ms) (hm : ∀ m ∈ ms, IsP n m) (hu : SlSl w u L) (hLG : ∀ a, a ∈ L ↔ Gen n ms a) (hr : L.length ≤ 5040) :
    Calls Try.prog 26 #[.int .i64 (n : Int), v, u] w fun e w' => (∃ b : Bool, e = .returned (.bool b) ∧ (b = true ↔ Prim n ms)) ∧ Below w.heap.size w w' := by
  have hG := gen_grp hm
  have C1 := OrbitsOf_any n L (Gen n ms) u w hn h1 hu hG hLG hr
  have HRO : Hid ((reps n (Gen n ms)).length = 1 ↔ ∀ x, x < n → Orb (Gen n ms) 0 x) := reps_one hG h1
  have HPR : Hid (2 ≤ n → (∀ x, x < n → Orb (Gen n ms) 0 x) → (Prim n ms ↔ exCut n (kB ms n) n [] 0 = false)) := fun h2 ho => prim_ex h2 hm ho
  have hrl := reps_len n (Gen n ms)
  obtain ⟨i3, hi, hz0, hz1, hz2⟩ := info3
  have hmk : ∀ w : World, (Instr.makeSlice 23 (.int .i64 (n : Int)) (.int .i64 (n : Int))).run Try.prog w = .ok (.slice (some ⟨w.heap.size, 0, none⟩) n n) (w.alloc (.cells (madeCells #[.int .i64 0] n) 3)) := fun w => by
    have h := run_make (P := Try.prog) w 23 3 i3 (.int .i64 0) und22 hi hz0 .i64 .i64 n n (by omega) (by omega) (by rw [hz2]; omega) (by omega)
    rw [hz1] at h
    simpa [Value.cells] using h
  have hO0 : ∀ w : World, Own (w.alloc (.cells (madeCells #[.int .i64 0] n) 3)) w.heap.size n (fun _ => 0) := fun w => by
    refine ⟨_, heap_alloc_new w _, fun j hj => ?_⟩
    have hs : j < (madeCells #[Value.int .i64 0] n).size := by rw [size_madeCells]; exact hj
    rw [Array.getElem?_eq_getElem hs]
    simp [madeCells, Nat.mod_one]
  have C2 := fun W (hb : Below w.heap.size w W) => cuts_any n W.heap.size ms v W hn h1 hk (hv.below hb) hm (Nat.le_refl _) n [] 0 (fun _ => 0) (W.alloc (.cells (madeCells #[.int .i64 0] n) 3)) 0 0 rfl rfl (by simp) (by simp) (hO0 W) (fun j hj => by simp at hj) (balloc W _)
  obtain ⟨X, HX⟩ : ∃ X, Hid (exCut n (kB ms n) n [] 0 = X) := ⟨_, rfl⟩
  rw [HX.out] at HPR
  simp only [HX.out] at C2
  obtain ⟨q, Hq⟩ : ∃ q, Hid ((reps n (Gen n ms)).length = q) := ⟨_, rfl⟩
  rw [Hq.out] at HRO hrl
  obtain ⟨va, vc, rfl, _⟩ := id hv
  obtain ⟨ua, uc, rfl, _⟩ := id hu
  obtain ⟨r, Hr⟩ : ∃ r, Hid (ms.length = r) := ⟨_, rfl⟩
  obtain ⟨s, Hs⟩ : ∃ s, Hid (L.length = s) := ⟨_, rfl⟩
  rw [Hr.out] at C2 ⊢
  rw [Hs.out] at C1 ⊢
  have HOL : Hid (((reps n (Gen n ms)).map (orbL n (Gen n ms))).length = q) := by rw [← Hq.out]; exact List.length_map _
  clear hG hv hm hu hLG hi hz0 hz1 hz2 hO0
  by_cases h2 : n < 2
  · have hd : decide ((n : Int) < 2) = true := decide_eq_true (by omega)
    go_enter Try.func26, Try.ntmps26
    go_wp2_with (first
      | (go_at_call 23; refine C1.mono ?_; rintro e w1 ⟨⟨o, rfl, hcy⟩, b1⟩; obtain ⟨oa, oc, hoe⟩ := hcy.form; rw [HOL.out] at hoe; subst hoe; clear hcy))
    go_ret
    exact ⟨⟨false, rfl, fun h => absurd h Bool.false_ne_true, fun h => absurd h.1 (by omega)⟩, b1⟩
  · have hd : decide ((n : Int) < 2) = false := decide_eq_false (by omega)
    by_cases hq1 : q = 1
    · have hqd : ((q : Int) != 1) = false := by simp; omega
      have HP2 : Hid (Prim n ms ↔ X = false) := HPR.out (by omega) (HRO.out.1 hq1)
      go_enter Try.func26, Try.ntmps26
      go_wp2_with (first
        | (go_at_call 23; refine C1.mono ?_; rintro e w1 ⟨⟨o, rfl, hcy⟩, b1⟩; obtain ⟨oa, oc, hoe⟩ := hcy.form; rw [HOL.out] at hoe; subst hoe; clear hcy)
        | (go_at_call 53; refine (C2 _ b1).mono ?_; rintro e w2 ⟨⟨h', rfl, _⟩, b2⟩; replace b2 := Below.next b1 b2))
      go_ret
      refine ⟨⟨!X, rfl, ?_⟩, b2⟩
      rw [HP2.out]
      cases X <;> simp
    · have hqd : ((q : Int) != 1) = true := by simp; omega
      go_enter Try.func26, Try.ntmps26
      go_wp2_with (first
        | (go_at_call 23; refine C1.mono ?_; rintro e w1 ⟨⟨o, rfl, hcy⟩, b1⟩; obtain ⟨oa, oc, hoe⟩ := hcy.form; rw [HOL.out] at hoe; subst hoe; clear hcy))
      go_ret
      exact ⟨⟨false, rfl, fun h => absurd h Bool.false_ne_true, fun h => absurd (HRO.out.2 h.2.1) hq1⟩, b1⟩

end Go.Proofs.Ytnbkabggmomhlaa

/- The walk of the document's ListOf, with the room of its rows. -/
namespace Go.Proofs.Ytnbkabggmomhlaa
open Go.RowKit

def CapOk (u : Value) : Prop := ∃ a m c, u = .slice a m c ∧ m ≤ c
def CycC (w : World) (base : Nat) (v : Value) (ls : List (List Nat)) : Prop :=
  ∃ vals : List Value, w.ownsRow base 23 1 v ls.length vals ∧ (∀ (i : Nat) (u : Value) (l : List Nat), vals[i]? = some u → ls[i]? = some l → RowIs w base u l) ∧ ∀ u ∈ vals, CapOk u
theorem CycC.cyc {w : World} {base : Nat} {v : Value} {ls : List (List Nat)} (h : CycC w base v ls) : CycR w base v ls := by
  obtain ⟨vals, h1, h2, _⟩ := h
  exact ⟨vals, h1, h2⟩
theorem CycC.nil (w : World) (base : Nat) : CycC w base (.slice none 0 0) [] := ⟨[], World.ownsRow_nil _ _ _ _, fun i u l h _ => by simp at h, fun u h => by simp at h⟩
theorem CycC.form {w : World} {base : Nat} {v : Value} {ls : List (List Nat)} (h : CycC w base v ls) : ∃ a cap, v = .slice a ls.length cap := h.cyc.form
theorem own_cap {w : World} {base n : Nat} {x : Value} {xs : List Value} (h : w.ownsRow base 3 1 x n xs) (hn : 0 < n) : ∃ a c, x = .slice a n c ∧ n ≤ c := by
  obtain ⟨_, ⟨_, e⟩ | ⟨g, cap, cur, e, _, _, hc, _⟩⟩ := h
  · omega
  · exact ⟨_, cap, e, hc⟩
theorem CycC.more {wa w2 : World} {base : Nat} {v v' u : Value} {ls : List (List Nat)} {l : List Nat} {vals : List Value} (hc : ∀ u ∈ vals, CapOk u) (k : CapOk u) (h1 : wa.ownsRow base 23 1 v ls.length vals) (h2 : ∀ (i : Nat) (u : Value) (l : List Nat), vals[i]? = some u → ls[i]? = some l → RowIs wa base u l) (hu : RowIs wa base u l)
    (hown : w2.ownsRow base 23 1 v' (ls.length + 1) (vals ++ [u])) (hgr : wa.grownBy w2 v.ownBlock) : CycC w2 base v' (ls ++ [l]) := by
  have key : ∀ {u l}, RowIs wa base u l → RowIs w2 base u l := fun h => RowIs.grown h1 hgr h
  have hlen : vals.length = ls.length := by have := h1.1; omega
  refine ⟨vals ++ [u], by rw [List.length_append]; exact hown, fun i u' l' e1 e2 => ?_, fun u' hu' => ?_⟩
  · by_cases hi : i < vals.length
    · rw [List.getElem?_append_left hi] at e1
      rw [List.getElem?_append_left (by omega)] at e2
      exact key (h2 i u' l' e1 e2)
    · rw [List.getElem?_append_right (by omega)] at e1
      rw [List.getElem?_append_right (by omega)] at e2
      have h0 : i - vals.length = 0 := by
        rcases Nat.eq_zero_or_pos (i - vals.length) with h | h
        · exact h
        · rw [List.getElem?_eq_none (by simp; omega)] at e1; simp at e1
      rw [h0] at e1
      rw [show i - ls.length = 0 by omega] at e2
      simp at e1 e2
      subst e1 e2
      exact key hu
  · rcases List.mem_append.1 hu' with h | h
    · exact hc u' h
    · rw [List.mem_singleton.1 h]; exact k
/-- The rows have room. -/
def Caps (w : World) (v : Value) (ls : List (List Nat)) : Prop :=
  ∃ a cap, v = .slice a ls.length cap ∧ ∀ (i : Nat) (l : List Nat), ls[i]? = some l → ∃ b off a' m c, a = some ⟨b, off, none⟩ ∧ w.cell? ⟨b, off + i, none⟩ = some (.slice a' m c) ∧ m ≤ c
theorem CycC.caps {w : World} {base : Nat} {v : Value} {ls : List (List Nat)} (h : CycC w base v ls) : Caps w v ls := by
  obtain ⟨vals, h1, h2, hc⟩ := h
  obtain ⟨h3, ⟨rfl, h4⟩ | ⟨g, cap, cur, rfl, h6, h7, h8, h9, h10, ht⟩⟩ := h1
  · refine ⟨none, 0, by rw [h4], fun i l hl => ?_⟩
    rw [List.length_eq_zero_iff.1 h4] at hl; simp at hl
  · refine ⟨_, cap, rfl, fun i l hl => ?_⟩
    have hi : i < ls.length := by
      rcases Nat.lt_or_ge i ls.length with h | h
      · exact h
      · rw [List.getElem?_eq_none h] at hl; simp at hl
    have e : (cur.toList.take (ls.length * 1))[i]? = vals[i]? := by rw [ht]
    rw [List.getElem?_take, if_pos (by omega)] at e
    obtain ⟨u, hu⟩ : ∃ u, vals[i]? = some u := ⟨vals[i]'(by omega), by simp⟩
    obtain ⟨a', m, c, rfl, hmc⟩ := hc u (List.mem_of_getElem? hu)
    exact ⟨g, 0, a', m, c, rfl, by rw [cell_of_row w g _ _ _ _ h7, Nat.zero_add, ← Array.getElem?_toList, e, hu], hmc⟩
theorem Caps.below {w w' : World} {v : Value} {ls : List (List Nat)} (h : Caps w v ls) (hb : Below w.heap.size w w') : Caps w' v ls := by
  obtain ⟨a, cap, rfl, h⟩ := h
  refine ⟨a, cap, rfl, fun i l hl => ?_⟩
  obtain ⟨b, off, a', m, c, e, hc, hs⟩ := h i l hl
  exact ⟨b, off, a', m, c, e, (hb.cell (p := ⟨b, off + i, none⟩) (block_lt_of_cell hc)).trans hc, hs⟩

set_option maxRecDepth 100000 in
set_option maxHeartbeats 4000000 in
theorem ListOf_cap (n g : Nat) (F : Nat → Bool) (w : World) (hn : n ≤ 7) (h1 : 1 ≤ n) (hO : OwnB w g (fac n) F) :
    Calls Try.prog 15 #[.int .i64 (n : Int), .slice (some ⟨g, 0, none⟩) (fac n) (fac n)] w fun e w' => (∃ v, e = .returned v ∧ CycC w' w.heap.size v (listF n F (fac n))) ∧ Below w.heap.size w w' := by
  obtain ⟨i23, hi, hz0, hz1, hz2⟩ := info23
  have HI2 : Hid (Try.prog.info? 23 = some i23 ∧ i23.zero = some (.slice none 0 0) ∧ i23.size = 1 ∧ i23.bytes = 24) := ⟨hi, hz0, hz1, hz2⟩
  clear hi hz0 hz1 hz2
  have hfb : fac n ≤ 5040 := by have h := fac_mono hn; have h3 : fac 7 = 5040 := (by decide); omega
  have C := fun k W (h : k < fac n) => PermOfRank_own n k W (by omega) h
  obtain ⟨z, Hz⟩ : ∃ z, Hid (fac n = z) := ⟨_, rfl⟩
  rw [Hz.out] at C hfb hO ⊢
  have hgl := hO.lt
  go_enter Try.func15, Try.ntmps15
  go_wp2
  go_loopw [5, 6] (fun lv i wr => ∃ (t : Nat), i = .int .i64 t ∧ t ≤ z ∧ CycC wr w.heap.size lv (listF n F t) ∧ Below w.heap.size w wr) (fun _ i _ => (z - intOf i).toNat)
  case atStart => exact ⟨0, rfl, by omega, CycC.nil _ _, Below.refl _ _⟩
  case round =>
    obtain ⟨t, rfl, ht, hcy, hB⟩ := hrel
    have hlen := listF_len n F t
    obtain ⟨r, Hr⟩ : ∃ r, Hid ((listF n F t).length = r) := ⟨_, rfl⟩
    obtain ⟨la, lc, hle⟩ := hcy.form
    rw [Hr.out] at hle hlen
    subst hle
    by_cases hlt : t < z
    · have hti : (t : Int) < z := by omega
      have ht0 : (0 : Int) ≤ (t : Int) := by omega
      have hdec : decide ((t : Int) < z) = true := by simp; omega
      have hO' : OwnB wr g z F := hO.block (hB.block g hgl)
      have hct := hO'.cell t hlt
      have hft := hO'.frozen t
      have hsz := hB.size
      have D := C t wr hlt
      clear hO'
      cases hF : F t with
      | true =>
        rw [hF] at hct
        have HL : Hid (listF n F (t + 1) = listF n F t ++ [unr n t]) := listF_yes hF
        obtain ⟨L, HLL⟩ : ∃ L, Hid (listF n F t = L) := ⟨_, rfl⟩
        rw [HLL.out] at hcy HL Hr
        have hul : (unr n t).length = n := unrL_len _ _ _
        change Calls _ _ _ _ fun e w' => ∃ x, e = _ ∧ w'.ownsRow wr.heap.size 3 1 x n (vl (unr n t)) ∧ Below wr.heap.size wr w' at D
        obtain ⟨y, Hy⟩ : ∃ y, Hid (unr n t = y) := ⟨_, rfl⟩
        rw [Hy.out] at HL hul D
        have HYL : Hid (y.length = n) := hul
        obtain ⟨vals, hv1, hv2, hcap⟩ := hcy
        rw [Hr.out] at hv1
        have HV2 : Hid (∀ (i : Nat) (u : Value) (l : List Nat), vals[i]? = some u → L[i]? = some l → RowIs wr w.heap.size u l) := hv2
        clear hv2 hul
        go_wp2_with (first
          | (go_at_call 45; refine D.mono ?_; rintro e w4 ⟨x, rfl, hown4, b4⟩; have hrow4 : RowIs w4 w.heap.size x y := (row_of hown4 HYL.out (by omega)).base hsz; obtain ⟨ya, yc, hye, hyc⟩ : ∃ a c, x = .slice a n c ∧ n ≤ c := (own_cap hown4 (by omega)); subst hye; replace hv1 := orow_below hv1 b4; have HV3 : Hid (∀ (i : Nat) (u : Value) (l : List Nat), vals[i]? = some u → L[i]? = some l → RowIs w4 w.heap.size u l) := (fun i u l h1 h2 => (HV2.out i u l h1 h2).below b4); have HR4 : Hid (RowIs w4 w.heap.size (.slice ya n yc) y) := hrow4; have hB4 := Below.next hB b4; clear hown4 hrow4 b4 D)
          | (at_builtin; refine wpList_append_lies _ rfl _ _ 22 rfl w.heap.size 23 i23 (.slice none 0 0) 1 24 und22' HI2.out.1 HI2.out.2.1 HI2.out.2.2.1 HI2.out.2.2.2 rfl (by decide) _ r _ rfl (hv1.alloc _) ⟨w4.heap.size, 0, none⟩ 1 1 [.slice ya n yc] rfl rfl ?c1 ?c2 (by omega) ?c3 ?c4 ?c5 (w4.heap.size + 1) (by simp) ?_))
        case c1 => exact cell_one_new w4 (.slice ya n yc) 23
        case c2 => intro u hu; simp at hu; subst hu; rfl
        case c3 => unfold maxLen; omega
        case c4 => omega
        case c5 => have := hB4.size; simp; omega
        intro g6 cap6 w6 hown6 hgrow6 _ hlt6
        have hb6 : Below w.heap.size w w6 := (hB4.alloc hB4.size _).grown hgrow6 (by have := hB4.size; simp; omega) (fun g hg => by have := (hv1.lt g hg).1; omega)
        have hal : ∀ {u l}, RowIs w4 w.heap.size u l → RowIs (w4.alloc (.cells #[.slice ya n yc] 23)) w.heap.size u l := fun h => h.below (balloc _ _)
        have hcy6 : CycC w6 w.heap.size (.slice (some ⟨g6, 0, none⟩) (r + 1) cap6) (L ++ [y]) := CycC.more hcap (k := ⟨ya, n, yc, rfl, hyc⟩) (wa := w4.alloc (.cells #[.slice ya n yc] 23)) (vals := vals) (by rw [Hr.out]; exact hv1.alloc _) (fun i u l h1 h2 => hal (HV3.out i u l h1 h2)) (hal HR4.out) (by rw [Hr.out]; exact hown6) hgrow6
        clear hown6 hgrow6 hv1 HV2 HV3 HR4
        go_wp2
        go_roundw
        case rel => exact ⟨t + 1, by go_num, by omega, by rw [HL.out]; exact hcy6, hb6⟩
        case measure => simp [intOf]; omega
      | false =>
        rw [hF] at hct
        have HL : Hid (listF n F (t + 1) = listF n F t) := listF_no hF
        go_wp2
        go_roundw
        case rel => exact ⟨t + 1, by go_num, by omega, by rw [HL.out]; exact hcy, hB⟩
        case measure => simp [intOf]; omega
    · obtain rfl : t = z := by omega
      have hkd : decide ((t : Int) < (t : Int)) = false := by simp
      go_wp2
      go_ret
      exact ⟨⟨_, rfl, hcy⟩, hB⟩

end Go.Proofs.Ytnbkabggmomhlaa

/- The walk of the document's Number. -/
namespace Go.Proofs.Ytnbkabggmomhlaa
open Go.RowKit

/-- The digits' number, the first the least. -/
def numL (b : Nat) : List Nat → Nat
  | [] => 0
  | x :: l => x + b * numL b l
theorem numL_lt {b : Nat} (hb : 0 < b) : ∀ {l : List Nat}, (∀ x ∈ l, x < b) → numL b l < b ^ l.length
  | [], _ => by simp [numL]
  | x :: l, h => by
    have h1 := h x (by simp)
    have h2 := numL_lt hb (l := l) (fun y hy => h y (by simp [hy]))
    rw [numL, List.length_cons, Nat.pow_succ, Nat.mul_comm (b ^ l.length) b]
    have h3 : b * (numL b l + 1) ≤ b * b ^ l.length := Nat.mul_le_mul_left b h2
    rw [Nat.mul_add, Nat.mul_one] at h3
    omega
theorem numL_inj {b : Nat} : ∀ {l m : List Nat}, (∀ x ∈ l, x < b) → (∀ x ∈ m, x < b) → l.length = m.length → numL b l = numL b m → l = m
  | [], [], _, _, _, _ => rfl
  | x :: l, y :: m, hl, hm, hlen, h => by
    have hx := hl x (by simp)
    have hy := hm y (by simp)
    rw [numL, numL] at h
    have e1 : x = y := by
      have := congrArg (· % b) h
      simp only [Nat.add_mul_mod_self_left, Nat.mod_eq_of_lt hx, Nat.mod_eq_of_lt hy] at this
      exact this
    subst e1
    have e2 : numL b l = numL b m := Nat.eq_of_mul_eq_mul_left (by omega : 0 < b) (by omega)
    rw [numL_inj (fun z hz => hl z (by simp [hz])) (fun z hz => hm z (by simp [hz])) (by simpa using hlen) e2]
theorem numL_drop (b : Nat) (l : List Nat) {i : Nat} (hi : i < l.length) : numL b (l.drop i) = numL b (l.drop (i + 1)) * b + l.getD i 0 := by
  rw [List.drop_eq_getElem_cons hi, numL, Nat.mul_comm]
  simp [List.getD_eq_getElem?_getD, hi]
  omega

set_option maxRecDepth 100000 in
set_option maxHeartbeats 1000000 in
theorem Number_any (b : Nat) (l : List Nat) (v : Value) (w : World) (hb : b ≤ 7) (hv : Sl w v (l.map Int.ofNat)) (hl : l.length ≤ 7) (hx : ∀ x ∈ l, x < b) :
    Calls Try.prog 52 #[v, .int .i64 (b : Int)] w fun e w' => e = .returned (.int .i64 (numL b l : Int)) ∧ w' = w := by
  obtain ⟨m, Hm⟩ : ∃ m, Hid (l.length = m) := ⟨_, rfl⟩
  obtain ⟨a, cap, rfl, hcv⟩ := hv
  rw [List.length_map] at hcv ⊢
  rw [Hm.out] at hcv hl ⊢
  have HV : Hid (∀ j, j < m → ∃ B off, a = some ⟨B, off, none⟩ ∧ w.cell? ⟨B, off + j, none⟩ = some (.int .i64 (l.getD j 0 : Int))) := fun j hj => by
    obtain ⟨B, off, e, h⟩ := hcv j hj
    refine ⟨B, off, e, ?_⟩
    rw [h]
    have : j < l.length := by rw [Hm.out]; exact hj
    simp [this]
  have HND : Hid (∀ i, i < m → numL b (l.drop i) = numL b (l.drop (i + 1)) * b + l.getD i 0) := fun i hi => numL_drop b l (by rw [Hm.out]; exact hi)
  have HBD : Hid (∀ i, numL b (l.drop i) ≤ 823543 ∧ ∀ i, i < m → l.getD i 0 < 7) := fun i => by
    refine ⟨?_, fun i hi => ?_⟩
    · by_cases h0 : 0 < b
      · have h1 := numL_lt h0 (l := l.drop i) (fun x h => hx x (List.mem_of_mem_drop h))
        have h2 : b ^ (l.drop i).length ≤ 7 ^ 7 := Nat.le_trans (Nat.pow_le_pow_left hb _) (Nat.pow_le_pow_right (by omega) (by rw [List.length_drop, Hm.out]; omega))
        have h3 : (7 : Nat) ^ 7 = 823543 := by decide
        omega
      · have : l = [] := by
          cases l with
          | nil => rfl
          | cons x t => have := hx x (by simp); omega
        rw [this]; simp [numL]
    · have h1 : i < l.length := by rw [Hm.out]; exact hi
      have := hx (l.getD i 0) (by simp [List.getD_eq_getElem?_getD, h1])
      omega
  clear hcv hx
  go_enter Try.func52, Try.ntmps52
  go_wp2
  go_loopw [5, 6] (fun o iv wr => ∃ i : Nat, o = .int .i64 (numL b (l.drop i) : Int) ∧ iv = .int .i64 ((i : Int) - 1) ∧ i ≤ m ∧ wr = w) (fun _ iv _ => (intOf iv + 1).toNat)
  case atStart => exact ⟨m, by rw [← Hm.out, List.drop_length]; rfl, rfl, by omega, rfl⟩
  case round =>
    obtain ⟨i, rfl, rfl, hi, rfl⟩ := hrel
    by_cases hp : 0 < i
    · obtain ⟨k, rfl⟩ : ∃ k, i = k + 1 := ⟨i - 1, by omega⟩
      have hki : ((k + 1 : Nat) : Int) - 1 = (k : Int) := by omega
      have hk0 : (0 : Int) ≤ (k : Int) := by omega
      have hkd : decide ((0 : Int) ≤ (k : Int)) = true := decide_eq_true hk0
      have hkm : (k : Int) < m := by omega
      obtain ⟨B, off, rfl, hc⟩ := HV.out k (by omega)
      have hnd := HND.out k (by omega)
      have hb1 := (HBD.out (k + 1)).1
      have hb2 := (HBD.out 0).2 k (by omega)
      obtain ⟨x, Hx⟩ : ∃ x, Hid (l.getD k 0 = x) := ⟨_, rfl⟩
      obtain ⟨y, Hy⟩ : ∃ y, Hid (numL b (l.drop (k + 1)) = y) := ⟨_, rfl⟩
      rw [Hx.out] at hc hnd hb2
      rw [Hy.out] at hnd hb1 ⊢
      have HN : Hid (numL b (l.drop k) = y * b + x) := hnd
      have hyb : y * b ≤ 823543 * 7 := Nat.mul_le_mul hb1 hb
      have hybi : (y : Int) * (b : Int) ≤ 5764801 := by have : ((y * b : Nat) : Int) ≤ 5764801 := by omega
                                                        simpa using this
      have hyb0 : (0 : Int) ≤ (y : Int) * (b : Int) := by have : (0 : Int) ≤ ((y * b : Nat) : Int) := by omega
                                                          simpa using this
      clear hnd
      rw [hki]
      go_wp2
      go_roundw
      case rel => exact ⟨k, by rw [HN.out]; go_num, by go_num, by omega, trivial⟩
      case measure => simp [intOf]
    · obtain rfl : i = 0 := by omega
      have hkd : decide ((0 : Int) ≤ ((0 : Nat) : Int) - 1) = false := by decide
      go_wp2
      go_ret
      exact ⟨rfl, rfl⟩

end Go.Proofs.Ytnbkabggmomhlaa

/- The walk of the document's DeepOf. -/
namespace Go.Proofs.Ytnbkabggmomhlaa
open Go.RowKit

theorem rowsN_pw {n : Nat} : ∀ t, rowsN n t ≤ n ^ t
  | 0 => Nat.le_refl _
  | t + 1 => by
    rw [rowsN, Nat.pow_succ]
    exact Nat.mul_le_mul (rowsN_pw t) (Nat.sub_le _ _)
/-- The rows that were met. -/
structure Met (L D : List (List Nat)) (t j : Nat) : Prop where
  nd : D.Nodup
  mem : ∀ r, r ∈ D ↔ ∃ a, a ∈ L.take j ∧ a.take t = r
theorem addL_nodup2 {D : List (List Nat)} {x : List Nat} (h : D.Nodup) : (addL D x).Nodup := by
  unfold addL
  split
  · exact h
  · rename_i hn
    exact List.nodup_append.2 ⟨h, by simp, fun a ha b hb => by rw [List.mem_singleton.1 hb]; exact fun e => hn (e ▸ ha)⟩
theorem addL_mem' (cs : List (List Nat)) (x y : List Nat) : y ∈ addL cs x ↔ y ∈ cs ∨ y = x := by
  unfold addL
  split
  · rename_i h
    exact ⟨.inl, fun k => k.elim id fun e => e ▸ h⟩
  · simp
theorem Met.next {L D : List (List Nat)} {t j : Nat} {a : List Nat} (h : Met L D t j) (ha : L[j]? = some a) : Met L (addL D (a.take t)) t (j + 1) := by
  refine ⟨addL_nodup2 h.nd, fun r => ?_⟩
  rw [addL_mem', h.mem, List.take_add_one, ha, Option.toList_some]
  constructor
  · rintro (⟨b, h1, h2⟩ | h1)
    · exact ⟨b, List.mem_append_left _ h1, h2⟩
    · exact ⟨a, List.mem_append_right _ (by simp), h1.symm⟩
  · rintro ⟨b, h1, h2⟩
    rcases List.mem_append.1 h1 with k | k
    · exact .inl ⟨b, k, h2⟩
    · rw [List.mem_singleton.1 k] at h2; exact .inr h2.symm
open Classical in
noncomputable def seenB (n : Nat) (D : List (List Nat)) (c : Nat) : Bool := decide (∃ r, r ∈ D ∧ numL n r = c)
theorem seenB_at {n t : Nat} {D : List (List Nat)} {r : List Nat} (hD : ∀ q ∈ D, q.length = t ∧ ∀ x ∈ q, x < n) (hr : r.length = t ∧ ∀ x ∈ r, x < n) : seenB n D (numL n r) = true ↔ r ∈ D := by
  unfold seenB
  simp only [decide_eq_true_eq]
  constructor
  · rintro ⟨q, h1, h2⟩
    have := hD q h1
    rw [← numL_inj this.2 hr.2 (by rw [this.1, hr.1]) h2]; exact h1
  · exact fun h => ⟨r, h, rfl⟩
theorem seenB_add {n : Nat} {D : List (List Nat)} {r : List Nat} (c : Nat) : upU (seenB n D) (numL n r) c = seenB n (addL D r) c := by
  unfold upU
  apply Bool.eq_iff_iff.2
  by_cases e : c = numL n r
  · rw [if_pos e]
    unfold seenB
    simp only [decide_eq_true_eq, true_iff]
    exact ⟨r, (addL_mem' _ _ _).2 (.inr rfl), e.symm⟩
  · rw [if_neg e]
    unfold seenB
    simp only [decide_eq_true_eq]
    constructor
    · rintro ⟨q, h1, h2⟩; exact ⟨q, (addL_mem' _ _ _).2 (.inl h1), h2⟩
    · rintro ⟨q, h1, h2⟩
      rcases (addL_mem' _ _ _).1 h1 with k | rfl
      · exact ⟨q, k, h2⟩
      · exact absurd h2.symm e
theorem Met.moves {n t : Nat} {L D : List (List Nat)} {G : List Nat → Prop} (h : Met L D t L.length) (hG : Grp n G) (hL : ∀ a, a ∈ L ↔ G a) (ht : t ≤ n) : D.length < rowsN n t ↔ ¬ Moves n G t := by
  have hm : ∀ r, r ∈ D ↔ ∃ a, G a ∧ a.take t = r := fun r => by
    rw [h.mem, List.take_length]
    exact ⟨fun ⟨a, h1, h2⟩ => ⟨a, (hL a).1 h1, h2⟩, fun ⟨a, h1, h2⟩ => ⟨a, (hL a).2 h1, h2⟩⟩
  have hsub : ∀ r ∈ D, r ∈ allR n t := fun r hr => by
    obtain ⟨a, ha, rfl⟩ := (hm r).1 hr
    exact take_row (hG.isP a ha) ht
  obtain ⟨h1, h2⟩ := full_iff h.nd hsub
  have h3 : Moves n G t ↔ ∀ r ∈ allR n t, r ∈ D := by
    constructor
    · intro h r hr
      obtain ⟨k1, k2, k3⟩ := mem_allR.1 hr
      exact (hm r).2 (h r k1 k2 k3)
    · intro h r k1 k2 k3
      exact (hm r).1 (h r (mem_allR.2 ⟨k1, k2, k3⟩))
  rw [h3, ← h2]
  omega

set_option maxRecDepth 100000 in
set_option maxHeartbeats 8000000 in
theorem DeepOf_any (n : Nat) (L : List (List Nat)) (G : List Nat → Prop) (u : Value) (w : World) (hn : n ≤ 7) (h1 : 1 ≤ n) (hu : SlSl w u L) (hcp : Caps w u L) (hG : Grp n G) (hLG : ∀ a, a ∈ L ↔ G a) (hr : L.length ≤ 5040) :
    Calls Try.prog 25 #[.int .i64 (n : Int), u] w fun e w' => (∃ d : Nat, e = .returned (.int .i64 (d : Int)) ∧ d ≤ n ∧ (∀ t, 1 ≤ t → t ≤ d → Moves n G t) ∧ (d < n → ¬ Moves n G (d + 1))) ∧ Below w.heap.size w w' := by
  obtain ⟨r, Hr⟩ : ∃ r, Hid (L.length = r) := ⟨_, rfl⟩
  obtain ⟨la, lc, rfl, _⟩ := id hu
  have HU : Hid (SlSl w (.slice la L.length lc) L) := hu
  have HCP : Hid (Caps w (.slice la L.length lc) L) := hcp
  rw [Hr.out] at HU HCP hr ⊢
  have HLS : Hid (∀ m ∈ L, IsP n m) := fun m hm => hG.isP m ((hLG m).1 hm)
  have HMV : Hid (∀ D t, Met L D t L.length → t ≤ n → (D.length < rowsN n t ↔ ¬ Moves n G t)) := fun D t h ht => h.moves hG hLG ht
  rw [Hr.out] at HMV
  have HPW : Hid (∀ i, i ≤ n → n ^ i ≤ 823543) := fun i hi => by
    have h2 : n ^ i ≤ 7 ^ 7 := Nat.le_trans (Nat.pow_le_pow_left hn _) (Nat.pow_le_pow_right (by omega) (by omega))
    have h3 : (7 : Nat) ^ 7 = 823543 := by decide
    omega
  clear hu hcp hG hLG
  go_enter Try.func25, Try.ntmps25
  go_wp2
  go_loopw [5] (fun tv wr => ∃ t : Nat, tv = .int .i64 t ∧ 1 ≤ t ∧ t ≤ n + 1 ∧ Hid (∀ t', 1 ≤ t' → t' < t → Moves n G t') ∧ Below w.heap.size w wr) (fun tv _ => (n + 1 - intOf tv).toNat)
  case atStart => exact ⟨1, rfl, by omega, by omega, (fun t' h1 h2 => by omega : ∀ t', 1 ≤ t' → t' < 1 → Moves n G t'), Below.refl _ _⟩
  case round =>
    obtain ⟨t, rfl, ht1, htn, HMO, hB⟩ := hrel
    by_cases hle : t ≤ n
    · have hti : (t : Int) ≤ n := by omega
      have htd : decide ((t : Int) ≤ n) = true := by simp; omega
      have ht0 : (0 : Int) ≤ (t : Int) := by omega
      obtain ⟨w0, hw0⟩ : ∃ w0 : World, w0 = wr := ⟨_, rfl⟩
      subst hw0
      go_wp2
      go_loopw [6, 7, 8] (fun av sv iv wr' => ∃ i : Nat, av = .int .i64 (rowsN n i : Int) ∧ sv = .int .i64 ((n ^ i : Nat) : Int) ∧ iv = .int .i64 i ∧ i ≤ t ∧ wr' = w0) (fun _ _ iv _ => (t - intOf iv).toNat)
      case atStart => exact ⟨0, rfl, rfl, rfl, by omega, rfl⟩
      case round =>
        obtain ⟨i, rfl, rfl, rfl, hi, rfl⟩ := hrel
        by_cases hit : i < t
        · have hii : (i : Int) < t := by omega
          have hid : decide ((i : Int) < t) = true := by simp; omega
          have hni : (n : Int) - (i : Int) = ((n - i : Nat) : Int) := by omega
          have e1 : rowsN n (i + 1) = rowsN n i * (n - i) := rfl
          have e2 : n ^ (i + 1) = n ^ i * n := Nat.pow_succ ..
          have b1 := rowsN_pw (n := n) (i + 1)
          have b2 := HPW.out (i + 1) (by omega)
          have b3 := rowsN_pw (n := n) i
          have b4 := HPW.out i (by omega)
          obtain ⟨A, HA⟩ : ∃ A, Hid (rowsN n i = A) := ⟨_, rfl⟩
          obtain ⟨S, HS⟩ : ∃ S, Hid (n ^ i = S) := ⟨_, rfl⟩
          obtain ⟨k, Hk⟩ : ∃ k, Hid (n - i = k) := ⟨_, rfl⟩
          rw [HA.out, Hk.out] at e1
          rw [HS.out] at e2 b4 b3
          rw [HA.out] at b3
          rw [Hk.out] at hni
          rw [HA.out, HS.out]
          rw [e1] at b1
          rw [e2] at b1 b2
          have hki : k ≤ 7 := by rw [← Hk.out]; omega
          have m1 : (A : Int) * (k : Int) ≤ 823543 := by rw [← Int.natCast_mul]; omega
          have m2 : (0 : Int) ≤ (A : Int) * (k : Int) := by rw [← Int.natCast_mul]; omega
          have m3 : (S : Int) * (n : Int) ≤ 823543 := by rw [← Int.natCast_mul]; omega
          have m4 : (0 : Int) ≤ (S : Int) * (n : Int) := by rw [← Int.natCast_mul]; omega
          have E1 : Hid (rowsN n (i + 1) = A * k) := e1
          have E2 : Hid (n ^ (i + 1) = S * n) := e2
          clear e1 e2
          go_wp2
          go_roundw
          case rel => exact ⟨i + 1, by rw [E1.out]; simp, by rw [E2.out]; simp, by go_num, by omega, trivial⟩
          case measure => simp [intOf]; omega
        · obtain rfl : i = t := by omega
          have hid : decide ((i : Int) < (i : Int)) = false := by simp
          have hz := HPW.out i hle
          have ha := Nat.le_trans (rowsN_pw (n := n) i) hz
          have HLT : Hid (∀ q : List Nat, q.length = i ∧ (∀ x ∈ q, x < n) → numL n q < n ^ i) := fun q h => by have := numL_lt (by omega : 0 < n) h.2; rwa [h.1] at this
          have hmk := run_make4 (n ^ i) (by omega) wr
          have hO0 := (ownB_new wr (n ^ i)).congr (f' := seenB n []) (fun j _ => by unfold seenB; simp)
          have hB0 : Below w.heap.size w (wr.alloc (.cells (madeCells #[.bool false] (n ^ i)) 4)) := hB.alloc hB.size _
          have hsb : w.heap.size ≤ wr.heap.size := hB.size
          obtain ⟨z, Hz⟩ : ∃ z, Hid (n ^ i = z) := ⟨_, rfl⟩
          obtain ⟨sb, Hsb⟩ : ∃ sb, Hid (wr.heap.size = sb) := ⟨_, rfl⟩
          have HMV2 : Hid (∀ D, Met L D i r → (D.length < rowsN n i ↔ ¬ Moves n G i)) := fun D h => HMV.out D i h hle
          obtain ⟨A, HA⟩ : ∃ A, Hid (rowsN n i = A) := ⟨_, rfl⟩
          rw [Hz.out] at hz hmk hO0 hB0 HLT ⊢
          rw [HA.out] at ha HMV2 ⊢
          rw [Hsb.out] at hmk hO0 hsb
          clear hB
          go_wp2
          go_loopw [10, 11] (fun mv jv wr => ∃ (j : Nat) (D : List (List Nat)), mv = .int .i64 (D.length : Int) ∧ jv = .int .i64 j ∧ j ≤ r ∧ D.length ≤ j ∧ Hid (Met L D i j) ∧ OwnB wr sb z (seenB n D) ∧ Below w.heap.size w wr) (fun _ jv _ => (r - intOf jv).toNat)
          case atStart => exact ⟨0, [], rfl, rfl, by omega, by simp, (⟨List.nodup_nil, fun r => by simp⟩ : Met L [] i 0), hO0, hB0⟩
          case round =>
            clear hO0 hB0
            obtain ⟨j, D, rfl, rfl, hj, hDj, HME, hO, hB⟩ := hrel
            obtain ⟨dl, Hdl⟩ : ∃ dl, Hid (D.length = dl) := ⟨_, rfl⟩
            rw [Hdl.out] at hDj ⊢
            by_cases hjl : j < r
            · have hji : (j : Int) < r := by omega
              have hj0 : (0 : Int) ≤ (j : Int) := by omega
              have hjd : decide ((j : Int) < r) = true := by simp; omega
              obtain ⟨x, hx⟩ : ∃ x, L[j]? = some x := ⟨L[j]'(by have := Hr.out; omega), by simp⟩
              have hxP := HLS.out x (List.mem_of_getElem? hx)
              obtain ⟨lb, lo, xb, xo, xc, hla, hlbw, hcx0, hxbw, hcxs⟩ := HU.out.row hx hxP.len (by omega)
              subst hla
              obtain ⟨a2, c2, e2, hc2⟩ := HCP.out
              have hxc : n ≤ xc := by
                obtain ⟨b3, o3, a3, m3, c3, e3, hc3, hm3⟩ := hc2 j x hx
                cases e2
                cases e3
                rw [hcx0] at hc3
                cases hc3
                exact hm3
              clear hc2 e2
              have hix : (i : Int) ≤ (xc : Int) := by omega
              have hcx := (hB.cell (p := ⟨lb, lo + j, none⟩) hlbw).trans hcx0
              have hqr : (x.take i).length = i ∧ ∀ y ∈ x.take i, y < n := ⟨by rw [List.length_take, hxP.len]; omega, fun y hy => hxP.lt y (List.mem_of_mem_take hy)⟩
              have HSl : Hid (∀ c, Sl wr (.slice (some ⟨xb, xo, none⟩) i c) ((x.take i).map Int.ofNat)) := fun c => by
                refine ⟨_, c, by rw [List.length_map, hqr.1], fun k hk => ⟨xb, xo, rfl, ?_⟩⟩
                rw [List.length_map, hqr.1] at hk
                rw [(hB.cell (p := ⟨xb, xo + k, none⟩) hxbw).trans (hcxs k (by omega))]
                have h7 : k < x.length := by rw [hxP.len]; omega
                simp [hk, h7]
              have C := fun c => Number_any n (x.take i) (.slice (some ⟨xb, xo, none⟩) i c) wr hn (HSl.out c) (by rw [hqr.1]; omega) hqr.2
              have hql := HLT.out (x.take i) hqr
              have HNX : Hid (Met L (addL D (x.take i)) i (j + 1)) := HME.out.next hx
              have HSE : Hid (seenB n D (numL n (x.take i)) = true ↔ x.take i ∈ D) := seenB_at (t := i) (fun q hq => by
                obtain ⟨a, k1, rfl⟩ := (HME.out.mem q).1 hq
                have pa := HLS.out a (List.mem_of_mem_take k1)
                exact ⟨by rw [List.length_take, pa.len]; omega, fun y hy => pa.lt y (List.mem_of_mem_take hy)⟩) hqr
              have HSA : Hid (∀ c, c < z → upU (seenB n D) (numL n (x.take i)) c = seenB n (addL D (x.take i)) c) := fun c _ => seenB_add c
              obtain ⟨y, Hy⟩ : ∃ y, Hid (x.take i = y) := ⟨_, rfl⟩
              rw [Hy.out] at C hql HNX HSE HSA
              obtain ⟨q, Hq⟩ : ∃ q, Hid (numL n y = q) := ⟨_, rfl⟩
              rw [Hq.out] at C hql HSE HSA
              have hqi : (q : Int) < (z : Int) := by omega
              have hq0 : (0 : Int) ≤ (q : Int) := by omega
              have hcq := hO.cell q hql
              have hfq := hO.frozen q
              clear hx hxP hcx0 hcxs hqr
              cases hsq : seenB n D q with
              | true =>
                rw [hsq] at hcq
                have HIN : Hid (addL D y = D) := by unfold addL; exact if_pos (HSE.out.1 hsq)
                go_wp2_with (first
                  | (go_at_call 52; refine (C _).mono ?_; rintro e w5 ⟨rfl, hw⟩; replace hw := hw.symm; subst hw))
                go_roundw
                case rel => exact ⟨j + 1, D, by rw [Hdl.out], by go_num, by omega, by rw [Hdl.out]; omega, by have := HNX.out; rwa [HIN.out] at this, hO, hB⟩
                case measure => simp [intOf]; omega
              | false =>
                rw [hsq] at hcq
                have HIN : Hid (addL D y = D ++ [y]) := by unfold addL; exact if_neg fun h => by have := HSE.out.2 h; rw [hsq] at this; cases this
                have hO2 := (hO.set q).congr HSA.out
                have hB2 : Below w.heap.size w (wr.setCell ⟨sb, q, none⟩ (.bool true)) := hB.setCell (p := ⟨sb, q, none⟩) hsb _
                go_wp2_with (first
                  | (go_at_call 52; refine (C _).mono ?_; rintro e w5 ⟨rfl, hw⟩; replace hw := hw.symm; subst hw))
                go_roundw
                case rel =>
                  refine ⟨j + 1, addL D y, ?_, by go_num, by omega, ?_, HNX, hO2, hB2⟩
                  · rw [HIN.out, List.length_append, Hdl.out]; go_num
                  · rw [HIN.out, List.length_append, Hdl.out]; simp; omega
                case measure => simp [intOf]; omega
            · obtain rfl : j = r := by omega
              have hkd : decide ((j : Int) < (j : Int)) = false := by simp
              have HMM := HMV2.out D HME.out
              rw [Hdl.out] at HMM
              by_cases hda : dl < A
              · have hdd : decide ((dl : Int) < (A : Int)) = true := decide_eq_true (by omega)
                have hmm := HMM.1 hda
                go_wp2
                go_ret
                refine ⟨⟨i - 1, ?_, by omega, fun t' k1 k2 => HMO.out t' k1 (by omega), fun _ => by rw [show i - 1 + 1 = i by omega]; exact hmm⟩, hB⟩
                have : ((i - 1 : Nat) : Int) = (i : Int) - 1 := by omega
                rw [this]; rfl
              · have hdd : decide ((dl : Int) < (A : Int)) = false := decide_eq_false (by omega)
                have hmm : Moves n G i := Classical.byContradiction fun h => hda (HMM.2 h)
                go_wp2
                go_roundw
                case rel =>
                  refine ⟨i + 1, by go_num, by omega, by omega, ?_, hB⟩
                  intro t' k1 k2
                  by_cases e : t' = i
                  · subst e; exact hmm
                  · exact HMO.out t' k1 (by omega)
                case measure => simp [intOf]; omega
    · obtain rfl : t = n + 1 := by omega
      have htd : decide (((n + 1 : Nat) : Int) ≤ n) = false := by simp; omega
      go_wp2
      go_ret
      exact ⟨⟨n, rfl, Nat.le_refl _, fun t' k1 k2 => HMO.out t' k1 (by omega), fun h => by omega⟩, hB⟩

end Go.Proofs.Ytnbkabggmomhlaa

/- The walk of the document's Lists, for two lists alike. -/
namespace Go.Proofs.Ytnbkabggmomhlaa
open Go.RowKit

set_option maxRecDepth 100000 in
set_option maxHeartbeats 8000000 in
theorem Lists_same (L : List (List Nat)) (v u : Value) (w : World) (hv : SlSl w v L) (hu : SlSl w u L) (hL : ∀ m ∈ L, m.length ≤ 7) (hr : L.length ≤ 7) :
    Calls Try.prog 24 #[v, u] w fun e w' => e = .returned (.bool true) ∧ Below w.heap.size w w' := by
  obtain ⟨r, Hr⟩ : ∃ r, Hid (L.length = r) := ⟨_, rfl⟩
  obtain ⟨a, cap, rfl, _⟩ := id hv
  obtain ⟨la, lc, rfl, _⟩ := id hu
  have HV : Hid (SlSl w (.slice a L.length cap) L) := hv
  have HU : Hid (SlSl w (.slice la L.length lc) L) := hu
  rw [Hr.out] at HU HV hr ⊢
  have HLS : Hid (∀ m ∈ L, m.length ≤ 7) := hL
  clear hv hu hL
  have hrr : ((r : Int) != (r : Int)) = false := by simp
  go_enter Try.func24, Try.ntmps24
  go_wp2
  go_loopw [5] (fun i wr => ∃ t : Nat, i = .int .i64 t ∧ t ≤ r ∧ Below w.heap.size w wr) (fun i _ => (r - intOf i).toNat)
  case atStart => exact ⟨0, rfl, by omega, Below.refl _ _⟩
  case round =>
    obtain ⟨t, rfl, ht, hB⟩ := hrel
    by_cases hlt : t < r
    · have hti : (t : Int) < r := by omega
      have ht0 : (0 : Int) ≤ (t : Int) := by omega
      have hdec : decide ((t : Int) < r) = true := by simp; omega
      obtain ⟨x, hx⟩ : ∃ x, L[t]? = some x := ⟨L[t]'(by have := Hr.out; omega), by simp⟩
      have hx7 := HLS.out x (List.mem_of_getElem? hx)
      obtain ⟨mb, mo, um, rfl, hmbw, hcm, hsm⟩ := HV.out.at hx
      obtain ⟨lb, lo, ux, rfl, hlbw, hcx, hsx⟩ := HU.out.at hx
      have hcx2 := (hB.cell (p := ⟨lb, lo + t, none⟩) hlbw).trans hcx
      have hcm2 := (hB.cell (p := ⟨mb, mo + t, none⟩) hmbw).trans hcm
      have HLM : Hid (mb < wr.heap.size ∧ lb < wr.heap.size) := ⟨Nat.lt_of_lt_of_le hmbw hB.size, Nat.lt_of_lt_of_le hlbw hB.size⟩
      have C := ints_any _ _ _ _ wr.drew (hsm.below hB.drew) (hsx.below hB.drew) (by rw [List.length_map]; unfold maxLen; omega) (by rw [List.length_map]; unfold maxLen; omega)
      obtain ⟨n, Hn⟩ : ∃ n, Hid (x.length = n) := ⟨_, rfl⟩
      obtain ⟨xa, xc, hxe⟩ : ∃ a c, ux = .slice a n c := by obtain ⟨a, c, e, _⟩ := hsx; exact ⟨a, c, by rw [e, List.length_map, Hn.out]⟩
      obtain ⟨ma, mc, hme⟩ : ∃ a c, um = .slice a n c := by obtain ⟨a, c, e, _⟩ := hsm; exact ⟨a, c, by rw [e, List.length_map, Hn.out]⟩
      subst hxe hme
      clear hx hx7 hcm hcx hsm hsx hmbw hlbw
      go_wp2_with fail
      refine wp_region_noPanic ?_
      refine wp_region_held_drew (S := fun w' => w'.cell? ⟨mb, mo + t, none⟩ = some (.slice ma n mc) ∧ w'.cell? ⟨lb, lo + t, none⟩ = some (.slice xa n xc)) (by kernel_rfl) (⟨hcm2, hcx2⟩) (fun hSx => ?_)
      refine wpAnyH_take (i := 0) (v := .slice (some ⟨mb, mo, none⟩) r cap) rfl (by kernel_rfl) (by kernel_rfl) (by kernel_rfl) (fun _ _ _ h => h) (Or.inl ⟨by rfl, fun w' hSw => by (try dsimp only at hSw); go_simp⟩) hSx ?_
      try simp only [Act.put, List.setIfInBounds_toArray]
      refine wpAnyH_take (i := 1) (v := .int .i64 (t : Int)) rfl (by kernel_rfl) (by kernel_rfl) (by kernel_rfl) (fun _ _ _ h => h) (Or.inl ⟨by rfl, fun w' hSw => by (try dsimp only at hSw); go_simp⟩) hSx ?_
      try simp only [Act.put]
      refine wpAnyH_take (i := 2) (v := .pointer (some ⟨mb, mo + t, none⟩)) rfl (by kernel_rfl) (by kernel_rfl) (by kernel_rfl) (fun _ _ _ h => h) (Or.inl ⟨by rfl, fun w' hSw => by (try dsimp only at hSw); go_simp⟩) hSx ?_
      try simp only [Act.put]
      refine wpAnyH_take (i := 3) (v := .slice ma n mc) rfl (by kernel_rfl) (by kernel_rfl) (by kernel_rfl) (fun _ _ _ h => h) (Or.inl ⟨by rfl, fun w' hSw => by (try dsimp only at hSw); go_simp⟩) hSx ?_
      try simp only [Act.put]
      refine wpAnyH_take (i := 4) (v := .slice (some ⟨lb, lo, none⟩) r lc) rfl (by kernel_rfl) (by kernel_rfl) (by kernel_rfl) (fun _ _ _ h => h) (Or.inl ⟨by rfl, fun w' hSw => by (try dsimp only at hSw); go_simp⟩) hSx ?_
      try simp only [Act.put]
      refine wpAnyH_take (i := 5) (v := .int .i64 (t : Int)) rfl (by kernel_rfl) (by kernel_rfl) (by kernel_rfl) (fun _ _ _ h => h) (Or.inl ⟨by rfl, fun w' hSw => by (try dsimp only at hSw); go_simp⟩) hSx ?_
      try simp only [Act.put]
      refine wpAnyH_take (i := 6) (v := .pointer (some ⟨lb, lo + t, none⟩)) rfl (by kernel_rfl) (by kernel_rfl) (by kernel_rfl) (fun _ _ _ h => h) (Or.inl ⟨by rfl, fun w' hSw => by (try dsimp only at hSw); go_simp⟩) hSx ?_
      try simp only [Act.put]
      refine wpAnyH_take (i := 7) (v := .slice xa n xc) rfl (by kernel_rfl) (by kernel_rfl) (by kernel_rfl) (fun _ _ _ h => h) (Or.inl ⟨by rfl, fun w' hSw => by (try dsimp only at hSw); go_simp⟩) hSx ?_
      try simp only [Act.put]
      refine wpAnyH_ready (rs := [8]) (by kernel_rfl) (by simp) ?_
      refine AllReadyH.cons rfl (fun J hJ => ?_) AllReadyH.nil
      go_simp
      refine (C).mono ?_
      rintro e w4 ⟨b, rfl, hb, b4⟩
      have hS4 : w4.cell? ⟨mb, mo + t, none⟩ = some (.slice ma n mc) ∧ w4.cell? ⟨lb, lo + t, none⟩ = some (.slice xa n xc) := ⟨(b4.cell (p := ⟨mb, mo + t, none⟩) HLM.out.1).trans hcm2, (b4.cell (p := ⟨lb, lo + t, none⟩) HLM.out.2).trans hcx2⟩
      go_wp2_with fail
      refine hJ.out _ _ hS4 (fun _ => ?_)
      clear hJ J
      try simp only [Act.put, List.setIfInBounds_toArray, List.set_cons_zero, List.set_cons_succ]
      refine wpAnyH_ready (rs := [9]) (by kernel_rfl) (by simp) ?_
      refine AllReadyH.cons rfl (fun J hJ => ?_) AllReadyH.nil
      go_simp
      refine hJ.out _ _ hS4 (fun _ => ?_)
      clear hJ J
      try simp only [Act.put, List.setIfInBounds_toArray, List.set_cons_zero, List.set_cons_succ]
      refine wpAnyH_done (by kernel_rfl) ?_ _
      refine NoPanic.normal ?_
      obtain rfl : b = true := hb.2 trivial
      have hB4 := Below.next hB.drew b4
      clear hSx hS4 hcx2 hcm2 C hb b4
      go_wp2
      go_roundw
      case rel => exact ⟨t + 1, by go_num, by omega, hB4⟩
      case measure => simp [intOf]; omega
    · obtain rfl : t = r := by omega
      have hkd : decide ((t : Int) < (t : Int)) = false := by simp
      go_wp2
      go_ret
      exact ⟨rfl, hB⟩

end Go.Proofs.Ytnbkabggmomhlaa

/- The walk of kept. -/
namespace Go.Proofs.Ytnbkabggmomhlaa
open Go.RowKit

/-- On the way, ahead of a pass: a cut that is none too coarse. -/
structure KpA (ms : List (List Nat)) (p q : Nat) (c : Nat → Nat) : Prop where
  cut : Cut c
  two : c p = c q
  fin : ∀ d, Keeps ms d → d p = d q → Fin1 c d
/-- In a pass: b the cut ahead of it. -/
structure KpP (ms : List (List Nat)) (p q : Nat) (b c : Nat → Nat) (j i : Nat) : Prop where
  a : KpA ms p q c
  le : ∀ x, c x ≤ b x
  low : ∀ t m, t < j → ms[t]? = some m → ∀ x, x < 7 → c (m.getD x 0) = c (m.getD (b x) 0)
  now : ∀ m, ms[j]? = some m → ∀ x, x < i → c (m.getD x 0) = c (m.getD (b x) 0)
theorem KpP.start {ms : List (List Nat)} {p q : Nat} {c : Nat → Nat} (h : KpA ms p q c) : KpP ms p q c c 0 0 := ⟨h, fun _ => Nat.le_refl _, fun t m h => by omega, fun m _ x h => by omega⟩
theorem KpP.next {ms : List (List Nat)} {p q : Nat} {b c : Nat → Nat} {j i : Nat} {m : List Nat} (hb : KpA ms p q b) (h : KpP ms p q b c j i) (hm : ms[j]? = some m) (hi : i < 7) (h1 : m.getD i 0 < 7) (h2 : m.getD (b i) 0 < 7) : KpP ms p q b (joinC c (m.getD i 0) (m.getD (b i) 0)) j (i + 1) := by
  refine ⟨⟨h.a.cut.join _ _, join_same h.a.two, fun d hd hpq => (h.a.fin d hd hpq).join h1 h2 ?_⟩, fun x => Nat.le_trans (joinC_le _ _ _ _) (h.le x), fun t m' ht hm' x hx => join_same (h.low t m' ht hm' x hx), fun m' hm' x hx => ?_⟩
  · have hbi : b i < 7 := Nat.lt_of_le_of_lt (hb.cut.le i) hi
    exact hd m (List.mem_of_getElem? hm) i (b i) hi hbi (hb.fin d hd hpq i (b i) hi hbi (hb.cut.fix i).symm)
  · obtain rfl : m = m' := by rw [hm] at hm'; simpa using hm'
    by_cases e : x = i
    · rw [e]; exact join_two c _ _
    · exact join_same (h.now m hm x (by omega))
theorem KpP.turn {ms : List (List Nat)} {p q : Nat} {b c : Nat → Nat} {j : Nat} (h : KpP ms p q b c j 7) : KpP ms p q b c (j + 1) 0 := by
  refine ⟨h.a, h.le, fun t m ht hm x hx => ?_, fun m _ x hx => by omega⟩
  by_cases e : t = j
  · subst e; exact h.now m hm x hx
  · exact h.low t m (by omega) hm x hx
theorem KpP.done {ms : List (List Nat)} {p q : Nat} {b c : Nat → Nat} (h : KpP ms p q b c ms.length 0) (e : ∀ x, x < 7 → c x = b x) : Finest ms p q c := by
  refine ⟨h.a.cut, fun m hm x y hx hy exy => ?_, h.a.two, h.a.fin⟩
  obtain ⟨t, ht, rfl⟩ := List.mem_iff_getElem.1 hm
  have k := h.low t _ ht (List.getElem?_eq_getElem ht)
  rw [k x hx, k y hy, ← e x hx, ← e y hy, exy]
def sum7 (c : Nat → Nat) : Nat := c 0 + c 1 + c 2 + c 3 + c 4 + c 5 + c 6
theorem sum7_lt {b c : Nat → Nat} (hle : ∀ x, c x ≤ b x) (hne : ¬ ∀ x, x < 7 → c x = b x) : sum7 c < sum7 b := by
  unfold sum7
  refine Nat.lt_of_not_le fun h => hne fun x hx => ?_
  have h0 := hle 0; have h1 := hle 1; have h2 := hle 2; have h3 := hle 3; have h4 := hle 4; have h5 := hle 5; have h6 := hle 6
  have : x = 0 ∨ x = 1 ∨ x = 2 ∨ x = 3 ∨ x = 4 ∨ x = 5 ∨ x = 6 := by omega
  rcases this with rfl | rfl | rfl | rfl | rfl | rfl | rfl <;> omega
/-- What is left to lower, as memory tells it. -/
noncomputable def leftC (g : Nat) (w : World) : Nat := open Classical in if h : ∃ c : Nat → Nat, MRow 69 w g (cr c) then sum7 (Classical.choose h) else 0
theorem leftC_eq {g : Nat} {w : World} {c : Nat → Nat} (h : MRow 69 w g (cr c)) : leftC g w = sum7 c := by
  have hex : ∃ c : Nat → Nat, MRow 69 w g (cr c) := ⟨c, h⟩
  unfold leftC
  rw [dif_pos hex]
  have h2 := Classical.choose_spec hex
  have h3 : mrow (cr c) = mrow (cr (Classical.choose hex)) := by
    have := Eq.trans (Eq.symm h) h2
    simpa using this
  have key : ∀ j, j < 7 → c j = Classical.choose hex j := fun j hj => Int.ofNat.inj (mrow_inj h3 hj)
  unfold sum7
  rw [key 0 (by omega), key 1 (by omega), key 2 (by omega), key 3 (by omega), key 4 (by omega), key 5 (by omega), key 6 (by omega)]

set_option maxRecDepth 100000 in
set_option maxHeartbeats 8000000 in
theorem kept_any (ms : List (List Nat)) (v : Value) (p q : Nat) (w : World) (hk : ms.length ≤ 4) (hv : Mvs w v ms) (hm : ∀ m ∈ ms, IsP 7 m) (hp : p < 7) (hq : q < 7) :
    Calls Try.prog 69 #[v, .int .i64 (p : Int), .int .i64 (q : Int)] w fun e w' => (∃ c : Nat → Nat, e = .returned (.agg (mrow (cr c))) ∧ Finest ms p q c) ∧ Below w.heap.size w w' := by
  obtain ⟨k, Hk⟩ : ∃ k, Hid (ms.length = k) := ⟨_, rfl⟩
  rw [Hk.out] at hk
  obtain ⟨a, cap, rfl, _⟩ := id hv
  have HV : Hid (Mvs w (.slice a ms.length cap) ms) := hv
  rw [Hk.out] at HV ⊢
  have HMS : Hid (∀ m ∈ ms, IsP 7 m) := hm
  clear hv hm
  have C := fun W => apart_any W
  have hk0 := MRow.made0 69 w
  have hB0 := balloc w (.cells #[.int .i64 0, .int .i64 0, .int .i64 0, .int .i64 0, .int .i64 0, .int .i64 0, .int .i64 0] 69)
  have HA0 : Hid (KpA ms p q (joinC (fun i => i) p q)) := ⟨cut_id.join p q, join_two _ p q, fun d _ e => (fin_id d).join hp hq e⟩
  have hc7 : Hid (∀ i : Nat, i < 7 → (fun i : Nat => i) i < 7) := fun i hi => hi
  obtain ⟨c0, Hc0⟩ : ∃ c0 : Nat → Nat, Hid ((fun i : Nat => i) = c0) := ⟨_, rfl⟩
  rw [Hc0.out] at C HA0 hc7
  have D := fun g W (h : MRow 69 W g (cr c0)) => join_any c0 p q g W h hp hq hc7.out
  go_enter Try.func69, Try.ntmps69
  go_wp2_with (first
    | (go_at_call 65; refine (C _).mono ?_; rintro e w1 ⟨rfl, b1⟩; have hk1 := hk0.below b1; have hsz1 := b1.size; replace b1 := Below.next hB0 b1; have hz := MRow.made0 69 w1)
    | (refine wpList_store_row rfl 69 _ _ rfl w1.heap.size _ rfl rfl 69 _ hz (inf69 _) (by simp) (mrow_one _) ?_; have hg0 := hz.whole (cr c0); have hk2 := (hk1.alloc (.cells #[.int .i64 0, .int .i64 0, .int .i64 0, .int .i64 0, .int .i64 0, .int .i64 0, .int .i64 0] 69)).wother (g' := w1.heap.size) (Nat.ne_of_lt hk1.lt) (mrow (cr c0)); have hB2 : Below w.heap.size w ((w1.alloc (.cells #[.int .i64 0, .int .i64 0, .int .i64 0, .int .i64 0, .int .i64 0, .int .i64 0, .int .i64 0] 69)).setRow w1.heap.size (mrow (cr c0))) := bsetRow (b1.alloc b1.size _) (by rw [World.size_alloc] at hsz1; omega) _)
    | (go_at_call 66; refine (D _ _ hg0).mono ?_; rintro e w2 ⟨rfl, hg1, ho1⟩))
  rw [World.size_alloc] at hsz1
  have hk3 := ho1.mrow hk2 (by omega)
  have hB3 := hB2.trans (ho1.below (by omega))
  clear hk0 hB0 C hk1 b1 hz D hg0 hk2 hB2 ho1 hc7
  obtain ⟨g, Hg⟩ : ∃ g, Hid (w1.heap.size = g) := ⟨_, rfl⟩
  rw [Hg.out] at hg1 hsz1 ⊢
  go_loopw [8] (fun _ wr => ∃ (c : Nat → Nat), MRow 69 wr w.heap.size (fun _ => 0) ∧ MRow 69 wr g (cr c) ∧ Hid (KpA ms p q c) ∧ Below w.heap.size w wr) (fun _ wr => leftC g wr)
  case atStart => exact ⟨_, hk3, hg1, HA0, hB3⟩
  case round =>
    clear hk3 hg1 HA0 hB3
    obtain ⟨b, hR, hG, HA, hB⟩ := hrel
    have hsz := hB.size
    have hgl := hG.lt
    have HL : Hid (leftC g wr = sum7 b) := leftC_eq hG
    have hz := MRow.made0 69 wr
    have hBA := balloc wr (.cells #[.int .i64 0, .int .i64 0, .int .i64 0, .int .i64 0, .int .i64 0, .int .i64 0, .int .i64 0] 69)
    have hR1 := (hR.alloc (.cells #[.int .i64 0, .int .i64 0, .int .i64 0, .int .i64 0, .int .i64 0, .int .i64 0, .int .i64 0] 69)).wother (g' := wr.heap.size) (by omega) (mrow (cr b))
    have hG1 := (hG.alloc (.cells #[.int .i64 0, .int .i64 0, .int .i64 0, .int .i64 0, .int .i64 0, .int .i64 0, .int .i64 0] 69)).wother (g' := wr.heap.size) (by omega) (mrow (cr b))
    have hP1 := hz.whole (cr b)
    have hB1 : Below w.heap.size w ((wr.alloc (.cells #[.int .i64 0, .int .i64 0, .int .i64 0, .int .i64 0, .int .i64 0, .int .i64 0, .int .i64 0] 69)).setRow wr.heap.size (mrow (cr b))) := bsetRow (hB.alloc hsz _) hsz _
    have hs1 : wr.heap.size < ((wr.alloc (.cells #[.int .i64 0, .int .i64 0, .int .i64 0, .int .i64 0, .int .i64 0, .int .i64 0, .int .i64 0] 69)).setRow wr.heap.size (mrow (cr b))).heap.size := by simp
    go_wp2_with (first
      | (refine wpList_load_row rfl 69 _ rfl g rfl 69 _ (0, 0) _ hG und69 rfl (inf69 _) ?_)
      | (refine wpList_store_row rfl 69 _ _ rfl wr.heap.size _ rfl rfl 69 _ hz (inf69 _) (by simp) (mrow_one _) ?_))
    obtain ⟨P, HP⟩ : ∃ P, Hid (wr.heap.size = P) := ⟨_, rfl⟩
    rw [HP.out] at hR1 hG1 hP1 hB1 hs1 hgl hsz ⊢
    clear hR hG hz hBA
    go_loopw [20] (fun i ws => ∃ (j : Nat) (c : Nat → Nat), i = .int .i64 j ∧ j ≤ k ∧ MRow 69 ws w.heap.size (fun _ => 0) ∧ MRow 69 ws g (cr c) ∧ MRow 69 ws P (cr b) ∧ P < ws.heap.size ∧ Hid (KpP ms p q b c j 0) ∧ Below w.heap.size w ws) (fun i _ => (k - intOf i).toNat)
    case atStart => exact ⟨0, b, rfl, by omega, hR1, hG1, hP1, hs1, KpP.start HA.out, hB1⟩
    case round =>
      clear hR1 hG1 hP1 hs1 hB1 hB
      obtain ⟨j, c, rfl, hj, hR, hG, hP, hPl, HO, hB⟩ := hrel
      by_cases hlt : j < k
      · have hji : (j : Int) < k := by omega
        have hdec : decide ((j : Int) < k) = true := by simp; omega
        obtain ⟨m, hmj⟩ : ∃ m, ms[j]? = some m := ⟨ms[j]'(by have := Hk.out; omega), by simp⟩
        have hmP := HMS.out m (List.mem_of_getElem? hmj)
        obtain ⟨bb, off, rfl, hbw, hrM⟩ := HV.out.at hmj
        replace hrM := range_below hrM hB hbw
        have hsz2 := hB.size
        have hinM : (Try.prog.info? 62).map (·.size) = some (mvL (m)).length := inf62L _
        have hlM : (mvL (m)).length = 7 := mvL_len _
        have h1M : ∀ u ∈ mvL (m), u.oneCell' = true := mvL_one _
        obtain ⟨M, HM⟩ : ∃ M, Hid (mvL (m) = M) := ⟨_, rfl⟩
        rw [HM.out] at hinM hrM hlM h1M
        have honeM := all_oneCell_toArray h1M
        have hinM' : (Try.prog.info? 62).map (·.size) = some M.toArray.size := by simpa using hinM
        have hthM : (wr.alloc (.cells #[.int .i64 0, .int .i64 0, .int .i64 0, .int .i64 0, .int .i64 0, .int .i64 0, .int .i64 0] 62)).there wr.heap.size 0 M.toArray.size := by
          intro q hq
          rw [Nat.zero_add, cell_of_row _ _ q _ _ _ (heap_alloc_new wr _), frozen_of_row _ _ q _ _ (heap_alloc_new wr _)]
          have hq7 : q < 7 := by simpa [hlM] using hq
          exact ⟨by simp [hq7], rfl⟩
        have hBM : Below wr.heap.size wr ((wr.alloc (.cells #[.int .i64 0, .int .i64 0, .int .i64 0, .int .i64 0, .int .i64 0, .int .i64 0, .int .i64 0] 62)).setCells wr.heap.size 0 M) := (balloc wr (.cells #[.int .i64 0, .int .i64 0, .int .i64 0, .int .i64 0, .int .i64 0, .int .i64 0, .int .i64 0] 62)).trans (bsets (Nat.le_refl _) _ _ _)
        have hrM2 : ((wr.alloc (.cells #[.int .i64 0, .int .i64 0, .int .i64 0, .int .i64 0, .int .i64 0, .int .i64 0, .int .i64 0] 62)).setCells wr.heap.size 0 M).rangeAt wr.heap.size 0 M := World.rangeAt_setCells_same _ _ _ _ (by simpa using hthM)
        have hsM : wr.heap.size < ((wr.alloc (.cells #[.int .i64 0, .int .i64 0, .int .i64 0, .int .i64 0, .int .i64 0, .int .i64 0, .int .i64 0] 62)).setCells wr.heap.size 0 M).heap.size := by rw [sets_size, World.size_alloc]; omega
        obtain ⟨W, HW⟩ : ∃ W, Hid ((wr.alloc (.cells #[.int .i64 0, .int .i64 0, .int .i64 0, .int .i64 0, .int .i64 0, .int .i64 0, .int .i64 0] 62)).setCells wr.heap.size 0 M = W) := ⟨_, rfl⟩
        rw [HW.out] at hBM hrM2 hsM
        clear h1M
        have hB3 := Below.next hB hBM
        have hR3 := hR.below hBM
        have hG3 := hG.below hBM
        have hP3 := hP.below hBM
        have HMJ : Hid (ms[j]? = some m ∧ IsP 7 m) := ⟨hmj, hmP⟩
        clear hmj hmP
        go_wp2_with (first
          | (refine wpList_load_mid rfl 62 _ rfl bb (off + j * 7) rfl M _ hrM und62 rfl hinM ?_)
          | (refine wpList_store_mid rfl 62 _ _ rfl wr.heap.size 0 M.toArray rfl rfl hthM hinM' honeM ?_; rw [show M.toArray.toList = M from rfl, HW.out])
          | (refine wpList_load_row rfl 69 _ rfl P rfl 69 _ (0, 0) _ hP3 und69 rfl (inf69 _) ?_))
        obtain ⟨X, HX⟩ : ∃ X, Hid (wr.heap.size = X) := ⟨_, rfl⟩
        rw [HX.out] at hrM2 hsM hPl ⊢
        go_loopw [25] (fun i ws => ∃ (t : Nat) (c : Nat → Nat), i = .int .i64 t ∧ t ≤ 7 ∧ MRow 69 ws w.heap.size (fun _ => 0) ∧ MRow 69 ws g (cr c) ∧ MRow 69 ws P (cr b) ∧ X < ws.heap.size ∧ Hid (ws.rangeAt X 0 M) ∧ Hid (KpP ms p q b c j t) ∧ Below w.heap.size w ws) (fun i _ => (7 - intOf i).toNat)
        case atStart => exact ⟨0, c, rfl, by omega, hR3, hG3, hP3, hsM, hrM2, HO, hB3⟩
        case round =>
          have hjk : j < k := hlt
          clear hR3 hG3 hB3 hP3 hR hG hP hB hrM hBM hrM2 hsM hthM hlt hji hdec HO HX hsz2
          obtain ⟨t, c, rfl, ht, hR, hG, hP, hXl, HRM, HO, hB⟩ := hrel
          by_cases hlt : t < 7
          · have hti : (t : Int) < 7 := by omega
            have ht0 : (0 : Int) ≤ (t : Int) := by omega
            have hdec : decide ((t : Int) < 7) = true := by simp; omega
            have hix := idx69 (cr b) t hlt
            have hbl := HA.out.cut.lt7 t hlt
            have hm1 := HMJ.out.2.at hlt
            have hm2 := HMJ.out.2.at hbl
            have hc1 := HRM.out t (.int .i64 (m.getD t 0 : Int)) (by rw [← HM.out]; unfold mvL; rw [List.getElem?_map, List.getElem?_range hlt]; rfl)
            have hc2 := HRM.out (b t) (.int .i64 (m.getD (b t) 0 : Int)) (by rw [← HM.out]; unfold mvL; rw [List.getElem?_map, List.getElem?_range hbl]; rfl)
            rw [Nat.zero_add] at hc1 hc2
            have HNX : Hid (KpP ms p q b (joinC c (m.getD t 0) (m.getD (b t) 0)) j (t + 1)) := HO.out.next HA.out HMJ.out.1 hlt hm1 hm2
            obtain ⟨bt, Hbt⟩ : ∃ bt, Hid (b t = bt) := ⟨_, rfl⟩
            rw [Hbt.out] at hbl hm2 hc2 HNX
            rw [show cr b t = (bt : Int) by unfold cr; rw [Hbt.out]] at hix
            obtain ⟨y1, Hy1⟩ : ∃ y, Hid (m.getD t 0 = y) := ⟨_, rfl⟩
            obtain ⟨y2, Hy2⟩ : ∃ y, Hid (m.getD bt 0 = y) := ⟨_, rfl⟩
            rw [Hy1.out] at hc1 hm1 HNX
            rw [Hy2.out] at hc2 hm2 HNX
            have hbi : (bt : Int) < 7 := by omega
            have hb0 : (0 : Int) ≤ (bt : Int) := by omega
            have D := fun W (h : MRow 69 W g (cr c)) => join_any c y1 y2 g W h hm1 hm2 HO.out.a.cut.lt7
            have HRM2 : Hid (∀ W, Only g wr.drew W → W.rangeAt X 0 M) := fun W h => h.range (by exact HRM.out) (by omega)
            have hSS : Hid (∀ W, Only g wr.drew W → W.cell? ⟨X, t, none⟩ = some (.int .i64 (y1 : Int)) ∧ W.cell? ⟨X, bt, none⟩ = some (.int .i64 (y2 : Int))) := fun W h => ⟨(World.cell?_of_block (w := wr.drew) (a := ⟨X, t, none⟩) (h.2.2 X (by omega))).trans hc1, (World.cell?_of_block (w := wr.drew) (a := ⟨X, bt, none⟩) (h.2.2 X (by omega))).trans hc2⟩
            clear HRM
            go_wp2_with fail
            refine wp_region_noPanic ?_
            refine wp_region_held_drew (S := Only g wr.drew) (by kernel_rfl) (Only.refl _ _) (fun hSx => ?_)
            refine wpAnyH_take (i := 0) (v := .int .i64 (t : Int)) rfl (by kernel_rfl) (by kernel_rfl) (by kernel_rfl) (fun _ _ _ h => h) (Or.inl ⟨by rfl, fun w' hSw => by have h1 := (hSS.out w' hSw).1; have h2 := (hSS.out w' hSw).2; go_simp⟩) hSx ?_
            try simp only [Act.put, List.setIfInBounds_toArray]
            refine wpAnyH_take (i := 1) (v := .pointer (some ⟨X, t, none⟩)) rfl (by kernel_rfl) (by kernel_rfl) (by kernel_rfl) (fun _ _ _ h => h) (Or.inl ⟨by rfl, fun w' hSw => by have h1 := (hSS.out w' hSw).1; have h2 := (hSS.out w' hSw).2; go_simp⟩) hSx ?_
            try simp only [Act.put]
            refine wpAnyH_take (i := 2) (v := .int .i64 (y1 : Int)) rfl (by kernel_rfl) (by kernel_rfl) (by kernel_rfl) (fun _ _ _ h => h) (Or.inl ⟨by rfl, fun w' hSw => by have h1 := (hSS.out w' hSw).1; have h2 := (hSS.out w' hSw).2; go_simp⟩) hSx ?_
            try simp only [Act.put]
            refine wpAnyH_take (i := 3) (v := .int .i64 (bt : Int)) rfl (by kernel_rfl) (by kernel_rfl) (by kernel_rfl) (fun _ _ _ h => h) (Or.inl ⟨by rfl, fun w' hSw => by have h1 := (hSS.out w' hSw).1; have h2 := (hSS.out w' hSw).2; go_simp⟩) hSx ?_
            try simp only [Act.put]
            refine wpAnyH_take (i := 4) (v := .pointer (some ⟨X, bt, none⟩)) rfl (by kernel_rfl) (by kernel_rfl) (by kernel_rfl) (fun _ _ _ h => h) (Or.inl ⟨by rfl, fun w' hSw => by have h1 := (hSS.out w' hSw).1; have h2 := (hSS.out w' hSw).2; go_simp⟩) hSx ?_
            try simp only [Act.put]
            refine wpAnyH_take (i := 5) (v := .int .i64 (y2 : Int)) rfl (by kernel_rfl) (by kernel_rfl) (by kernel_rfl) (fun _ _ _ h => h) (Or.inl ⟨by rfl, fun w' hSw => by have h1 := (hSS.out w' hSw).1; have h2 := (hSS.out w' hSw).2; go_simp⟩) hSx ?_
            try simp only [Act.put]
            refine wpAnyH_ready (rs := [6]) (by kernel_rfl) (by simp) ?_
            refine AllReadyH.cons rfl (fun J hJ => ?_) AllReadyH.nil
            go_simp
            refine (D wr.drew hG).mono ?_
            rintro e w3 ⟨rfl, hG4, ho4⟩
            go_wp2_with fail
            refine hJ.out _ _ ho4 (fun _ => ?_)
            clear hJ J
            try simp only [Act.put, List.setIfInBounds_toArray, List.set_cons_zero, List.set_cons_succ]
            refine wpAnyH_done (by kernel_rfl) ?_ _
            refine NoPanic.normal ?_
            go_wp2_with fail
            go_roundw
            case rel => exact ⟨t + 1, _, by go_num, by omega, ho4.mrow (w := wr.drew) hR (by omega), hG4, ho4.mrow (w := wr.drew) hP (by omega), by rw [ho4.2.1]; exact hXl, HRM2.out _ ho4, HNX, hB.drew.trans (ho4.below (by omega))⟩
            case measure => simp [intOf]; omega
          · obtain rfl : t = 7 := by omega
            go_wp2
            go_roundw
            case rel => exact ⟨j + 1, c, by go_num, by omega, hR, hG, hP, by omega, HO.out.turn, hB⟩
            case measure => simp [intOf]; omega
      · obtain rfl : j = k := by omega
        have hkd : decide ((j : Int) < (j : Int)) = false := by simp
        obtain ⟨r, hr, hre⟩ := eq_ever (eq69 (cr c) (cr b) (fun j hj => ⟨by unfold cr; omega, by have := HO.out.a.cut.lt7 j hj; unfold cr; omega⟩) (fun j hj => ⟨by unfold cr; omega, by have := HA.out.cut.lt7 j hj; unfold cr; omega⟩))
        have HRE : Hid (r = true ↔ ∀ x, x < 7 → c x = b x) := by
          rw [hre]; unfold cr; exact ⟨fun h x hx => Int.ofNat.inj (h x hx), fun h x hx => by rw [h x hx]⟩
        clear hre
        cases r with
        | true =>
          go_wp2_with (first
            | (refine wpList_load_row rfl 69 _ rfl g rfl 69 _ (0, 0) _ hG und69 rfl (inf69 _) ?_)
            | (refine wpList_load_row rfl 69 _ rfl P rfl 69 _ (0, 0) _ hP und69 rfl (inf69 _) ?_)
            | (refine wpList_store_row rfl 69 _ _ rfl w.heap.size _ rfl rfl 69 _ hR (inf69 _) (by simp) (mrow_one _) ?_))
          refine post_mrow und69 inf69 6 rfl rfl (hR.whole _) rfl ⟨⟨c, rfl, ?_⟩, bsetRow hB (Nat.le_refl _) _⟩
          have h := HO.out
          rw [← Hk.out] at h
          exact h.done (HRE.out.1 (by trivial))
        | false =>
          go_wp2_with (first
            | (refine wpList_load_row rfl 69 _ rfl g rfl 69 _ (0, 0) _ hG und69 rfl (inf69 _) ?_)
            | (refine wpList_load_row rfl 69 _ rfl P rfl 69 _ (0, 0) _ hP und69 rfl (inf69 _) ?_))
          go_roundw
          case rel => exact ⟨c, hR, hG, HO.out.a, hB⟩
          case measure =>
            rw [HL.out, leftC_eq hG]
            exact sum7_lt HO.out.le (fun h => absurd (HRE.out.2 h) Bool.false_ne_true)

end Go.Proofs.Ytnbkabggmomhlaa

/- The walks of primitive, Primitive. -/
namespace Go.Proofs.Ytnbkabggmomhlaa
open Go.RowKit Go.Maps

theorem prim_whole {n p : Nat} {ms : List (List Nat)} {c : Nat → Nat} (hn : n ≤ 7) (h : Prim n ms) (hp1 : 1 ≤ p) (hpn : p < n) (F : Finest (ms.map (ext n)) 0 p c) : ∀ i, i < n → c i = 0 := by
  intro i hi
  have hk : keptB ms n c := by
    intro m hm' x y hx hy e
    have := F.keeps (ext n m) (List.mem_map.2 ⟨m, hm', rfl⟩) x y (by omega) (by omega) e
    rwa [ext_lo hn m hx, ext_lo hn m hy] at this
  have h3 := h.2.2 c hk ⟨0, p, by omega, hpn, by omega, F.two⟩ i 0 hi (by omega)
  have h4 := F.cut.le 0
  omega
theorem whole_prim {n : Nat} {ms : List (List Nat)} (hn : n ≤ 7) (h2 : 2 ≤ n) (hm : ∀ m ∈ ms, IsP n m) (ho : ∀ x, x < n → Orb (Gen n ms) 0 x) (h : ∀ p, 1 ≤ p → p < n → ∃ c, Finest (ms.map (ext n)) 0 p c ∧ ∀ i, i < n → c i = 0) : Prim n ms := by
  have h' : ∀ p, ∃ c, 1 ≤ p → p < n → Finest (ms.map (ext n)) 0 p c ∧ ∀ i, i < n → c i = 0 := fun p => by
    by_cases hp : 1 ≤ p ∧ p < n
    · obtain ⟨c, hc⟩ := h p hp.1 hp.2
      exact ⟨c, fun _ _ => hc⟩
    · exact ⟨fun i => i, fun h1 h2 => absurd ⟨h1, h2⟩ hp⟩
  obtain ⟨C, hC⟩ := Classical.axiomOfChoice h'
  exact (prim_of_finest hn h2 hm ho (fun p h1 h2 => (hC p h1 h2).1)).2 fun p h1 h2 => (hC p h1 h2).2
theorem orbC_whole {n : Nat} {ms : List (List Nat)} {c : Nat → Nat} (hn : n ≤ 7) (h1 : 1 ≤ n) (hm : ∀ m ∈ ms, IsP n m) (h : OrbC (ms.map (ext n)) c) : (∀ i, i < n → c i = 0) ↔ ∀ x, x < n → Orb (Gen n ms) 0 x := by
  have h0 : c 0 = 0 := by have := h.cut.le 0; omega
  constructor
  · intro k x hx
    exact (h.orb hn hm (by omega) hx).1 (by rw [h0, k x hx])
  · intro k x hx
    rw [← (h.orb hn hm (by omega) hx).2 (k x hx), h0]

set_option maxRecDepth 100000 in
set_option maxHeartbeats 4000000 in
theorem primitive_any (n : Nat) (ms : List (List Nat)) (v : Value) (w : World) (hn : n ≤ 7) (h1 : 1 ≤ n) (hk : ms.length ≤ 4) (hv : Mvs w v (ms.map (ext n))) (hm : ∀ m ∈ ms, IsP n m) :
    Calls Try.prog 50 #[.int .i64 (n : Int), v] w fun e w' => (∃ b : Bool, e = .returned (.bool b) ∧ (b = true ↔ Prim n ms)) ∧ Below w.heap.size w w' := by
  have h7 : ∀ m ∈ ms.map (ext n), IsP 7 m := fun m hm' => by
    obtain ⟨a, ha, rfl⟩ := List.mem_map.1 hm'
    exact ext_isP (hm a ha) hn
  have hl : (ms.map (ext n)).length ≤ 4 := by rw [List.length_map]; exact hk
  have C1 := orbits_any _ v w hl hv h7
  have C2 := fun (c : Nat → Nat) W => whole_any c n W hn
  have C3 := fun (p : Nat) (hp : p < 7) W (h : Below w.heap.size w W) => kept_any _ v 0 p W hl (hv.below h) h7 (by omega) hp
  have HM : Hid (∀ m ∈ ms, IsP n m) := hm
  obtain ⟨a, cap, hve⟩ := hv.form
  obtain ⟨k, Hk⟩ : ∃ k, Hid ((ms.map (ext n)).length = k) := ⟨_, rfl⟩
  rw [Hk.out] at hve
  subst hve
  clear hv hm h7 hl
  by_cases h2 : n < 2
  · have hd : decide ((n : Int) < 2) = true := by simp; omega
    go_enter Try.func50, Try.ntmps50
    go_wp2
    go_ret
    exact ⟨⟨false, rfl, fun h => absurd h Bool.false_ne_true, fun h => absurd h.1 (by omega)⟩, Below.refl _ _⟩
  have hd : decide ((n : Int) < 2) = false := by simp; omega
  by_cases ho : ∀ x, x < n → Orb (Gen n ms) 0 x
  · have HO : Hid (∀ x, x < n → Orb (Gen n ms) 0 x) := ho
    have C2o := fun (c : Nat → Nat) (hc : OrbC (ms.map (ext n)) c) W => (C2 c W).mono (R' := fun e w' => e = .returned (.bool true) ∧ Below W.heap.size W w') (fun e w' ⟨⟨b, h1', h2'⟩, h3'⟩ => ⟨by rw [h1', h2'.2 ((orbC_whole hn h1 HM.out hc).2 HO.out)], h3'⟩)
    clear ho
    go_enter Try.func50, Try.ntmps50
    go_wp2_with (first
      | (go_at_call 47; refine C1.mono ?_; rintro e w1 ⟨⟨c, rfl, hc⟩, b1⟩)
      | (go_at_call 68; refine (C2o c hc _).mono ?_; rintro e w2 ⟨rfl, b2⟩; replace b2 := Below.next b1 b2))
    clear C2o hc C1
    go_loopw [5] (fun i wr => ∃ p : Nat, i = .int .i64 p ∧ 1 ≤ p ∧ p ≤ n ∧ Hid (∀ t, 1 ≤ t → t < p → ∃ c, Finest (ms.map (ext n)) 0 t c ∧ ∀ i, i < n → c i = 0) ∧ Below w.heap.size w wr) (fun i _ => (n - intOf i).toNat)
    case atStart => exact ⟨1, rfl, by omega, by omega, (fun t h1 h2 => by omega : ∀ t, 1 ≤ t → t < 1 → _), b2⟩
    case round =>
      clear b1 b2
      obtain ⟨p, rfl, hp1, hp, HA, hB⟩ := hrel
      by_cases hlt : p < n
      · have hpi : (p : Int) < n := by omega
        have hdec : decide ((p : Int) < n) = true := by simp; omega
        have D := C3 p (by omega) _ hB
        refine Classical.byCases (p := ∃ c, Finest (ms.map (ext n)) 0 p c ∧ ∀ i, i < n → c i = 0) (fun hex => ?_) (fun hex => ?_)
        · -- all finest cuts are one
          have E := fun (c : Nat → Nat) (hc : Finest (ms.map (ext n)) 0 p c) W => (C2 c W).mono (R' := fun e w' => (∃ b : Bool, e = .returned (.bool b) ∧ (b = true ↔ ∀ i, i < n → c i = 0)) ∧ Below W.heap.size W w') (fun e w' h => h)
          have HW : Hid (∀ c, Finest (ms.map (ext n)) 0 p c → ∀ i, i < n → c i = 0) := fun c hc i hi => by
            obtain ⟨d, hd, hz⟩ := hex
            have h3 := hd.fin c hc.keeps hc.two i 0 (by omega) (by omega) (by rw [hz i hi, hz 0 (by omega)])
            have h4 := hc.cut.le 0
            omega
          have E' := fun (c : Nat → Nat) (hc : Finest (ms.map (ext n)) 0 p c) W => (C2 c W).mono (R' := fun e w' => e = .returned (.bool true) ∧ Below W.heap.size W w') (fun e w' ⟨⟨b, h1', h2'⟩, h3'⟩ => ⟨by rw [h1', h2'.2 (HW.out c hc)], h3'⟩)
          clear E hex
          go_wp2_with (first
            | (go_at_call 69; refine D.mono ?_; rintro e w1 ⟨⟨c, rfl, hc⟩, b1⟩; replace b1 := Below.next hB b1)
            | (go_at_call 68; refine (E' c hc _).mono ?_; rintro e w2 ⟨rfl, b2⟩; replace b2 := Below.next b1 b2))
          go_roundw
          case rel =>
            refine ⟨p + 1, by go_num, by omega, by omega, (fun t h1 h2 => ?_ : ∀ t, 1 ≤ t → t < p + 1 → _), b2⟩
            by_cases e : t = p
            · rw [e]; exact ⟨c, hc, HW.out c hc⟩
            · exact HA.out t h1 (by omega)
          case measure => simp [intOf]; omega
        · have HEX : Hid (¬ ∃ c, Finest (ms.map (ext n)) 0 p c ∧ ∀ i, i < n → c i = 0) := hex
          have E' := fun (c : Nat → Nat) (hc : Finest (ms.map (ext n)) 0 p c) W => (C2 c W).mono (R' := fun e w' => e = .returned (.bool false) ∧ Below W.heap.size W w') (fun e w' ⟨⟨b, h1', h2'⟩, h3'⟩ => ⟨by
            cases b with
            | false => exact h1'
            | true => exact absurd ⟨c, hc, h2'.1 rfl⟩ HEX.out, h3'⟩)
          clear hex
          go_wp2_with (first
            | (go_at_call 69; refine D.mono ?_; rintro e w1 ⟨⟨c, rfl, hc⟩, b1⟩; replace b1 := Below.next hB b1)
            | (go_at_call 68; refine (E' c hc _).mono ?_; rintro e w2 ⟨rfl, b2⟩; replace b2 := Below.next b1 b2))
          go_ret
          exact ⟨⟨false, rfl, fun h => absurd h Bool.false_ne_true, fun h => absurd ⟨c, hc, prim_whole hn h hp1 hlt hc⟩ HEX.out⟩, b2⟩
      · obtain rfl : p = n := by omega
        have hkd : decide ((p : Int) < (p : Int)) = false := by simp
        go_wp2
        go_ret
        exact ⟨⟨true, rfl, fun _ => whole_prim hn (by omega) HM.out HO.out HA.out, fun _ => rfl⟩, hB⟩
  · have HO : Hid (¬ ∀ x, x < n → Orb (Gen n ms) 0 x) := ho
    have C2o := fun (c : Nat → Nat) (hc : OrbC (ms.map (ext n)) c) W => (C2 c W).mono (R' := fun e w' => e = .returned (.bool false) ∧ Below W.heap.size W w') (fun e w' ⟨⟨b, h1', h2'⟩, h3'⟩ => ⟨by
      cases b with
      | false => exact h1'
      | true => exact absurd ((orbC_whole hn h1 HM.out hc).1 (h2'.1 rfl)) HO.out, h3'⟩)
    clear ho
    go_enter Try.func50, Try.ntmps50
    go_wp2_with (first
      | (go_at_call 47; refine C1.mono ?_; rintro e w1 ⟨⟨c, rfl, hc⟩, b1⟩)
      | (go_at_call 68; refine (C2o c hc _).mono ?_; rintro e w2 ⟨rfl, b2⟩; replace b2 := Below.next b1 b2))
    go_ret
    exact ⟨⟨false, rfl, fun h => absurd h Bool.false_ne_true, fun h => absurd h.2.1 HO.out⟩, b2⟩

set_option maxRecDepth 100000 in
set_option maxHeartbeats 1000000 in
theorem Primitive_ok (n : Nat) (ms : List (List Nat)) (v : Value) (w : World) (h : Mk n ms v w) :
    Calls Try.prog 21 #[.int .i64 (n : Int), v] w fun e w' => (∃ b : Bool, e = .returned (.tuple #[.bool b, .int .i64 0]) ∧ (b = true ↔ Prim n ms)) ∧ Below w.heap.size w w' := by
  have C1 := h.check
  have C2 := fun W (hb : Below w.heap.size w W) => (h.below hb).moves
  have C3 := fun x W (hx : Mvs W x (ms.map (ext n))) => primitive_any n ms x W h.n7 h.n1 h.len hx h.isP
  clear h
  go_enter Try.func21, Try.ntmps21
  go_wp2_with (first
    | (go_at_call 10; refine C1.mono ?_; rintro e w1 ⟨rfl, b1⟩)
    | (go_at_call 38; refine (C2 _ b1).mono ?_; rintro e w2 ⟨⟨x, rfl, hx⟩, b2⟩; replace b2 := Below.next b1 b2)
    | (go_at_call 50; refine (C3 _ _ hx).mono ?_; rintro e w3 ⟨⟨B, rfl, HB⟩, b3⟩; replace b3 := Below.next b2 b3))
  exact bodyPost_ret (v := .tuple #[.bool B, .int .i64 0]) (by simp [results, Try.results21, go_sem]) rfl ⟨⟨B, rfl, HB⟩, b3⟩

end Go.Proofs.Ytnbkabggmomhlaa

/- The law GroupPoints, walked. -/
namespace Go.Proofs.Ytnbkabggmomhlaa
open Go.RowKit

set_option maxRecDepth 100000 in
set_option maxHeartbeats 8000000 in
theorem law4_bad (n : Int) (ls : List (List Int)) (v : Value) (w : World) (hv : Came ls v w) (h0 : gF n ls ≠ 0) :
    Calls Try.prog 4 #[.int .i64 n, v] w fun e w' => e = .returned (.bool true) ∧ Below w.heap.size w w' := by
  obtain ⟨z, Hz⟩ : ∃ z, Hid (gF n ls = z) := ⟨_, rfl⟩
  have hz : z ≠ 0 := by rw [← Hz.out]; exact h0
  have C9 := GroupFault_any n ls v w hv.sls hv.each hv.len
  have C19 := fun W (h : Below w.heap.size w W) => Orbits_bad n ls v W (hv.below h).sls hv.each hv.len z Hz.out hz
  have C20 := fun W (h : Below w.heap.size w W) => Deep_bad n ls v W (hv.below h).sls hv.each hv.len z Hz.out hz
  have C21 := fun W (h : Below w.heap.size w W) => Primitive_bad n ls v W (hv.below h).sls hv.each hv.len z Hz.out hz
  have C22 := fun W (h : Below w.heap.size w W) => Fixed_bad n ls v W (hv.below h).sls hv.each hv.len z Hz.out hz
  rw [Hz.out] at C9
  have hzd : (z != 0) = true := by simpa using hz
  obtain ⟨a, cap, rfl, _⟩ := hv.sls
  clear hv h0 hz
  go_enter Try.func4, Try.ntmps4
  go_wp2_with (first
    | (go_at_call 9; refine C9.mono ?_; rintro e w1 ⟨rfl, b1⟩)
    | (go_at_call 19; refine (C19 _ b1).mono ?_; rintro e w2 ⟨rfl, b2⟩; replace b2 := Below.next b1 b2)
    | (go_at_call 20; refine (C20 _ b2).mono ?_; rintro e w3 ⟨rfl, b3⟩; replace b3 := Below.next b2 b3)
    | (go_at_call 21; refine (C21 _ b3).mono ?_; rintro e w4 ⟨rfl, b4⟩; replace b4 := Below.next b3 b4)
    | (go_at_call 22; refine (C22 _ b4).mono ?_; rintro e w5 ⟨rfl, b5⟩; replace b5 := Below.next b4 b5))
  go_ret
  exact ⟨rfl, b5⟩

set_option maxRecDepth 100000 in
set_option maxHeartbeats 8000000 in
theorem law4_ok (n : Nat) (ms : List (List Nat)) (v : Value) (w : World) (hM : Mk n ms v w) :
    Calls Try.prog 4 #[.int .i64 (n : Int), v] w fun e w' => e = .returned (.bool true) ∧ Below w.heap.size w w' := by
  have hG := gen_grp hM.isP
  have C9 := GroupFault_any n _ v w hM.sl.sls (hM.each) (hM.lenI)
  rw [gF_isP hM.n1 hM.n7 hM.len hM.isP] at C9
  have C19 := fun W (h : Below w.heap.size w W) => Orbits_ok n ms v W (hM.below h)
  have C20 := fun W (h : Below w.heap.size w W) => Deep_ok n ms v W (hM.below h)
  have C21 := fun W (h : Below w.heap.size w W) => Primitive_ok n ms v W (hM.below h)
  have C22 := fun W (h : Below w.heap.size w W) => Fixed_ok n ms v W (hM.below h)
  have C14 := fun W (h : Below w.heap.size w W) => Members_any n ms v W hM.n7 hM.n1 (by have := hM.len; omega) (hM.below h).sl hM.isP
  have C15 := fun g L W (h : OwnB W g (fac n) (inB n L)) => ListOf_cap n g (inB n L) W hM.n7 hM.n1 h
  have E1 : Hid (∀ L : List (List Nat), (∀ a, a ∈ L ↔ Gen n ms a) → listF n (inB n L) (fac n) = els n (Gen n ms)) := fun L hg => listed hg
  have HOL : Hid ((els n (Gen n ms)).length = ordG n ms) := rfl
  have hob : ordG n ms ≤ 5040 := ord_le' hM.isP hM.n7
  have HEP : ∀ m ∈ els n (Gen n ms), IsP n m := fun m hm => (mem_els.1 hm).1
  have HEG : ∀ a, a ∈ els n (Gen n ms) ↔ Gen n ms a := fun a => hG.mem
  have C23 := fun u W (hu : SlSl W u (els n (Gen n ms))) => OrbitsOf_any n (els n (Gen n ms)) (Gen n ms) u W hM.n7 hM.n1 hu hG HEG hob
  have C24 := fun a b W (h1 : SlSl W a (orbs n ms)) (h2 : SlSl W b (orbs n ms)) => Lists_same (orbs n ms) a b W h1 h2 (fun m hm => by
    obtain ⟨x, hx, rfl⟩ := List.mem_map.1 hm
    refine Nat.le_trans (List.length_filter_le _ _) ?_
    rw [List.length_range]; exact hM.n7) (by
    unfold orbs
    rw [List.length_map]
    exact Nat.le_trans (reps_len n _) hM.n7)
  have C25 := fun u W (hu : SlSl W u (els n (Gen n ms))) (hc : Caps W u (els n (Gen n ms))) => DeepOf_any n (els n (Gen n ms)) (Gen n ms) u W hM.n7 hM.n1 hu hc hG HEG hob
  have C26 := fun u W (h : Below w.heap.size w W) (hu : SlSl W u (els n (Gen n ms))) => PrimitiveOf_any n ms (els n (Gen n ms)) v u W hM.n7 hM.n1 hM.len (hM.below h).sl hM.isP hu HEG hob
  have C27 := fun u W (hu : SlSl W u (els n (Gen n ms))) => FixedOf_any n (els n (Gen n ms)) u W hM.n7 hM.n1 hu HEP hob
  have C16 := fun a b W (h1 : Sl W a ((List.range (n + 1)).map fun k => (fixG n ms k : Int))) (h2 : Sl W b ((List.range (n + 1)).map fun k => (fixG n ms k : Int))) => ints_any _ _ a b W h1 h2 (by have := hM.n7; simp; unfold maxLen; omega) (by have := hM.n7; simp; unfold maxLen; omega)
  have HDD : Hid (∀ d d' : Nat, DeepIs n ms d → (d' ≤ n ∧ (∀ t, 1 ≤ t → t ≤ d' → Moves n (Gen n ms) t) ∧ (d' < n → ¬ Moves n (Gen n ms) (d' + 1))) → d = d') := fun d d' h1 h2 => DeepIs.one h1 h2
  have eor : (reps n (Gen n ms)).map (orbL n (Gen n ms)) = orbs n ms := rfl
  rw [eor] at C23
  have HFX : Hid (∀ k, fixC n (els n (Gen n ms)) k = fixG n ms k) := fun _ => rfl
  simp only [HFX.out] at C27
  have hol : (orbs n ms).length ≤ 7 := by
    unfold orbs
    rw [List.length_map]
    exact Nat.le_trans (reps_len n _) hM.n7
  obtain ⟨F, HF⟩ : ∃ F, Hid (((List.range (n + 1)).map fun k => (fixG n ms k : Int)) = F) := ⟨_, rfl⟩
  have HFL : Hid (F.length = n + 1) := by rw [← HF.out]; show _ = _; simp
  obtain ⟨O, HO⟩ : ∃ O, Hid (orbs n ms = O) := ⟨_, rfl⟩
  obtain ⟨E, HE⟩ : ∃ E, Hid (els n (Gen n ms) = E) := ⟨_, rfl⟩
  obtain ⟨o, Ho⟩ : ∃ o, Hid (ordG n ms = o) := ⟨_, rfl⟩
  obtain ⟨z, Hz⟩ : ∃ z, Hid (fac n = z) := ⟨_, rfl⟩
  obtain ⟨r, Hr⟩ : ∃ r, Hid (ms.length = r) := ⟨_, rfl⟩
  simp only [HF.out] at C22 C27 C16
  simp only [HO.out] at C19 C23 C24 hol
  simp only [HE.out] at E1 HOL C23 C25 C26 C27
  rw [Ho.out] at HOL hob
  rw [Hz.out] at E1 C14 C15
  have hr4 : r ≤ 4 := by rw [← Hr.out]; exact hM.len
  obtain ⟨ol, Hol⟩ : ∃ l, Hid (O.length = l) := ⟨_, rfl⟩
  rw [Hol.out] at hol
  obtain ⟨va, vc, rfl, _⟩ := id hM.sl
  rw [Hr.out] at C9 C19 C20 C21 C22 C14 C26 ⊢
  clear hM HEP HEG hG eor HFX
  go_enter Try.func4, Try.ntmps4
  go_wp2_with (first
    | (go_at_call 9; refine C9.mono ?_; rintro e w1 ⟨rfl, b1⟩)
    | (go_at_call 19; refine (C19 _ b1).mono ?_; rintro e w2 ⟨⟨ov, rfl, hov⟩, b2⟩; obtain ⟨oa, oc, hoe⟩ : ∃ a c, ov = .slice a ol c := (by obtain ⟨a, c, e, _⟩ := hov; exact ⟨a, c, by rw [e, Hol.out]⟩); subst hoe; replace b2 := Below.next b1 b2)
    | (go_at_call 20; refine (C20 _ b2).mono ?_; rintro e w3 ⟨⟨d, rfl, hd⟩, b3⟩; have HD : Hid (DeepIs n ms d) := hd; clear hd; replace hov := hov.below b3; replace b3 := Below.next b2 b3)
    | (go_at_call 21; refine (C21 _ b3).mono ?_; rintro e w4 ⟨⟨pb, rfl, hpb⟩, b4⟩; have HP : Hid (pb = true ↔ Prim n ms) := hpb; clear hpb; replace hov := hov.below b4; replace b4 := Below.next b3 b4)
    | (go_at_call 22; refine (C22 _ b4).mono ?_; rintro e w5 ⟨⟨fv, rfl, hfv⟩, b5⟩; obtain ⟨fa, fc, hfe⟩ : ∃ a c, fv = .slice a (n + 1) c := (by obtain ⟨a, c, e, _⟩ := hfv; exact ⟨a, c, by rw [e, HFL.out]⟩); subst hfe; replace hov := hov.below b5; replace b5 := Below.next b4 b5)
    | (go_at_call 14; refine (C14 _ b5).mono ?_; rintro e w6 ⟨⟨g, L, rfl, hgb, hO, hg⟩, b6⟩; have HG : Hid (∀ a, a ∈ L ↔ Gen n ms a) := hg; clear hg; replace hov := hov.below b6; replace hfv := hfv.below b6; replace b6 := Below.next b5 b6)
    | (go_at_call 15; refine (C15 _ _ _ hO).mono ?_; rintro e w7 ⟨⟨lv, rfl, hcy⟩, b7⟩; rw [E1.out L HG.out] at hcy; obtain ⟨la, lc, hle⟩ := hcy.form; rw [HOL.out] at hle; subst hle; have hsl := hcy.cyc.sl; have hcp := hcy.caps; clear hcy; replace hov := hov.below b7; replace hfv := hfv.below b7; replace b7 := Below.next b6 b7)
    | (go_at_call 23; refine (C23 _ _ hsl).mono ?_; rintro e w8 ⟨⟨xv, rfl, hxv⟩, b8⟩; obtain ⟨xa, xc, hxe⟩ := hxv.form; rw [Hol.out] at hxe; subst hxe; replace hxv := hxv.sl; replace hov := hov.below b8; replace hfv := hfv.below b8; replace hsl := hsl.below b8; replace hcp := hcp.below b8; replace b8 := Below.next b7 b8)
    | (go_at_call 24; refine (C24 _ _ _ hov hxv).mono ?_; rintro e w9 ⟨rfl, b9⟩; replace hfv := hfv.below b9; replace hsl := hsl.below b9; replace hcp := hcp.below b9; replace b9 := Below.next b8 b9; clear hov hxv)
    | (go_at_call 25; refine (C25 _ _ hsl hcp).mono ?_; rintro e w10 ⟨⟨d', rfl, hd'⟩, b10⟩; obtain rfl : d = d' := HDD.out d d' HD.out hd'; clear hd'; replace hfv := hfv.below b10; replace hsl := hsl.below b10; replace b10 := Below.next b9 b10; clear hcp)
    | (go_at_call 26; refine (C26 _ _ b10 hsl).mono ?_; rintro e w11 ⟨⟨qb, rfl, hqb⟩, b11⟩; obtain rfl : pb = qb := (Bool.eq_iff_iff.2 (HP.out.trans hqb.symm)); clear hqb; replace hfv := hfv.below b11; replace hsl := hsl.below b11; replace b11 := Below.next b10 b11)
    | (go_at_call 27; refine (C27 _ _ hsl).mono ?_; rintro e w12 ⟨⟨gv, rfl, hgv⟩, b12⟩; obtain ⟨ga, gc, hge⟩ : ∃ a c, gv = .slice a (n + 1) c := (by obtain ⟨a, c, e, _⟩ := hgv; exact ⟨a, c, by rw [e, HFL.out]⟩); subst hge; replace hfv := hfv.below b12; replace b12 := Below.next b11 b12; clear hsl)
    | (go_at_call 16; refine (C16 _ _ _ hfv hgv).mono ?_; rintro e w13 ⟨b, rfl, hb, b13⟩; obtain rfl : b = true := hb.2 trivial; replace b13 := Below.next b12 b13; clear hfv hgv))
  go_ret
  exact ⟨by simp, b13⟩

theorem law4_any (n : Int) (ls : List (List Int)) (v : Value) (w : World) (hv : Came ls v w) :
    Calls Try.prog 4 #[.int .i64 n, v] w fun e w' => e = .returned (.bool true) ∧ Below w.heap.size w w' := by
  by_cases h0 : gF n ls = 0
  · obtain ⟨m, ms, rfl, hM, hlen⟩ := hv.mk' h0
    exact law4_ok m ms v w hM
  · exact law4_bad n ls v w hv h0

end Go.Proofs.Ytnbkabggmomhlaa

namespace Go.Proofs.Ytnbkabggmomhlaa
open Go.ChangeShapes Go.WideShapes Go.ChangeAt Go.RowKit

set_option maxRecDepth 100000 in
theorem groupPoints_lifted (os : Os) (started : os.Started) (H : Type) (enc : TypeId × Value → H) :
    ReturnsInHanded {} Try.checked os 4 .any (Rows.groupPointsSpec.pre6 enc Try.prog Try.f4 Rows.groupPointsRow.domain false) (Rows.groupPointsSpec.post enc Try.prog Try.f4 false true false false) := by
  refine returnsInHanded_of_change_sized (C := Try.checked) own started (by kernel_rfl) Try.func4
    (ChangeSpec.witness6 (enc := enc) (C := Try.checked) false ⟨#[], #[.int .i64 0, .slice none 0 0], []⟩ 8 (by kernel_rfl) (by kernel_rfl) (by kernel_rfl) (by kernel_rfl)) ?_
  intro W base args ds gs before hval0 hW _ _ _
  have hval : ∀ (j : Nat) t v, Try.f4.params[j]? = some t → args[j]? = some v → Value.okWide Try.prog W .any base t v := hval0
  have hW' := hW
  obtain ⟨p, q, hA0, hV, rfl, hfz, hnd⟩ := hW
  have hA : DataW.TrodAll enc Try.prog W 0 (fun _ => true) true Try.f4.params.toList args.toList ds p := hA0
  rw [Try.params4] at hA hval
  obtain ⟨v0, vs0, d0, ds0, p0, q0, hargs, rfl, rfl, h0, r0⟩ := trodAll_cons hA
  obtain ⟨v1, vs1, d1, ds1, p1, q1, rfl, rfl, rfl, h1, r1⟩ := trodAll_cons r0
  obtain ⟨rfl, rfl, rfl⟩ := trodAll_nil r1
  obtain rfl : args = #[v0, v1] := by cases args; simp_all
  obtain ⟨rfl, rfl⟩ := trodVars_none hV
  obtain ⟨a0, rfl, rfl, rfl, w0⟩ := open_int Try.underlying3 (hval 0 3 v0 rfl rfl) h0
  have k1 := h1
  have lt1 : ∀ x ∈ p1, x.block < W.heap.size := by obtain ⟨m, hm⟩ := k1; exact DataW.trod_lt m _ _ _ hm
  obtain ⟨l1, hl1⟩ := came_of_trod' (hval 1 22 v1 rfl rfl) h1
  clear hA0 hval0
  refine (law4_any a0 l1 v1 W hl1).mono fun e W' ⟨he, bel⟩ => ?_
  subst he
  exact ⟨_, rfl, _, _, _, [], _, [], hW', trodAll_mk1 (shut_bool Try.underlying4 _), (trodAll_cons_mk (shut_int Try.underlying3 w0) (trodAll_cons_mk (Below.trod laidOut (by kernel_rfl) (of_decide_eq_true (by kernel_rfl)) k1 bel lt1) trodAll_mk0)), rfl, bel.frame _, fun h => by cases h⟩

theorem groupPoints_holds : Rows.GroupPointsSaid :=
  OpenClaim.holds_of_wide 4 Try.f4 rfl rfl rfl rfl rfl rfl rfl ⟨rfl, rfl, rfl, rfl, rfl⟩ rfl rfl rfl rfl rfl (by kernel_rfl) Try.func4 (by kernel_rfl)
    (of_decide_eq_true (by kernel_rfl)) (by unfold Func.isWrapper; first | (rw [if_pos (by decide +kernel)]; kernel_rfl) | (rw [if_neg (by decide +kernel)]; exact ⟨rfl, rfl⟩))
    (fun os started H enc _ => groupPoints_lifted os started H enc)

end Go.Proofs.Ytnbkabggmomhlaa
