/- The walks of Unrank and PermOfRank. -/
import Derived.Test.YtmiinhbffiodmaaDoorPRank
import Derived.Test.YtmiinhbffiodmaaDoorP28
import Derived.Test.YtmiinhbffiodmaaDoorPUnr
/- The walks of unrank, Unrank. -/
/- The walks of orders, Factorial, rank, Rank, PermRank. -/
namespace Go.Proofs.YtmiinhbffiodmaaDoor
open Go.RowKit

/-- A slice no longer than its room. -/
def capOk : Value → Prop
  | .slice _ n c => n ≤ c
  | _ => True

set_option maxHeartbeats 400000 in
theorem Factorial_any (n : Nat) (w : World) (hn : n ≤ 12) :
    Calls Tryd.prog 29 #[.int .i64 (n : Int)] w fun e w' => e = .returned (.int .i64 (fac n : Int)) ∧ w' = w := by
  obtain ⟨z, Hz⟩ : ∃ z, Hid (fac n = z) := ⟨_, rfl⟩
  rw [Hz.out]
  go_enter Tryd.func29, Tryd.ntmps29
  go_wp2
  go_loop [3, 4] (fun x i => ∃ a k : Nat, x = .int .i64 a ∧ i = .int .i64 ((k : Int) + 1) ∧ 1 ≤ k ∧ k ≤ 12 ∧ Hid (fac k = a) ∧ (k ≤ n ∨ (n = 0 ∧ k = 1))) (fun _ i => (n + 1 - intOf i).toNat)
  case atStart => exact ⟨1, 1, rfl, rfl, by omega, by omega, (rfl : fac 1 = 1), by omega⟩
  case round =>
    obtain ⟨a, k, rfl, rfl, hk, hk12, HA, hkn⟩ := hrel
    by_cases hlt : k < n
    · have hki : (k : Int) + 1 ≤ n := by omega
      have hdec : decide ((k : Int) + 1 ≤ n) = true := by simp; omega
      obtain ⟨b, Hb⟩ : ∃ b, Hid (fac (k + 1) = b) := ⟨_, rfl⟩
      have hbb : b ≤ 479001600 := by rw [← Hb.out]; exact fac_le (by omega)
      have hm : (a : Int) * ((k : Int) + 1) = (b : Int) := by rw [← Hb.out, fac, HA.out]; simp
      go_wp2
      go_round
      case rel => exact ⟨b, k + 1, rfl, by go_num, by omega, by omega, Hb, by omega⟩
      case measure => simp [intOf]; omega
    · have hdec : decide ((k : Int) + 1 ≤ n) = false := by simp; omega
      have : a = z := by
        rw [← HA.out, ← Hz.out]
        rcases hkn with h | ⟨h1, h2⟩
        · rw [show k = n by omega]
        · rw [h1, h2]; rfl
      subst this
      go_wp2
      go_ret
      exact ⟨rfl, rfl⟩

end Go.Proofs.YtmiinhbffiodmaaDoor

namespace Go.Proofs.YtmiinhbffiodmaaDoor
open Go.RowKit

theorem getD_erase (l : List Nat) (i j : Nat) : (l.eraseIdx i).getD j 0 = if j < i then l.getD j 0 else l.getD (j + 1) 0 := by
  rw [List.getD_eq_getElem?_getD, List.getElem?_eraseIdx]
  split <;> simp [List.getD_eq_getElem?_getD]
/-- A list of numbers as values. -/
def vl (l : List Nat) : List Value := (l.map Int.ofNat).map (Value.int .i64)
theorem vl_append (l m : List Nat) : vl (l ++ m) = vl l ++ vl m := by simp [vl]
theorem own_vl {w : World} {base n : Nat} {v : Value} {l : List Nat} (h : w.ownsRow base 3 1 v n (vl l)) (hn : l.length = n) : Sl w v (l.map Int.ofNat) := Sl.owned (by rw [List.length_map, hn]; exact h)
theorem own_other {w : World} {base n : Nat} {e : TypeId} {size : Nat} {v : Value} {xs : List Value} (h : w.ownsRow base e size v n xs) (a : Addr) (u : Value) (hb : a.block < base) : (w.setCell a u).ownsRow base e size v n xs := by
  obtain ⟨h1, h2 | ⟨g, cap, cur, h3, h4, h5, h6⟩⟩ := h
  · exact ⟨h1, .inl h2⟩
  · exact ⟨h1, .inr ⟨g, cap, cur, h3, h4, (heap_setCell_other w a g u (by omega)).trans h5, h6⟩⟩
theorem cell_new (W : World) (x : Value) (t : TypeId) (n : Nat) (h : W.heap.size = n) : (W.alloc (.cells #[x] t)).cell? ((⟨n, 0, none⟩ : Addr).add 0) = some x := by
  subst h
  show (W.alloc (.cells #[x] t)).cell? ⟨W.heap.size, 0 + 0, none⟩ = some x
  rw [cell_of_row _ _ _ _ _ _ (heap_alloc_new W _)]; rfl

end Go.Proofs.YtmiinhbffiodmaaDoor

namespace Go.Proofs.YtmiinhbffiodmaaDoor
open Go.RowKit

theorem und52 : Tryd.prog.underlying 65 = some (.slice 4) := by kernel_rfl
theorem info4 : ∃ i, Tryd.prog.info? 4 = some i ∧ i.zero = some (.bool false) ∧ i.size = 1 ∧ i.bytes = 1 := by
  have h1 : (Tryd.prog.info? 4).map (·.zero) = some (some (.bool false)) := by kernel_rfl
  have h2 : (Tryd.prog.info? 4).map (·.size) = some 1 := by kernel_rfl
  have h3 : (Tryd.prog.info? 4).map (·.bytes) = some 1 := by kernel_rfl
  match h : Tryd.prog.info? 4 with
  | none => rw [h] at h1; simp at h1
  | some i =>
    rw [h] at h1 h2 h3
    simp only [Option.map_some, Option.some.injEq] at h1 h2 h3
    exact ⟨i, rfl, h1, h2, h3⟩
/-- A row of truths of the call's own. -/
def OwnB (w : World) (g n : Nat) (f : Nat → Bool) : Prop := ∃ cur, w.heap[g]? = some (.cells cur 4 (0, 0)) ∧ ∀ j, j < n → cur[j]? = some (.bool (f j))
theorem OwnB.lt {w : World} {g n : Nat} {f : Nat → Bool} (h : OwnB w g n f) : g < w.heap.size := by
  obtain ⟨cur, h, _⟩ := h
  exact (Array.getElem?_eq_some_iff.1 h).1
theorem OwnB.cell {w : World} {g n : Nat} {f : Nat → Bool} (h : OwnB w g n f) (j : Nat) (hj : j < n) : w.cell? ⟨g, j, none⟩ = some (.bool (f j)) := by
  obtain ⟨cur, h, hc⟩ := h
  rw [cell_of_row w g j _ _ _ h, hc j hj]
theorem OwnB.frozen {w : World} {g n : Nat} {f : Nat → Bool} (h : OwnB w g n f) (j : Nat) : w.frozen? ⟨g, j, none⟩ = false := by
  obtain ⟨cur, h, _⟩ := h
  exact frozen_of_row w g j _ _ h
theorem OwnB.set {w : World} {g n : Nat} {f : Nat → Bool} (h : OwnB w g n f) (i : Nat) : OwnB (w.setCell ⟨g, i, none⟩ (.bool true)) g n (upU f i) := by
  obtain ⟨cur, h, hc⟩ := h
  refine ⟨_, heap_setCell_same w g i _ _ _ h, fun j hj => ?_⟩
  have hcj := hc j hj
  rw [Array.getElem?_setIfInBounds]
  unfold upU
  by_cases e : i = j
  · subst e
    rw [if_pos rfl, if_pos rfl, if_pos (Array.getElem?_eq_some_iff.1 hcj).1]
  · rw [if_neg e, if_neg (fun h => e h.symm), hcj]
theorem OwnB.below {w w' : World} {g n B : Nat} {f : Nat → Bool} (h : OwnB w g n f) (hb : Below B w w') (hB : g < B) : OwnB w' g n f := by
  obtain ⟨cur, h, hc⟩ := h
  exact ⟨cur, (hb.block g hB).trans h, hc⟩
theorem ownB_made {w : World} {base g n : Nat} (h : w.ownsRow base 4 1 (.slice (some ⟨g, 0, none⟩) n n) n (madeCells #[Value.bool false] n).toList) : OwnB w g n (fun _ => false) := by
  obtain ⟨_, ⟨h1, _⟩ | ⟨g', cap, cur, e, hb, hg, h2, h3, h4, ht⟩⟩ := h
  · cases h1
  · cases e
    refine ⟨cur, hg, fun j hj => ?_⟩
    have e2 : (cur.toList.take (n * 1))[j]? = ((madeCells #[Value.bool false] n).toList)[j]? := by rw [ht]
    rw [List.getElem?_take, if_pos (by omega)] at e2
    rw [← Array.getElem?_toList, e2]
    simp [madeCells, hj, Nat.mod_one]

theorem PermOfRank_n (n k : Int) (w : World) (h : n < 0 ∨ 12 < n) :
    Calls Tryd.prog 30 #[.int .i64 n, .int .i64 k] w fun e w' => e = .returned (.tuple #[.slice none 0 0, .int .i64 1]) ∧ Below w.heap.size w w' := by
  by_cases h1 : n < 0
  · have hd : decide (n < 0) = true := by simpa using h1
    go_enter Tryd.func30, Tryd.ntmps30
    go_wp2
    exact bodyPost_ret (v := .tuple #[.slice none 0 0, .int .i64 1]) (by simp [results, Tryd.results30, go_sem]) rfl ⟨rfl, Below.refl _ _⟩
  · have hd : decide (n < 0) = false := by simpa using h1
    have hd2 : decide (12 < n) = true := by simp; omega
    clear h
    go_enter Tryd.func30, Tryd.ntmps30
    go_wp2
    exact bodyPost_ret (v := .tuple #[.slice none 0 0, .int .i64 1]) (by simp [results, Tryd.results30, go_sem]) rfl ⟨rfl, Below.refl _ _⟩
theorem PermOfRank_k (n : Nat) (k : Int) (w : World) (hn : n ≤ 12) (h : k < 0 ∨ (fac n : Int) ≤ k) :
    Calls Tryd.prog 30 #[.int .i64 (n : Int), .int .i64 k] w fun e w' => e = .returned (.tuple #[.slice none 0 0, .int .i64 1]) ∧ Below w.heap.size w w' := by
  have C := fun A => Factorial_any n A hn
  obtain ⟨z, Hz⟩ : ∃ z, Hid (fac n = z) := ⟨_, rfl⟩
  rw [Hz.out] at h C
  have hd0 : decide ((n : Int) < 0) = false := decide_eq_false (by omega)
  have hd1 : decide (12 < (n : Int)) = false := decide_eq_false (by omega)
  by_cases h1 : k < 0
  · have hd : decide (k < 0) = true := by simpa using h1
    go_enter Tryd.func30, Tryd.ntmps30
    go_wp2_with (first
      | (go_at_call 29; refine (C _).mono ?_; rintro e w1 ⟨rfl, hw⟩; replace hw := hw.symm; subst hw))
    all_goals exact bodyPost_ret (v := .tuple #[.slice none 0 0, .int .i64 1]) (by simp [results, Tryd.results30, go_sem]) rfl ⟨rfl, Below.refl _ _⟩
  · have hd : decide (k < 0) = false := by simpa using h1
    have h2 : (z : Int) ≤ k := by omega
    have hd2 : decide ((z : Int) ≤ k) = true := by simpa using h2
    clear h
    go_enter Tryd.func30, Tryd.ntmps30
    go_wp2_with (first
      | (go_at_call 29; refine (C _).mono ?_; rintro e w1 ⟨rfl, hw⟩; replace hw := hw.symm; subst hw))
    all_goals exact bodyPost_ret (v := .tuple #[.slice none 0 0, .int .i64 1]) (by simp [results, Tryd.results30, go_sem]) rfl ⟨rfl, Below.refl _ _⟩

set_option maxRecDepth 100000 in
set_option maxHeartbeats 2000000 in
theorem PermOfRank_ok (n k : Nat) (w : World) (hn : n ≤ 12) (hk : k < fac n) :
    Calls Tryd.prog 30 #[.int .i64 (n : Int), .int .i64 (k : Int)] w fun e w' => ∃ x, e = .returned (.tuple #[x, .int .i64 0]) ∧ Sl w' x ((unrL n (List.range n) k).map Int.ofNat) ∧ Below w.heap.size w w' := by
  obtain ⟨i3, hi, hz0, hz1, hz2⟩ := info3
  obtain ⟨i4, qi, qz0, qz1, qz2⟩ := info4
  have C := fun (m : Nat) A (h : m ≤ 12) => Factorial_any m A h
  have HKF : Hid (k < fac n) := hk
  obtain ⟨goal, Hgoal⟩ : ∃ g, Hid (unrL n (List.range n) k = g) := ⟨_, rfl⟩
  have hgl : Hid (goal.length = n) := by rw [← Hgoal.out]; exact unrL_len _ _ _
  rw [Hgoal.out]
  have C0 := fun A => C n A hn
  obtain ⟨z, Hz⟩ : ∃ z, Hid (fac n = z) := ⟨_, rfl⟩
  rw [Hz.out] at C0 hk
  have hd0 : decide ((n : Int) < 0) = false := decide_eq_false (by omega)
  have hd1 : decide (12 < (n : Int)) = false := decide_eq_false (by omega)
  have hd2 : decide ((k : Int) < 0) = false := decide_eq_false (by omega)
  have hd3 : decide ((z : Int) ≤ (k : Int)) = false := decide_eq_false (by omega)
  go_enter Tryd.func30, Tryd.ntmps30
  go_wp2_with (first
    | (go_at_call 29; refine (C0 _).mono ?_; rintro e w1 ⟨rfl, hw⟩; replace hw := hw.symm; subst hw)
    | (at_make; refine wpList_make_full _ rfl _ _ 65 rfl w.heap.size 4 i4 (.bool false) 1 und52 qi qz0 qz1 .i64 .i64 (n : Int) (n : Int) n rfl rfl rfl rfl ?c1 ?c2 (Nat.le_refl _) ?_))
  case c1 => rw [qz2]; omega
  case c2 => unfold maxLen; omega
  intro w1 how1 hgr1
  have hO1 := ownB_made how1
  have hb1 : Below w.heap.size w w1 := ⟨hgr1.os, hgr1.tape, hgr1.output, hgr1.size, fun k hk => hgr1.block k hk (by simp)⟩
  clear how1 hgr1 hd2 hd3 hk C0
  go_wp2
  go_loopw [1, 7, 9] (fun kv ov iv wr => ∃ (kk i : Nat) (u : Nat → Bool) (done : List Nat), kv = .int .i64 kk ∧ iv = .int .i64 i ∧ i ≤ n ∧ OwnB wr w.heap.size n u ∧ wr.ownsRow (w.heap.size + 1) 3 1 ov i (vl done) ∧ Hid (done.length = i) ∧ Hid (kk < fac (n - i)) ∧ Hid ((lf n u).length = n - i) ∧ Hid (done ++ unrL (n - i) (lf n u) kk = goal) ∧ Below w.heap.size w wr) (fun _ _ iv _ => (n - intOf iv).toNat)
  case atStart =>
    refine ⟨k, 0, fun _ => false, [], rfl, rfl, by omega, hO1, World.ownsRow_nil _ _ _ _, (rfl : ([] : List Nat).length = 0), HKF, ?_, ?_, hb1⟩
    · show (lf n _).length = n - 0
      rw [lf_none]; simp
    · show [] ++ unrL (n - 0) (lf n _) k = goal
      rw [lf_none]; exact Hgoal.out
  case round =>
    clear hO1 hb1
    obtain ⟨kk, i, u, done, rfl, rfl, him, hO, hown, HD, HK, HL, HG, hB⟩ := hrel
    by_cases hin : i < n
    · have hini : (i : Int) < n := by omega
      have hind : decide ((i : Int) < n) = true := by simp; omega
      obtain ⟨m, Hm⟩ : ∃ m, Hid (n - 1 - i = m) := ⟨_, rfl⟩
      have hmi : (n : Int) - 1 - (i : Int) = (m : Int) := by rw [← Hm.out]; omega
      have hnm : n - i = m + 1 := by rw [← Hm.out]; omega
      have hnm' : n - (i + 1) = m := by rw [← Hm.out]; omega
      rw [hnm] at HK HL HG
      obtain ⟨g, Hg⟩ : ∃ g, Hid (fac m = g) := ⟨_, rfl⟩
      have D := fun A => C m A (by rw [← Hm.out]; omega)
      rw [Hg.out] at D
      have hg1 : 1 ≤ g := by rw [← Hg.out]; exact fac_pos m
      have hgb : g ≤ 479001600 := by rw [← Hg.out]; exact fac_le (by rw [← Hm.out]; omega)
      obtain ⟨at', Hat⟩ : ∃ a, Hid (kk / g = a) := ⟨_, rfl⟩
      obtain ⟨r, Hr⟩ : ∃ r, Hid (kk % g = r) := ⟨_, rfl⟩
      have hatm : at' < m + 1 := by rw [← Hat.out, ← Hg.out]; exact div_fac HK.out
      have hrg : r < g := by rw [← Hr.out]; exact Nat.mod_lt _ (by omega)
      have e1 : (kk : Int) / (g : Int) = (at' : Int) := by rw [← Hat.out, Int.natCast_ediv]
      have e2 : (kk : Int) % (g : Int) = (r : Int) := by rw [← Hr.out, Int.natCast_emod]
      have hgz : ((g : Int) == 0) = false := decide_eq_false (by omega)
      have hkkb : kk < 479001600 := Nat.lt_of_lt_of_le HK.out (fac_le (by omega))
      have hatb : at' ≤ 12 := by omega
      have hOl := hO.lt
      have HU : Hid (∀ x, (lf n u).getD at' 0 = x → unrL (m + 1) (lf n u) kk = x :: unrL m ((lf n u).eraseIdx at') r) := by
        intro x hx
        rw [unrL, Hg.out, Hat.out, Hr.out, hx]
      have HKm : Hid (r < fac m) := by show r < fac m; rw [Hg.out]; exact hrg
      clear hnm
      go_wp2_with (first
        | (go_at_call 29; refine (D _).mono ?_; rintro e w3 ⟨rfl, hw⟩; replace hw := hw.symm; subst hw))
      go_loopw [7, 10, 11] (fun ov sv xv wr' => ∃ (sk x : Nat), sv = .int .i64 sk ∧ xv = .int .i64 x ∧ x ≤ n ∧ sk ≤ 12 ∧ Hid ((lf x u).length + sk = at') ∧ ov = u7 ∧ wr' = wr) (fun _ _ xv _ => (n - intOf xv).toNat)
      case atStart => exact ⟨at', 0, rfl, rfl, by omega, hatb, (by show 0 + at' = at'; omega : (lf 0 u).length + at' = at'), rfl, rfl⟩
      case round =>
        obtain ⟨sk, x, rfl, rfl, hx, hsk, HS, h7, hwr⟩ := hrel
        subst h7 hwr
        by_cases hxn : x < n
        · have hxni : (x : Int) < n := by omega
          have hxd : decide ((x : Int) < n) = true := decide_eq_true hxni
          have hcx := hO.cell x hxn
          have hfx := hO.frozen x
          have hls := lf_succ x u
          cases hux : u x with
          | true =>
            rw [hux] at hcx
            rw [hux, if_pos rfl, List.append_nil] at hls
            have HS2 : Hid ((lf (x + 1) u).length + sk = at') := by show (lf (x + 1) u).length + sk = at'; rw [hls]; exact HS.out
            clear hls HS
            go_wp2
            go_roundw
            case rel => exact ⟨sk, x + 1, rfl, by go_num, by omega, hsk, HS2, rfl, trivial⟩
            case measure => simp [intOf]; omega
          | false =>
            rw [hux] at hcx
            rw [hux, if_neg (by simp)] at hls
            by_cases hs0 : sk = 0
            · subst hs0
              have hat := lf_at hux hxn (s := at') (by have := HS.out; omega)
              have HU2 := HU.out x hat.1
              have HN : Hid (lf n (upU u x) = (lf n u).eraseIdx at') := hat.2.1
              have HU3 : Hid (unrL (m + 1) (lf n u) kk = x :: unrL m ((lf n u).eraseIdx at') r) := HU2
              have HLt : Hid (at' < (lf n u).length) := hat.2.2
              have hs0d : (((0 : Nat) : Int) == 0) = true := by simp
              clear hls HS hat HU2 HU
              have hown' := own_other hown ⟨w.heap.size, x, none⟩ (.bool true) (by simp)
              have hO' := hO.set x
              have hB' := hB.setCell (p := ⟨w.heap.size, x, none⟩) (Nat.le_refl _) (.bool true)
              have hsz : (wr.setCell ⟨w.heap.size, x, none⟩ (.bool true)).heap.size = wr.heap.size := by simp
              have h12 : 0 ≤ 12 := by omega
              go_wp2_with (first
                | (at_builtin; refine wpList_append_own _ rfl _ _ 22 rfl (w.heap.size + 1) 3 i3 (.int .i64 0) 1 8 und22 hi hz0 hz1 hz2 rfl (by decide) _ _ _ rfl (hown'.alloc _) ⟨wr.heap.size, 0, none⟩ 1 1 [.int .i64 (x : Int)] rfl rfl ?c1 ?c2 ?c3 ?c4 ?c5 ?_))
              case c1 =>
                intro j u hj
                match j, hj with
                | 0, hj => simp at hj; subst hj; exact cell_new _ _ _ _ hsz
              case c2 => intro u hu; simp at hu; subst hu; rfl
              case c3 => unfold maxLen; omega
              case c4 => omega
              case c5 => simp; omega
              intro v' w4 hown4 hgrow _
              have hU4 : Below (w.heap.size + 1) (wr.setCell ⟨w.heap.size, x, none⟩ (.bool true)) w4 := ((Below.refl _ _).alloc (by simp; omega) _).grown hgrow (by simp; omega) (fun k hk => (hown'.lt k hk).1)
              have hO4 := hO'.below hU4 (by omega)
              have hB4 := hB'.trans (hU4.mono (by omega))
              go_wp2
              go_roundw
              case rel =>
                refine ⟨r, i + 1, upU u x, done ++ [x], rfl, by go_num, by omega, hO4, ?_, ?_, ?_, ?_, ?_, hB4⟩
                · rw [vl_append]; exact hown4
                · show (done ++ [x]).length = i + 1
                  rw [List.length_append, HD.out]; rfl
                · show r < fac (n - (i + 1))
                  rw [hnm']; exact HKm.out
                · show (lf n (upU u x)).length = n - (i + 1)
                  rw [HN.out, List.length_eraseIdx_of_lt HLt.out, HL.out, hnm']; omega
                · show done ++ [x] ++ unrL (n - (i + 1)) (lf n (upU u x)) r = goal
                  rw [hnm', HN.out, ← HG.out, HU3.out]; simp
              case measure => simp [intOf]; omega
            · obtain ⟨sk', rfl⟩ : ∃ sk', sk = sk' + 1 := ⟨sk - 1, by omega⟩
              have hs0d : (((sk' + 1 : Nat) : Int) == 0) = false := by simp; omega
              have hski : ((sk' + 1 : Nat) : Int) - 1 = (sk' : Int) := by omega
              have HS2 : Hid ((lf (x + 1) u).length + sk' = at') := by
                show (lf (x + 1) u).length + sk' = at'
                have := HS.out
                rw [hls, List.length_append, List.length_singleton]; omega
              clear hls HS
              go_wp2
              go_roundw
              case rel => exact ⟨sk', x + 1, rfl, by go_num, by omega, by omega, HS2, rfl, trivial⟩
              case measure => simp [intOf]; omega
        · obtain rfl : x = n := by omega
          have h1 := HS.out
          have h2 := HL.out
          omega
    · obtain rfl : i = n := by omega
      have hid : decide ((i : Int) < (i : Int)) = false := by simp
      go_wp2
      refine bodyPost_ret (v := .tuple #[_, .int .i64 0]) (by simp [results, Tryd.results30, go_sem]; rfl) rfl ⟨_, rfl, ?_, hB⟩
      have e : done = goal := by
        have := HG.out
        rw [Nat.sub_self, unrL, List.append_nil] at this
        exact this
      rw [← e]
      exact own_vl hown HD.out

end Go.Proofs.YtmiinhbffiodmaaDoor
