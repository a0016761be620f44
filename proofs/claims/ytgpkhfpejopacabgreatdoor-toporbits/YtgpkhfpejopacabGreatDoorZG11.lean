/- The faces of the group, where something is wrong; order, Order, Has. -/
import Derived.Test.YtgpkhfpejopacabGreatDoorZPList
import Derived.Deep.QuietTactic
import Derived.BigQuiet
import Derived.Test.YtgpkhfpejopacabGreatDoorZGB
import Derived.Test.YtgpkhfpejopacabGreatDoorZP28
import Derived.Test.YtgpkhfpejopacabGreatDoorZG43
import Derived.Test.YtgpkhfpejopacabGreatDoorZGM
import Derived.Test.YtgpkhfpejopacabGreatDoorZG57
/- What is wrong with makers: the walks of checkOne, Check, MemberFault, GroupFault. -/
/- The walk of PermFault. -/
namespace Go.Proofs.YtgpkhfpejopacabGreatDoor.Gc
open Go.RowKit

end Go.Proofs.YtgpkhfpejopacabGreatDoor.Gc

namespace Go.Proofs.YtgpkhfpejopacabGreatDoor.Gc
open Go.RowKit

/-- What is wrong with a permutation of n points. -/
def mF (n : Int) (l : List Int) : Int := if pF l ≠ 0 then pF l else if (l.length : Int) ≠ n then 2 else 0
/-- The first that is no nought. -/
def firstE : List Int → Int
  | [] => 0
  | e :: r => if e = 0 then firstE r else e
/-- What is wrong with a group. -/
def gF (n : Int) (ls : List (List Int)) : Int := if n < 1 ∨ 7 < n then 1 else if 4 < ls.length then 3 else firstE (ls.map (mF n))
theorem mF_ok {n : Nat} {l : List Int} (h : mF n l = 0) : ∃ m, IsP n m ∧ l = m.map Int.ofNat := by
  unfold mF at h
  by_cases h1 : pF l ≠ 0
  · rw [if_pos h1] at h; exact absurd h h1
  · rw [if_neg h1] at h
    by_cases h2 : (l.length : Int) ≠ n
    · rw [if_pos h2] at h; omega
    · obtain ⟨n', f, _, P, rfl⟩ := pF_ok (by simpa using h1)
      rw [pl_len] at h2
      obtain rfl : n' = n := by omega
      exact ⟨_, isP_of P, by rw [← pl_map (n := n') (by simp)]; exact pl_congr fun i hi => by simp [hi]⟩
theorem mF_isP {n : Nat} (hn : n ≤ 7) {m : List Nat} (h : IsP n m) : mF n (m.map Int.ofNat) = 0 := by
  unfold mF
  have h0 : pF (m.map Int.ofNat) = 0 := by rw [← pl_map h.len]; exact pF_pl h.pm (by omega)
  rw [if_neg (by simpa using h0), if_neg (by simp [h.len])]
theorem firstE_zero {l : List Int} : firstE l = 0 ↔ ∀ e ∈ l, e = 0 := by
  induction l with
  | nil => simp [firstE]
  | cons e r ih =>
    unfold firstE
    by_cases h : e = 0
    · rw [if_pos h, ih]; simp [h]
    · rw [if_neg h]; simp [h]
theorem gF_ok {n : Int} {ls : List (List Int)} (h : gF n ls = 0) : ∃ (k : Nat) (ms : List (List Nat)), n = k ∧ 1 ≤ k ∧ k ≤ 7 ∧ ms.length ≤ 4 ∧ (∀ m ∈ ms, IsP k m) ∧ ls = ms.map fun m => m.map Int.ofNat := by
  unfold gF at h
  by_cases h1 : n < 1 ∨ 7 < n
  · rw [if_pos h1] at h; omega
  · rw [if_neg h1] at h
    by_cases h2 : 4 < ls.length
    · rw [if_pos h2] at h; omega
    · rw [if_neg h2] at h
      obtain ⟨k, rfl⟩ : ∃ k : Nat, n = k := ⟨n.toNat, by omega⟩
      have h3 : ∀ l ∈ ls, ∃ m, IsP k m ∧ l = m.map Int.ofNat := fun l hl => mF_ok (firstE_zero.1 h _ (List.mem_map.2 ⟨l, hl, rfl⟩))
      have key : ∀ ls : List (List Int), (∀ l ∈ ls, ∃ m, IsP k m ∧ l = m.map Int.ofNat) → ∃ ms : List (List Nat), (∀ m ∈ ms, IsP k m) ∧ ls = ms.map fun m => m.map Int.ofNat := by
        intro ls
        induction ls with
        | nil => exact fun _ => ⟨[], by simp, rfl⟩
        | cons l r ih =>
          intro h
          obtain ⟨m, h1, h2⟩ := h l (by simp)
          obtain ⟨ms, h3, h4⟩ := ih (fun x hx => h x (by simp [hx]))
          exact ⟨m :: ms, fun x hx => (List.mem_cons.1 hx).elim (fun e => e ▸ h1) (h3 x), by rw [List.map_cons, ← h4, ← h2]⟩
      obtain ⟨ms, h4, rfl⟩ := key ls h3
      exact ⟨k, ms, rfl, by omega, by omega, by simpa using h2, h4, rfl⟩
theorem gF_isP {k : Nat} {ms : List (List Nat)} (h1 : 1 ≤ k) (h7 : k ≤ 7) (hl : ms.length ≤ 4) (hm : ∀ m ∈ ms, IsP k m) : gF k (ms.map fun m => m.map Int.ofNat) = 0 := by
  unfold gF
  rw [if_neg (by omega), if_neg (by rw [List.length_map]; omega), firstE_zero]
  intro e he
  obtain ⟨l, hl, rfl⟩ := List.mem_map.1 he
  obtain ⟨m, hm', rfl⟩ := List.mem_map.1 hl
  exact mF_isP h7 (hm m hm')

set_option maxRecDepth 100000 in
set_option maxHeartbeats 1000000 in
theorem checkOne_any (n : Int) (l : List Int) (v : Value) (w : World) (hl : Sl w v l) (hll : l.length ≤ maxLen) :
    Calls Tryz.prog 55 #[.int .i64 n, v] w fun e w' => e = .returned (.int .i64 (mF n l)) ∧ Below w.heap.size w w' := by
  have C := Check_any l v w hl hll
  obtain ⟨z, Hz⟩ : ∃ z : Int, Hid (pF l = z) := ⟨_, rfl⟩
  rw [Hz.out] at C
  obtain ⟨m, Hm⟩ : ∃ m : Nat, Hid (l.length = m) := ⟨_, rfl⟩
  obtain ⟨a, cap, rfl, _⟩ := hl
  unfold maxLen at hll
  rw [Hm.out] at C hll ⊢
  by_cases hz : z = 0
  · subst hz
    by_cases hm : (m : Int) = n
    · have hr : mF n l = 0 := by unfold mF; rw [if_neg (by rw [Hz.out]; simp), if_neg (by rw [Hm.out]; simpa using hm)]
      have hne : ((m : Int) != n) = false := by simpa using hm
      rw [hr]
      clear hm
      go_enter Tryz.func55, Tryz.ntmps55
      go_wp2_with (first | (go_at_call 52; refine C.mono ?_; rintro e w1 ⟨rfl, b1⟩))
      go_ret
      exact ⟨rfl, b1⟩
    · have hr : mF n l = 2 := by unfold mF; rw [if_neg (by rw [Hz.out]; simp), if_pos (by rw [Hm.out]; exact hm)]
      have hne : ((m : Int) != n) = true := by simpa using hm
      rw [hr]
      clear hm
      go_enter Tryz.func55, Tryz.ntmps55
      go_wp2_with (first | (go_at_call 52; refine C.mono ?_; rintro e w1 ⟨rfl, b1⟩))
      go_ret
      exact ⟨rfl, b1⟩
  · have hr : mF n l = z := by unfold mF; rw [if_pos (by rw [Hz.out]; exact hz), Hz.out]
    have hzd : (z != 0) = true := by simpa using hz
    rw [hr]
    clear hz
    go_enter Tryz.func55, Tryz.ntmps55
    go_wp2_with (first | (go_at_call 52; refine C.mono ?_; rintro e w1 ⟨rfl, b1⟩))
    go_ret
    exact ⟨rfl, b1⟩

set_option maxRecDepth 100000 in
set_option maxHeartbeats 1000000 in
theorem GCheck_any (n : Int) (ls : List (List Int)) (v : Value) (w : World) (hv : Sls w v ls) (hls : ∀ l ∈ ls, l.length ≤ maxLen) (hlm : ls.length ≤ maxLen) :
    Calls Tryz.prog 40 #[.int .i64 n, v] w fun e w' => e = .returned (.int .i64 (gF n ls)) ∧ Below w.heap.size w w' := by
  obtain ⟨k, Hk⟩ : ∃ k, Hid (ls.length = k) := ⟨_, rfl⟩
  obtain ⟨a, cap, rfl, _⟩ := id hv
  have HV : Hid (Sls w (.slice a ls.length cap) ls) := hv
  have HL : Hid (∀ l ∈ ls, l.length ≤ maxLen) := hls
  unfold maxLen at hlm
  rw [Hk.out] at HV hlm ⊢
  clear hv hls
  obtain ⟨z, Hz⟩ : ∃ z : Int, Hid (gF n ls = z) := ⟨_, rfl⟩
  rw [Hz.out]
  by_cases h1 : n < 1
  · have hz : z = 1 := by rw [← Hz.out]; unfold gF; rw [if_pos (.inl h1)]
    subst hz
    have hd : decide (n < 1) = true := decide_eq_true h1
    go_enter Tryz.func40, Tryz.ntmps40
    go_wp2
    go_ret
    exact ⟨rfl, Below.refl _ _⟩
  have hd1 : decide (n < 1) = false := decide_eq_false h1
  by_cases h7 : 7 < n
  · have hz : z = 1 := by rw [← Hz.out]; unfold gF; rw [if_pos (.inr h7)]
    subst hz
    have hd : decide (7 < n) = true := decide_eq_true h7
    go_enter Tryz.func40, Tryz.ntmps40
    go_wp2
    go_ret
    exact ⟨rfl, Below.refl _ _⟩
  have hd7 : decide (7 < n) = false := decide_eq_false h7
  by_cases h4 : 4 < k
  · have hz : z = 3 := by rw [← Hz.out]; unfold gF; rw [if_neg (by omega), if_pos (by rw [Hk.out]; exact h4)]
    subst hz
    have hd : decide ((4 : Int) < (k : Int)) = true := by simp; omega
    go_enter Tryz.func40, Tryz.ntmps40
    go_wp2
    go_ret
    exact ⟨rfl, Below.refl _ _⟩
  have hd4 : decide ((4 : Int) < (k : Int)) = false := by simp; omega
  have HZ : Hid (firstE (ls.map (mF n)) = z) := by
    rw [← Hz.out]; show _ = gF n ls; unfold gF; rw [if_neg (by omega), if_neg (by rw [Hk.out]; exact h4)]
  go_enter Tryz.func40, Tryz.ntmps40
  go_wp2
  go_loopw [19] (fun i wr => ∃ j : Nat, i = .int .i64 j ∧ j ≤ k ∧ Hid (firstE ((ls.drop j).map (mF n)) = z) ∧ Below w.heap.size w wr) (fun i _ => (k - intOf i).toNat)
  case atStart => exact ⟨0, rfl, by omega, HZ, Below.refl _ _⟩
  case round =>
    obtain ⟨j, rfl, hj, HF, hB⟩ := hrel
    by_cases hlt : j < k
    · have hji : (j : Int) < k := by omega
      have hdec : decide ((j : Int) < k) = true := by simp; omega
      obtain ⟨l, hl⟩ : ∃ l, ls[j]? = some l := ⟨ls[j]'(by have := Hk.out; omega), by simp⟩
      have hll := HL.out l (List.mem_of_getElem? hl)
      obtain ⟨b, off, u, rfl, hbw, hcu, hsu⟩ := HV.out.at hl
      have hcu3 : wr.cell? ⟨b, off + j, none⟩ = some u := (hB.cell (p := ⟨b, off + j, none⟩) hbw).trans hcu
      have C := fun W (h : Below w.heap.size w W) => checkOne_any n l u W (hsu.below h) hll
      have hdr : ls.drop j = l :: ls.drop (j + 1) := by
        obtain ⟨h0, h1⟩ := List.getElem?_eq_some_iff.1 hl
        rw [← h1]; exact List.drop_eq_getElem_cons h0
      have HF2 : Hid (firstE (mF n l :: (ls.drop (j + 1)).map (mF n)) = z) := by have := HF.out; rwa [hdr] at this
      obtain ⟨e0, He⟩ : ∃ e0, Hid (mF n l = e0) := ⟨_, rfl⟩
      rw [He.out] at C HF2
      obtain ⟨ua, uc, rfl, _⟩ := hsu
      clear hcu hl hdr HF hll
      by_cases hz : e0 = 0
      · subst hz
        go_wp2_with (first | (go_at_call 55; refine (C _ hB).mono ?_; rintro e w1 ⟨rfl, b1⟩; replace b1 := Below.next hB b1))
        go_roundw
        case rel => exact ⟨j + 1, by go_num, by omega, HF2.out, b1⟩
        case measure => simp [intOf]; omega
      · have hzd : (e0 != 0) = true := by simpa using hz
        obtain rfl : e0 = z := by have := HF2.out; unfold firstE at this; rwa [if_neg hz] at this
        clear hz
        go_wp2_with (first | (go_at_call 55; refine (C _ hB).mono ?_; rintro e w1 ⟨rfl, b1⟩; replace b1 := Below.next hB b1))
        go_ret
        exact ⟨rfl, b1⟩
    · obtain rfl : j = k := by omega
      have hkd : decide ((j : Int) < (j : Int)) = false := by simp
      have hz : z = 0 := by
        have := HF.out
        rw [List.drop_of_length_le (by rw [Hk.out]; exact Nat.le_refl _)] at this
        exact this.symm
      subst hz
      go_wp2
      go_ret
      exact ⟨rfl, hB⟩

end Go.Proofs.YtgpkhfpejopacabGreatDoor.Gc

/- The walk of movesOf. -/
namespace Go.Proofs.YtgpkhfpejopacabGreatDoor.Gc
open Go.RowKit

set_option maxRecDepth 100000 in
set_option maxHeartbeats 1000000 in
theorem movesOf_any (n : Nat) (ms : List (List Nat)) (v : Value) (w : World) (hn : n ≤ 7) (h1 : 1 ≤ n) (hk : ms.length ≤ 4) (hv : SlSl w v ms) (hm : ∀ m ∈ ms, IsP n m) :
    Calls Tryz.prog 42 #[v] w fun e w' => (∃ x, e = .returned x ∧ Mvs w' x (ms.map (ext n))) ∧ Below w.heap.size w w' := by
  obtain ⟨k, Hk⟩ : ∃ k, Hid (ms.length = k) := ⟨_, rfl⟩
  rw [Hk.out] at hk
  obtain ⟨a, cap, rfl, _⟩ := id hv
  have HV : Hid (SlSl w (.slice a ms.length cap) ms) := hv
  have HM : Hid (∀ m ∈ ms, m.length = n) := fun m h => (hm m h).len
  rw [Hk.out] at HV ⊢
  clear hv hm
  obtain ⟨i62, hi, hz0, hz1, hz2⟩ := info62
  have hmk : ∀ w : World, (Instr.makeSlice 85 (.int .i64 (k : Int)) (.int .i64 (k : Int))).run Tryz.prog w = .ok (.slice (some ⟨w.heap.size, 0, none⟩) k k) (w.alloc (.cells (madeCells (mrow fun _ => 0) (k * 7)) 95)) := fun w => by
    have h := run_make (P := Tryz.prog) w 85 95 i62 (.agg (mrow fun _ => 0)) und58 hi hz0 .i64 .i64 k k (by omega) (by omega) (by rw [hz2]; omega) (by omega)
    rw [hz1] at h
    simpa [Value.cells] using h
  clear hi hz0 hz1 hz2
  have hT0 := made_there w k 95
  have hB0 := balloc w (.cells (madeCells (mrow fun _ => 0) (k * 7)) 95)
  have hs0 : w.heap.size < (w.alloc (.cells (madeCells (mrow fun _ => 0) (k * 7)) 95)).heap.size := by simp
  go_enter Tryz.func42, Tryz.ntmps42
  go_wp2
  go_loopw [11] (fun i wr => ∃ j : Nat, i = .int .i64 j ∧ j ≤ k ∧ Hid (wr.there w.heap.size 0 (k * 7)) ∧ Hid (∀ (t : Nat) (l : List Nat), t < j → ms[t]? = some l → wr.rangeAt w.heap.size (t * 7) (mvL (ext n l))) ∧ w.heap.size < wr.heap.size ∧ Below w.heap.size w wr) (fun i _ => (k - intOf i).toNat)
  case atStart => exact ⟨0, rfl, by omega, hT0, (fun t l h => by omega : ∀ (t : Nat) (l : List Nat), t < 0 → _), hs0, hB0⟩
  case round =>
    clear hT0 hB0 hs0
    obtain ⟨j, rfl, hj, HT, HR, hs, hB⟩ := hrel
    by_cases hlt : j < k
    · have hji : (j : Int) < k := by omega
      have hdec : decide ((j : Int) < k) = true := by simp; omega
      obtain ⟨l, hl⟩ : ∃ l, ms[j]? = some l := ⟨ms[j]'(by have := Hk.out; omega), by simp⟩
      have hll := HM.out l (List.mem_of_getElem? hl)
      obtain ⟨b, off, u, rfl, hbw, hcu, hsu⟩ := HV.out.at hl
      have hcu2 := (hB.cell (p := ⟨b, off + j, none⟩) hbw).trans hcu
      have C := fun W (h : Below w.heap.size w W) => moveOf_any n l u W hn h1 (hsu.below h) hll
      have hcu3 : wr.cell? ⟨b, off + j, none⟩ = some u := hcu2
      have HL : Hid (ms[j]? = some l) := hl
      have HLL : Hid (l.length = n) := hll
      have hux : ∃ ua uc, u = .slice ua n uc := by
        obtain ⟨ua, uc, e, _⟩ := hsu
        exact ⟨ua, uc, by rw [e, List.length_map, hll]⟩
      obtain ⟨ua, uc, rfl⟩ := hux
      clear hcu hcu2 hl hsu hll
      obtain ⟨x, Hx⟩ : ∃ x, Hid (ext n l = x) := ⟨_, rfl⟩
      rw [Hx.out] at C
      simp only [mv_eq] at C
      have hln := mvL_len x
      have hone := all_oneCell_toArray (mvL_one x)
      have hinf : (Tryz.prog.info? 95).map (·.size) = some (mvL x).toArray.size := by simpa using inf62L x
      obtain ⟨X, HX⟩ : ∃ X, Hid (mvL x = X) := ⟨_, rfl⟩
      rw [HX.out] at C hln hone hinf
      go_wp2_with (first
        | (go_at_call 57; refine (C _ hB).mono ?_; rintro e w1 ⟨rfl, b1⟩; have hT1 := there_below HT.out b1 hs; have hT2 := there_sub hT1 hlt; rw [Nat.zero_add] at hT2)
        | (refine wpList_store_mid rfl 95 _ _ rfl w.heap.size (j * 7) X.toArray (by rfl) rfl (by simpa [hln] using hT2) hinf hone ?_))
      go_roundw
      case rel =>
        refine ⟨j + 1, by go_num, by omega, World.there_setCells hT1 _ _ _, (fun t l' ht hl' => ?_ : ∀ (t : Nat) (l : List Nat), t < j + 1 → _), by simp [sets_size]; have := b1.size; omega, (hB.trans (b1.mono (by omega))).trans (bsets (Nat.le_refl _) _ _ _)⟩
        by_cases e : t = j
        · subst e
          obtain rfl : l = l' := by have := HL.out; rw [hl'] at this; simpa using this.symm
          rw [Hx.out, HX.out]
          exact World.rangeAt_setCells_same _ _ _ _ (by rw [hln]; exact hT2)
        · exact World.rangeAt_setCells_apart (range_below (HR.out t l' (by omega) hl') b1 hs) _ _ _ (.inr (.inl (by rw [mvL_len]; omega)))
      case measure => simp [intOf]; omega
    · obtain rfl : j = k := by omega
      have hkd : decide ((j : Int) < (j : Int)) = false := by simp
      go_wp2
      go_ret
      refine ⟨⟨_, rfl, some ⟨w.heap.size, 0, none⟩, j, by rw [List.length_map, Hk.out]; rfl, fun i x hx => ?_⟩, hB⟩
      rw [List.getElem?_map] at hx
      cases he : ms[i]? with
      | none => rw [he] at hx; cases hx
      | some l =>
        rw [he] at hx
        obtain rfl : ext n l = x := by simpa using hx
        have hi' : i < ms.length := (List.getElem?_eq_some_iff.1 he).1
        exact ⟨w.heap.size, 0, rfl, hs, by rw [Nat.zero_add]; exact HR.out i l (by rw [← Hk.out]; exact hi') he⟩

end Go.Proofs.YtgpkhfpejopacabGreatDoor.Gc

/- The walk of made. -/
/- A list of members that grows till it is closed. -/
namespace Go.Proofs.YtgpkhfpejopacabGreatDoor.Gc
open Go.RowKit Go.Maps

def addL (L : List (List Nat)) (x : List Nat) : List (List Nat) := open Classical in if x ∈ L then L else L ++ [x]
theorem mem_addL {L : List (List Nat)} {x y : List Nat} : y ∈ addL L x ↔ y ∈ L ∨ y = x := by
  unfold addL
  split
  · exact ⟨fun h => .inl h, fun h => h.elim id (fun e => by rw [e]; assumption)⟩
  · simp
theorem addL_at {L : List (List Nat)} {x y : List Nat} {t : Nat} (h : L[t]? = some y) : (addL L x)[t]? = some y := by
  unfold addL
  split
  · exact h
  · rw [List.getElem?_append_left (List.getElem?_eq_some_iff.1 h).1]; exact h
theorem addL_len (L : List (List Nat)) (x : List Nat) : L.length ≤ (addL L x).length := by
  unfold addL
  split
  · exact Nat.le_refl _
  · simp
theorem addL_nodup {L : List (List Nat)} {x : List Nat} (h : L.Nodup) : (addL L x).Nodup := by
  unfold addL
  split
  · exact h
  · rename_i hx
    exact List.nodup_append.2 ⟨h, by simp, fun a ha b hb => by
      obtain rfl : b = x := by simpa using hb
      exact fun e => hx (e ▸ ha)⟩
theorem addL_ext {n : Nat} {L : List (List Nat)} {x : List Nat} (hn : n ≤ 7) (hL : ∀ y ∈ L, y.length = n) (hx : x.length = n) : (addL L x).map (ext n) = addL (L.map (ext n)) (ext n x) := by
  unfold addL
  by_cases h : x ∈ L
  · rw [if_pos h, if_pos (List.mem_map.2 ⟨x, h, rfl⟩)]
  · rw [if_neg h, if_neg, List.map_append]
    · rfl
    · rintro h2
      obtain ⟨y, hy, e⟩ := List.mem_map.1 h2
      exact h (ext_inj (hL y hy) hx hn e ▸ hy)

/-- Distinct members, what moves nothing among them. -/
structure MadeS (n : Nat) (ms L : List (List Nat)) : Prop where
  nd : L.Nodup
  one : idL n ∈ L
  gen : ∀ a ∈ L, Gen n ms a
theorem MadeS.isP {n : Nat} {ms L : List (List Nat)} (hm : ∀ m ∈ ms, IsP n m) (h : MadeS n ms L) : ∀ a ∈ L, IsP n a := fun a ha => (h.gen a ha).isP hm
theorem MadeS.len {n : Nat} {ms L : List (List Nat)} (hm : ∀ m ∈ ms, IsP n m) (hn : n ≤ 7) (h : MadeS n ms L) : L.length ≤ 5040 := by
  have := perms_le h.nd (h.isP hm)
  have h2 : fac n ≤ fac 7 := fac_mono hn
  have h3 : fac 7 = 5040 := by decide
  omega
/-- Each of the first i with each maker, the next one with the first j, is there. -/
structure Clo (ms L : List (List Nat)) (i j : Nat) : Prop where
  low : ∀ t a m, t < i → L[t]? = some a → m ∈ ms → thenL a m ∈ L
  now : ∀ a q m, L[i]? = some a → q < j → ms[q]? = some m → thenL a m ∈ L
theorem Clo.start {ms L : List (List Nat)} : Clo ms L 0 0 := ⟨fun t a m h => by omega, fun a q m _ h => by omega⟩
theorem Clo.next {ms L : List (List Nat)} {i j : Nat} {a m : List Nat} (h : Clo ms L i j) (hi : i < L.length) (ha : L[i]? = some a) (hm : ms[j]? = some m) : Clo ms (addL L (thenL a m)) i (j + 1) := by
  have back : ∀ t b, t ≤ i → (addL L (thenL a m))[t]? = some b → L[t]? = some b := fun t b ht hb => by
    have h1 : L[t]? = some L[t] := List.getElem?_eq_getElem (by omega)
    have h2 := addL_at (x := thenL a m) h1
    rw [hb] at h2
    rw [h1, h2]
  refine ⟨fun t b q ht hb hq => mem_addL.2 (.inl (h.low t b q ht (back t b (by omega) hb) hq)), fun b q m' hb hq hm' => ?_⟩
  have hb' := back i b (Nat.le_refl _) hb
  by_cases e : q = j
  · subst e
    rw [hm] at hm'
    rw [ha] at hb'
    obtain rfl : m = m' := by simpa using hm'
    obtain rfl : a = b := by simpa using hb'
    exact mem_addL.2 (.inr rfl)
  · exact mem_addL.2 (.inl (h.now b q m' hb' (by omega) hm'))
theorem Clo.turn {ms L : List (List Nat)} {i : Nat} (h : Clo ms L i ms.length) : Clo ms L (i + 1) 0 := by
  refine ⟨fun t a m ht ha hm => ?_, fun a q m _ hq => by omega⟩
  by_cases e : t = i
  · subst e
    obtain ⟨q, hq, rfl⟩ := List.mem_iff_getElem.1 hm
    exact h.now a q _ ha hq (List.getElem?_eq_getElem hq)
  · exact h.low t a m (by omega) ha hm
theorem Clo.done {n : Nat} {ms L : List (List Nat)} (hS : MadeS n ms L) (h : Clo ms L L.length 0) (a : List Nat) : a ∈ L ↔ Gen n ms a :=
  gen_closed hS.one hS.gen (fun a ha m hm => by
    obtain ⟨t, ht, rfl⟩ := List.mem_iff_getElem.1 ha
    exact h.low t _ m ht (List.getElem?_eq_getElem ht) hm) a
theorem MadeS.add {n : Nat} {ms L : List (List Nat)} (h : MadeS n ms L) {a m : List Nat} (ha : a ∈ L) (hm : m ∈ ms) : MadeS n ms (addL L (thenL a m)) :=
  ⟨addL_nodup h.nd, mem_addL.2 (.inl h.one), fun b hb => by
    rcases mem_addL.1 hb with h1 | rfl
    · exact h.gen b h1
    · exact .step a m (h.gen a ha) hm⟩

theorem add_any (n base G : Nat) (L : List (List Nat)) (x : List Nat) (w : World) (hn : n ≤ 7) (hM : Mem base w G (L.map (ext n))) (hbs : base ≤ w.heap.size) (hL : ∀ y ∈ L, IsP n y) (hx : IsP n x) (hlen : L.length ≤ 6000) :
    Calls Tryz.prog 97 #[.pointer (some ⟨G, 0, none⟩), mv (ext n x)] w fun e w' => e = .returned (.tuple #[]) ∧ Mem base w' G ((addL L x).map (ext n)) ∧ Below base w w' := by
  have hS : ∀ y ∈ L.map (ext n), Small y := fun y hy => by
    obtain ⟨z, hz, rfl⟩ := List.mem_map.1 hy
    exact (ext_isP (hL z hz) hn).small
  have hxS := (ext_isP hx hn).small
  rw [addL_ext hn (fun y hy => (hL y hy).len) hx.len]
  by_cases h : ext n x ∈ L.map (ext n)
  · have e : addL (L.map (ext n)) (ext n x) = L.map (ext n) := by unfold addL; rw [if_pos h]
    rw [e]
    exact add_yes base G _ _ w hM hbs hS hxS h
  · have e : addL (L.map (ext n)) (ext n x) = L.map (ext n) ++ [ext n x] := by unfold addL; rw [if_neg h]
    rw [e]
    exact add_no base G _ _ w hM hbs hS hxS h (by rw [List.length_map]; exact hlen)
theorem flat_range {L : List (List Nat)} : ∀ {i : Nat} {x : List Nat}, L[i]? = some x → ∀ j v, (mvL x)[j]? = some v → (L.flatMap mvL)[i * 7 + j]? = some v := by
  induction L with
  | nil => intro i x h; simp at h
  | cons y L ih =>
    intro i x h j v hv
    rw [List.flatMap_cons]
    cases i with
    | zero =>
      obtain rfl : y = x := by simpa using h
      rw [Nat.zero_mul, Nat.zero_add, List.getElem?_append_left (List.getElem?_eq_some_iff.1 hv).1]; exact hv
    | succ i =>
      rw [List.getElem?_append_right (by rw [mvL_len]; omega), mvL_len, show (i + 1) * 7 + j - 7 = i * 7 + j by omega]
      exact ih (by simpa using h) j v hv
/-- What the block of members shows to a reader. -/
theorem Mem.open {base G : Nat} {w : World} {L : List (List Nat)} (h : Mem base w G L) (hne : 0 < L.length) : ∃ g cap, w.cell? ⟨G, 0, none⟩ = some (.slice (some ⟨g, 0, none⟩) L.length cap) ∧ g < w.heap.size ∧ G < w.heap.size ∧ cap ≤ maxLen ∧ L.length ≤ cap ∧ ∀ i x, L[i]? = some x → w.rangeAt g (i * 7) (mvL x) := by
  obtain ⟨v, B, h1, h2, _⟩ := h
  obtain ⟨_, ⟨rfl, h0⟩ | ⟨g, cap, cur, rfl, _, h7, h8, h9, h10, ht⟩⟩ := h2
  · omega
  · refine ⟨g, cap, cell_of_row w G 0 _ _ _ h1, (Array.getElem?_eq_some_iff.1 h7).1, (Array.getElem?_eq_some_iff.1 h1).1, h9, h8, fun i x hx j v hv => ?_⟩
    rw [cell_of_row w g _ _ _ _ h7]
    have h3 := flat_range hx j v hv
    rw [← ht] at h3
    have hj : j < 7 := by have := (List.getElem?_eq_some_iff.1 hv).1; rwa [mvL_len] at this
    have hi : i < L.length := (List.getElem?_eq_some_iff.1 hx).1
    rw [List.getElem?_take, if_pos (by omega)] at h3
    rw [← Array.getElem?_toList]; exact h3
end Go.Proofs.YtgpkhfpejopacabGreatDoor.Gc

namespace Go.Proofs.YtgpkhfpejopacabGreatDoor.Gc
open Go.RowKit Go.Maps

set_option maxRecDepth 100000 in
set_option maxHeartbeats 4000000 in
theorem made_any (n : Nat) (ms : List (List Nat)) (v : Value) (w : World) (hn : n ≤ 7) (hk : ms.length ≤ 100000) (hv : Mvs w v (ms.map (ext n))) (hm : ∀ m ∈ ms, IsP n m) :
    Calls Tryz.prog 48 #[v] w fun e w' => (∃ (G : Nat) (L : List (List Nat)), e = .returned (.pointer (some ⟨G, 0, none⟩)) ∧ Mem w.heap.size w' G (L.map (ext n)) ∧ L.Nodup ∧ ∀ a, a ∈ L ↔ Gen n ms a) ∧ Below w.heap.size w w' := by
  obtain ⟨k, Hk⟩ : ∃ k, Hid (ms.length = k) := ⟨_, rfl⟩
  rw [Hk.out] at hk
  obtain ⟨a, cap, rfl, _⟩ := id hv
  have HV : Hid (Mvs w (.slice a (ms.map (ext n)).length cap) (ms.map (ext n))) := hv
  rw [List.length_map, Hk.out] at HV ⊢
  have HM : Hid (∀ m ∈ ms, IsP n m) := hm
  clear hv hm
  have hmm := @run_makeMap Tryz.prog
  have C0 := fun W => still_any W
  rw [← ext_id hn] at C0
  have hM0 : Mem w.heap.size ((w.alloc (.map #[] 0)).alloc (.cells #[.slice none 0 0, .map (some w.heap.size)] 147)) (w.heap.size + 1) (([] : List (List Nat)).map (ext n)) := by
    refine ⟨.slice none 0 0, w.heap.size, ?_, World.ownsRow_nil _ _ _ _, ?_, by omega, Nat.le_refl _⟩
    · have h := heap_alloc_new (w.alloc (.map #[] 0)) (.cells #[.slice none 0 0, .map (some w.heap.size)] 147)
      rw [World.size_alloc] at h; exact h
    · exact World.ownsMap.alloc (World.ownsMap_made w _ _ _) _
  have hB0 : Below w.heap.size w ((w.alloc (.map #[] 0)).alloc (.cells #[.slice none 0 0, .map (some w.heap.size)] 147)) := (balloc w _).alloc (by simp) _
  have C1 := fun W (h : Mem w.heap.size W (w.heap.size + 1) (([] : List (List Nat)).map (ext n))) (hs : w.heap.size ≤ W.heap.size) => add_any n w.heap.size (w.heap.size + 1) [] (idL n) W hn h hs (by simp) (isP_id n) (by simp)
  have e1 : addL [] (idL n) = [idL n] := by unfold addL; simp
  rw [e1] at C1
  obtain ⟨I, HI⟩ : ∃ I, Hid (mv (ext n (idL n)) = I) := ⟨_, rfl⟩
  rw [HI.out] at C0 C1
  clear e1
  go_enter Tryz.func48, Tryz.ntmps48
  go_wp2_with (first
    | (go_at_call 98; refine (C0 _).mono ?_; rintro e w1 ⟨rfl, b1⟩; have hM1 := hM0.below b1; replace b1 := Below.next hB0 b1)
    | (go_at_call 97; refine (C1 _ hM1 b1.size).mono ?_; rintro e w2 ⟨rfl, hM2, b2⟩; replace b2 := b1.trans b2))
  clear hM0 hM1 hB0 b1 C0 C1 hmm
  go_loopw [4] (fun i wr => ∃ (t : Nat) (L : List (List Nat)), i = .int .i64 t ∧ t ≤ L.length ∧ Hid (MadeS n ms L) ∧ Hid (Clo ms L t 0) ∧ Hid (Mem w.heap.size wr (w.heap.size + 1) (L.map (ext n))) ∧ Below w.heap.size w wr) (fun i _ => (5041 - intOf i).toNat)
  case atStart => exact ⟨0, [idL n], rfl, by simp, (⟨by simp, by simp, fun a h => by rw [List.mem_singleton.1 h]; exact .one⟩ : MadeS n ms [idL n]), Clo.start, hM2, b2⟩
  case round =>
    clear hM2 b2
    obtain ⟨t, L, rfl, ht, HS, HC, HME, hB⟩ := hrel
    have hlen := HS.out.len HM.out hn
    have hpos : 0 < L.length := List.length_pos_iff.2 fun e => by have := HS.out.one; rw [e] at this; cases this
    obtain ⟨r, Hr⟩ : ∃ r, Hid (L.length = r) := ⟨_, rfl⟩
    obtain ⟨g, gc, hc0, hgl, hGl, hgc, _, _⟩ := HME.out.open (by rw [List.length_map]; exact hpos)
    rw [List.length_map, Hr.out] at hc0
    rw [Hr.out] at ht hlen hpos
    by_cases hlt : t < r
    · have hti : (t : Int) < r := by omega
      have hdec : decide ((t : Int) < r) = true := by simp; omega
      go_wp2
      go_loopw [24] (fun i wr => ∃ (j : Nat) (L' : List (List Nat)), i = .int .i64 j ∧ j ≤ k ∧ t < L'.length ∧ Hid (MadeS n ms L') ∧ Hid (Clo ms L' t j) ∧ Hid (Mem w.heap.size wr (w.heap.size + 1) (L'.map (ext n))) ∧ Below w.heap.size w wr) (fun i _ => (k - intOf i).toNat)
      case atStart => exact ⟨0, L, rfl, by omega, by have := Hr.out; omega, HS, HC, HME, hB⟩
      case round =>
        clear hc0 hgl hgc hB HME HS HC hlen hpos Hr ht hlt hti hdec
        obtain ⟨j, L', rfl, hj, htl, HS, HC, HME, hB⟩ := hrel
        by_cases hlt : j < k
        · have hji : (j : Int) < k := by omega
          have hdec : decide ((j : Int) < k) = true := by simp; omega
          have hlen := HS.out.len HM.out hn
          obtain ⟨g, gc, hc0, hgl, hGl, hgc, _, hrg⟩ := HME.out.open (by rw [List.length_map]; omega)
          obtain ⟨r, Hr⟩ : ∃ r, Hid (L'.length = r) := ⟨_, rfl⟩
          rw [List.length_map, Hr.out] at hc0
          rw [Hr.out] at htl hlen
          have hti : (t : Int) < r := by omega
          obtain ⟨x, hx⟩ : ∃ x, L'[t]? = some x := ⟨L'[t]'(by have := Hr.out; omega), by simp⟩
          obtain ⟨m, hmj⟩ : ∃ m, ms[j]? = some m := ⟨ms[j]'(by have := Hk.out; omega), by simp⟩
          have hxP := HS.out.isP HM.out x (List.mem_of_getElem? hx)
          have hmP := HM.out m (List.mem_of_getElem? hmj)
          have hrx := hrg t (ext n x) (by rw [List.getElem?_map, hx]; rfl)
          obtain ⟨b, off, rfl, hbw, hrm⟩ := HV.out.at (i := j) (x := ext n m) (by rw [List.getElem?_map, hmj]; rfl)
          have hrm1 := range_below hrm hB hbw
          have hsz := hB.size
          have C := fun W => then_any (ext n x) (ext n m) W (ext_len _ _) (fun i hi => ext_lt hxP hn hi)
          rw [← ext_then hxP hn] at C
          have D := fun W (h : Mem w.heap.size W (w.heap.size + 1) (L'.map (ext n))) (hs : w.heap.size ≤ W.heap.size) => add_any n w.heap.size (w.heap.size + 1) L' (thenL x m) W hn h hs (HS.out.isP HM.out) (hxP.then hmP) (by have := Hr.out; omega)
          obtain ⟨Y, HY⟩ : ∃ Y, Hid (mv (ext n (thenL x m)) = Y) := ⟨_, rfl⟩
          rw [HY.out] at C D
          simp only [mv_eq] at C
          have hinX : (Tryz.prog.info? 95).map (·.size) = some (mvL (ext n x)).length := inf62L _
          have hinM : (Tryz.prog.info? 95).map (·.size) = some (mvL (ext n m)).length := inf62L _
          have hlM : (mvL (ext n m)).length = 7 := mvL_len _
          have h1M : ∀ u ∈ mvL (ext n m), u.oneCell' = true := mvL_one _
          obtain ⟨X, HX⟩ : ∃ X, Hid (mvL (ext n x) = X) := ⟨_, rfl⟩
          obtain ⟨M, HMM⟩ : ∃ M, Hid (mvL (ext n m) = M) := ⟨_, rfl⟩
          rw [HX.out] at C hinX hrx
          rw [HMM.out] at C hinM hrm1 hlM h1M
          have HXP : Hid (L'[t]? = some x ∧ ms[j]? = some m ∧ IsP n x ∧ IsP n m) := ⟨hx, hmj, hxP, hmP⟩
          have hone := all_oneCell_toArray h1M
          have hinM' : (Tryz.prog.info? 95).map (·.size) = some M.toArray.size := by simpa using hinM
          have hth : (wr.alloc (.cells #[.int .i64 0, .int .i64 0, .int .i64 0, .int .i64 0, .int .i64 0, .int .i64 0, .int .i64 0] 95)).there wr.heap.size 0 M.toArray.size := by
            intro q hq
            rw [Nat.zero_add, cell_of_row _ _ q _ _ _ (heap_alloc_new wr _), frozen_of_row _ _ q _ _ (heap_alloc_new wr _)]
            have hq7 : q < 7 := by simpa [hlM] using hq
            exact ⟨by simp [hq7], rfl⟩
          clear hx hmj hxP hmP hrg hrm h1M
          have hBa := balloc wr (.cells #[.int .i64 0, .int .i64 0, .int .i64 0, .int .i64 0, .int .i64 0, .int .i64 0, .int .i64 0] 95)
          have hBb : Below wr.heap.size wr ((wr.alloc (.cells #[.int .i64 0, .int .i64 0, .int .i64 0, .int .i64 0, .int .i64 0, .int .i64 0, .int .i64 0] 95)).setCells wr.heap.size 0 M) := hBa.trans (bsets (Nat.le_refl _) _ _ _)
          have hrM2 : ((wr.alloc (.cells #[.int .i64 0, .int .i64 0, .int .i64 0, .int .i64 0, .int .i64 0, .int .i64 0, .int .i64 0] 95)).setCells wr.heap.size 0 M).rangeAt wr.heap.size 0 M := World.rangeAt_setCells_same _ _ _ _ (by simpa using hth)
          obtain ⟨W, HW⟩ : ∃ W, Hid ((wr.alloc (.cells #[.int .i64 0, .int .i64 0, .int .i64 0, .int .i64 0, .int .i64 0, .int .i64 0, .int .i64 0] 95)).setCells wr.heap.size 0 M = W) := ⟨_, rfl⟩
          rw [HW.out] at hBb hrM2
          have hrx2 := range_below hrx hBb hgl
          have hc2 := (hBb.cell (p := ⟨w.heap.size + 1, 0, none⟩) hGl).trans hc0
          have HME2 : Hid (Mem w.heap.size W (w.heap.size + 1) (L'.map (ext n))) := HME.out.below hBb
          have hB2 := Below.next hB hBb
          go_wp2_with (first
            | (refine wpList_load_mid rfl 95 _ rfl b (off + j * 7) rfl M _ hrm1 und62 rfl hinM ?_)
            | (refine wpList_store_mid rfl 95 _ _ rfl wr.heap.size 0 M.toArray rfl rfl hth hinM' hone ?_; rw [show M.toArray.toList = M from rfl, HW.out]))
          clear hc0 hrx hrm1 hth
          refine wp_region_noPanic ?_
          refine wp_region_held_drew (S := fun _ => True) (by kernel_rfl) trivial (fun hSx => ?_)
          refine wpAnyH_take (i := 0) (v := .pointer (some ⟨w.heap.size + 1, 0, none⟩)) rfl (by kernel_rfl) (by kernel_rfl) (by kernel_rfl) (fun _ _ _ h => h) (Or.inl ⟨by rfl, fun w' hSw => by (try dsimp only at hSw); go_simp⟩) trivial ?_
          try simp only [Act.put, List.setIfInBounds_toArray]
          refine wpAnyH_take (i := 1) (v := .pointer (some ⟨w.heap.size + 1, 0, none⟩)) rfl (by kernel_rfl) (by kernel_rfl) (by kernel_rfl) (fun _ _ _ h => h) (Or.inl ⟨by rfl, fun w' hSw => by (try dsimp only at hSw); go_simp⟩) trivial ?_
          try simp only [Act.put]
          refine wpAnyH_take (i := 2) (v := .pointer (some ⟨w.heap.size + 1, 0, none⟩)) rfl (by kernel_rfl) (by kernel_rfl) (by kernel_rfl) (fun _ _ _ h => h) (Or.inl ⟨by rfl, fun w' hSw => by (try dsimp only at hSw); go_simp⟩) trivial ?_
          try simp only [Act.put]
          refine wpAnyH_take (i := 3) (v := .pointer (some ⟨w.heap.size + 1, 0, none⟩)) rfl (by kernel_rfl) (by kernel_rfl) (by kernel_rfl) (fun _ _ _ h => h) (Or.inl ⟨by rfl, fun w' hSw => by (try dsimp only at hSw); go_simp⟩) trivial ?_
          try simp only [Act.put]
          refine wpAnyH_take (i := 5) (v := .int .i64 t) rfl (by kernel_rfl) (by kernel_rfl) (by kernel_rfl) (fun _ _ _ h => h) (Or.inl ⟨by rfl, fun w' hSw => by (try dsimp only at hSw); go_simp⟩) trivial ?_
          try simp only [Act.put]
          refine wpAnyH_ready (rs := [4, 8]) (by kernel_rfl) (by simp) ?_
          refine AllReadyH.cons rfl (fun J hJ => ?_) (AllReadyH.cons rfl (fun J hJ => ?_) AllReadyH.nil)
          · go_simp
            refine hJ.out _ _ trivial (fun _ => ?_)
            clear hJ J
            try simp only [Act.put, List.setIfInBounds_toArray, List.set_cons_zero, List.set_cons_succ]
            refine wpAnyH_take (i := 6) (v := .pointer (some ⟨g, t * 7, none⟩)) rfl (by kernel_rfl) (by kernel_rfl) (by kernel_rfl) (fun _ _ _ h => h) (Or.inl ⟨by rfl, fun w' hSw => by (try dsimp only at hSw); go_simp⟩) trivial ?_
            try simp only [Act.put, List.setIfInBounds_toArray]
            refine wpAnyH_ready (rs := [7, 8]) (by kernel_rfl) (by simp) ?_
            refine AllReadyH.cons rfl (fun J hJ => ?_) (AllReadyH.cons rfl (fun J hJ => ?_) AllReadyH.nil)
            · refine step_load_mid (by rfl) 95 _ (by rfl) g (t * 7) (by rfl) X _ (by exact hrx2) und62 rfl hinX ?_
              refine hJ.out _ _ trivial (fun _ => ?_)
              clear hJ J
              try simp only [Act.put]
              refine wpAnyH_ready (rs := [8]) (by kernel_rfl) (by simp) ?_
              refine AllReadyH.cons rfl (fun J hJ => ?_) AllReadyH.nil
              refine step_load_mid (by rfl) 95 _ (by rfl) wr.heap.size 0 (by rfl) M _ (by exact hrM2) und62 rfl hinM ?_
              refine hJ.out _ _ trivial (fun _ => ?_)
              clear hJ J
              try simp only [Act.put]
              refine wpAnyH_ready (rs := [9]) (by kernel_rfl) (by simp) ?_
              refine AllReadyH.cons rfl (fun J hJ => ?_) AllReadyH.nil
              go_simp
              refine (C _).mono ?_
              rintro e w3 ⟨rfl, b3⟩
              have hM3 := Mem.below (w := W.drew) HME2.out b3
              have hB3 := Below.next hB2.drew b3
              go_wp2_with fail
              refine hJ.out _ _ trivial (fun _ => ?_)
              clear hJ J
              try simp only [Act.put, List.setIfInBounds_toArray, List.set_cons_zero, List.set_cons_succ]
              refine wpAnyH_ready (rs := [10]) (by kernel_rfl) (by simp) ?_
              refine AllReadyH.cons rfl (fun J hJ => ?_) AllReadyH.nil
              go_simp
              refine (D _ hM3 hB3.size).mono ?_
              rintro e w4 ⟨rfl, hM4, b4⟩
              have hB4 := hB3.trans b4
              go_wp2_with fail
              refine hJ.out _ _ trivial (fun _ => ?_)
              clear hJ J
              refine wpAnyH_done (by kernel_rfl) ?_ _
              refine NoPanic.normal ?_
              go_wp2_with fail
              go_roundw
              case rel =>
                have hxm := HXP.out
                exact ⟨j + 1, addL L' (thenL x m), by go_num, by omega, by have := addL_len L' (thenL x m); have := Hr.out; omega, HS.out.add (List.mem_of_getElem? hxm.1) (List.mem_of_getElem? hxm.2.1), HC.out.next (by have := Hr.out; omega) hxm.1 hxm.2.1, hM4, hB4⟩
              case measure => simp [intOf]; omega
            · refine step_load_mid (by rfl) 95 _ (by rfl) wr.heap.size 0 (by rfl) M _ (by exact hrM2) und62 rfl hinM ?_
              refine hJ.out _ _ trivial (fun _ => ?_)
              clear hJ J
              try simp only [Act.put]
              refine wpAnyH_ready (rs := [7]) (by kernel_rfl) (by simp) ?_
              refine AllReadyH.cons rfl (fun J hJ => ?_) AllReadyH.nil
              refine step_load_mid (by rfl) 95 _ (by rfl) g (t * 7) (by rfl) X _ (by exact hrx2) und62 rfl hinX ?_
              refine hJ.out _ _ trivial (fun _ => ?_)
              clear hJ J
              try simp only [Act.put]
              refine wpAnyH_ready (rs := [9]) (by kernel_rfl) (by simp) ?_
              refine AllReadyH.cons rfl (fun J hJ => ?_) AllReadyH.nil
              go_simp
              refine (C _).mono ?_
              rintro e w3 ⟨rfl, b3⟩
              have hM3 := Mem.below (w := W.drew) HME2.out b3
              have hB3 := Below.next hB2.drew b3
              go_wp2_with fail
              refine hJ.out _ _ trivial (fun _ => ?_)
              clear hJ J
              try simp only [Act.put, List.setIfInBounds_toArray, List.set_cons_zero, List.set_cons_succ]
              refine wpAnyH_ready (rs := [10]) (by kernel_rfl) (by simp) ?_
              refine AllReadyH.cons rfl (fun J hJ => ?_) AllReadyH.nil
              go_simp
              refine (D _ hM3 hB3.size).mono ?_
              rintro e w4 ⟨rfl, hM4, b4⟩
              have hB4 := hB3.trans b4
              go_wp2_with fail
              refine hJ.out _ _ trivial (fun _ => ?_)
              clear hJ J
              refine wpAnyH_done (by kernel_rfl) ?_ _
              refine NoPanic.normal ?_
              go_wp2_with fail
              go_roundw
              case rel =>
                have hxm := HXP.out
                exact ⟨j + 1, addL L' (thenL x m), by go_num, by omega, by have := addL_len L' (thenL x m); have := Hr.out; omega, HS.out.add (List.mem_of_getElem? hxm.1) (List.mem_of_getElem? hxm.2.1), HC.out.next (by have := Hr.out; omega) hxm.1 hxm.2.1, hM4, hB4⟩
              case measure => simp [intOf]; omega
          · refine step_load_mid (by rfl) 95 _ (by rfl) wr.heap.size 0 (by rfl) M _ (by exact hrM2) und62 rfl hinM ?_
            refine hJ.out _ _ trivial (fun _ => ?_)
            clear hJ J
            try simp only [Act.put]
            refine wpAnyH_ready (rs := [4]) (by kernel_rfl) (by simp) ?_
            refine AllReadyH.cons rfl (fun J hJ => ?_) AllReadyH.nil
            go_simp
            refine hJ.out _ _ trivial (fun _ => ?_)
            clear hJ J
            try simp only [Act.put, List.setIfInBounds_toArray, List.set_cons_zero, List.set_cons_succ]
            refine wpAnyH_take (i := 6) (v := .pointer (some ⟨g, t * 7, none⟩)) rfl (by kernel_rfl) (by kernel_rfl) (by kernel_rfl) (fun _ _ _ h => h) (Or.inl ⟨by rfl, fun w' hSw => by (try dsimp only at hSw); go_simp⟩) trivial ?_
            try simp only [Act.put, List.setIfInBounds_toArray]
            refine wpAnyH_ready (rs := [7]) (by kernel_rfl) (by simp) ?_
            refine AllReadyH.cons rfl (fun J hJ => ?_) AllReadyH.nil
            refine step_load_mid (by rfl) 95 _ (by rfl) g (t * 7) (by rfl) X _ (by exact hrx2) und62 rfl hinX ?_
            refine hJ.out _ _ trivial (fun _ => ?_)
            clear hJ J
            try simp only [Act.put]
            refine wpAnyH_ready (rs := [9]) (by kernel_rfl) (by simp) ?_
            refine AllReadyH.cons rfl (fun J hJ => ?_) AllReadyH.nil
            go_simp
            refine (C _).mono ?_
            rintro e w3 ⟨rfl, b3⟩
            have hM3 := Mem.below (w := W.drew) HME2.out b3
            have hB3 := Below.next hB2.drew b3
            go_wp2_with fail
            refine hJ.out _ _ trivial (fun _ => ?_)
            clear hJ J
            try simp only [Act.put, List.setIfInBounds_toArray, List.set_cons_zero, List.set_cons_succ]
            refine wpAnyH_ready (rs := [10]) (by kernel_rfl) (by simp) ?_
            refine AllReadyH.cons rfl (fun J hJ => ?_) AllReadyH.nil
            go_simp
            refine (D _ hM3 hB3.size).mono ?_
            rintro e w4 ⟨rfl, hM4, b4⟩
            have hB4 := hB3.trans b4
            go_wp2_with fail
            refine hJ.out _ _ trivial (fun _ => ?_)
            clear hJ J
            refine wpAnyH_done (by kernel_rfl) ?_ _
            refine NoPanic.normal ?_
            go_wp2_with fail
            go_roundw
            case rel =>
              have hxm := HXP.out
              exact ⟨j + 1, addL L' (thenL x m), by go_num, by omega, by have := addL_len L' (thenL x m); have := Hr.out; omega, HS.out.add (List.mem_of_getElem? hxm.1) (List.mem_of_getElem? hxm.2.1), HC.out.next (by have := Hr.out; omega) hxm.1 hxm.2.1, hM4, hB4⟩
            case measure => simp [intOf]; omega
        · obtain rfl : j = k := by omega
          have hkd : decide ((j : Int) < (j : Int)) = false := by simp
          have hlen := HS.out.len HM.out hn
          have ht5 : t < 5040 := by omega
          go_wp2
          go_roundw
          case rel =>
            refine ⟨t + 1, L', by go_num, by omega, HS, ?_, HME, hB⟩
            have h := HC.out
            rw [← Hk.out] at h
            exact h.turn
          case measure => simp [intOf]; omega
    · obtain rfl : t = r := by omega
      have hkd : decide ((t : Int) < (t : Int)) = false := by simp
      go_wp2
      go_ret
      refine ⟨⟨w.heap.size + 1, L, rfl, HME.out, HS.out.nd, fun a => ?_⟩, hB⟩
      have h := HC.out
      rw [← Hr.out] at h
      exact Clo.done HS.out h a

end Go.Proofs.YtgpkhfpejopacabGreatDoor.Gc

namespace Go.Proofs.YtgpkhfpejopacabGreatDoor.Gc
open Go.RowKit Go.Maps

theorem order_any (base G : Nat) (L : List (List Nat)) (w : World) (hM : Mem base w G L) (h0 : 0 < L.length) :
    Calls Tryz.prog 49 #[.pointer (some ⟨G, 0, none⟩)] w fun e w' => e = .returned (.int .i64 (L.length : Int)) ∧ w' = w := by
  obtain ⟨g, cap, hc, _, hG, _, _, _⟩ := hM.open h0
  obtain ⟨r, Hr⟩ : ∃ r, Hid (L.length = r) := ⟨_, rfl⟩
  rw [Hr.out] at hc ⊢
  clear hM h0
  go_enter Tryz.func49, Tryz.ntmps49
  go_wp2
  go_ret
  exact ⟨rfl, rfl⟩
/-- As many as there are. -/
theorem gen_len {n : Nat} {ms L : List (List Nat)} (hm : ∀ m ∈ ms, IsP n m) (nd : L.Nodup) (h : ∀ a, a ∈ L ↔ Gen n ms a) : L.length = (els n (Gen n ms)).length :=
  List.Perm.length_eq ((List.perm_ext_iff_of_nodup nd (els_nodup _ _)).2 fun a => by rw [h a, (gen_grp hm).mem])
theorem gen_perm {n : Nat} {ms L : List (List Nat)} (hm : ∀ m ∈ ms, IsP n m) (nd : L.Nodup) (h : ∀ a, a ∈ L ↔ Gen n ms a) : L.Perm (els n (Gen n ms)) :=
  (List.perm_ext_iff_of_nodup nd (els_nodup _ _)).2 fun a => by rw [h a, (gen_grp hm).mem]
theorem gen_bound {n : Nat} {ms L : List (List Nat)} (hm : ∀ m ∈ ms, IsP n m) (hn : n ≤ 7) (nd : L.Nodup) (h : ∀ a, a ∈ L ↔ Gen n ms a) : 0 < L.length ∧ L.length ≤ 5040 := by
  have hS : MadeS n ms L := ⟨nd, (h _).2 .one, fun a ha => (h a).1 ha⟩
  exact ⟨List.length_pos_iff.2 (fun e => by have := hS.one; rw [e] at this; cases this), hS.len hm hn⟩
/-- How many members. -/
noncomputable def ordG (n : Nat) (ms : List (List Nat)) : Nat := (els n (Gen n ms)).length
/-- The makers, as they lie in memory, and what is known of them. -/
structure Mk (n : Nat) (ms : List (List Nat)) (v : Value) (w : World) : Prop where
  n1 : 1 ≤ n
  n7 : n ≤ 7
  len : ms.length ≤ 4
  isP : ∀ m ∈ ms, IsP n m
  sl : SlSl w v ms
theorem Mk.below {n : Nat} {ms : List (List Nat)} {v : Value} {w w' : World} (h : Mk n ms v w) (hb : Below w.heap.size w w') : Mk n ms v w' := ⟨h.n1, h.n7, h.len, h.isP, h.sl.below hb⟩
set_option maxRecDepth 100000 in
theorem Mk.check {n : Nat} {ms : List (List Nat)} {v : Value} {w : World} (h : Mk n ms v w) : Calls Tryz.prog 40 #[.int .i64 (n : Int), v] w fun e w' => e = .returned (.int .i64 0) ∧ Below w.heap.size w w' := by
  have := GCheck_any n _ v w h.sl.sls (fun l hl => by
    obtain ⟨m, hm, rfl⟩ := List.mem_map.1 hl
    rw [List.length_map, (h.isP m hm).len]; have := h.n7; unfold maxLen; omega) (by rw [List.length_map]; have := h.len; unfold maxLen; omega)
  rw [gF_isP h.n1 h.n7 h.len h.isP] at this
  exact this
set_option maxRecDepth 100000 in
theorem Mk.moves {n : Nat} {ms : List (List Nat)} {v : Value} {w : World} (h : Mk n ms v w) : Calls Tryz.prog 42 #[v] w fun e w' => (∃ x, e = .returned x ∧ Mvs w' x (ms.map (ext n))) ∧ Below w.heap.size w w' :=
  movesOf_any n ms v w h.n7 h.n1 h.len h.sl h.isP
set_option maxRecDepth 100000 in
theorem Mk.made {n : Nat} {ms : List (List Nat)} {v : Value} {w : World} (h : Mk n ms v w) (x : Value) (W : World) (hx : Mvs W x (ms.map (ext n))) : Calls Tryz.prog 48 #[x] W fun e w' => (∃ (G : Nat) (L : List (List Nat)), e = .returned (.pointer (some ⟨G, 0, none⟩)) ∧ Mem W.heap.size w' G (L.map (ext n)) ∧ L.Nodup ∧ ∀ a, a ∈ L ↔ Gen n ms a) ∧ Below W.heap.size W w' :=
  made_any n ms x W h.n7 (by have := h.len; omega) hx h.isP

set_option maxRecDepth 100000 in
set_option maxHeartbeats 1000000 in
theorem Order_ok (n : Nat) (ms : List (List Nat)) (v : Value) (w : World) (h : Mk n ms v w) :
    Calls Tryz.prog 15 #[.int .i64 (n : Int), v] w fun e w' => e = .returned (.tuple #[.int .i64 (ordG n ms : Int), .int .i64 0]) ∧ Below w.heap.size w w' := by
  have C1 := h.check
  have C2 := fun W (hb : Below w.heap.size w W) => (h.below hb).moves
  have C3 := fun x W hx => h.made x W hx
  have C4 := fun base G (L : List (List Nat)) W (hM : Mem base W G (L.map (ext n))) (nd : L.Nodup) (hg : ∀ a, a ∈ L ↔ Gen n ms a) => order_any base G _ W hM (by rw [List.length_map]; exact (gen_bound h.isP h.n7 nd hg).1)
  have e1 : ∀ (L : List (List Nat)), L.Nodup → (∀ a, a ∈ L ↔ Gen n ms a) → (L.map (ext n)).length = ordG n ms := fun L nd hg => by rw [List.length_map]; exact gen_len h.isP nd hg
  have E1 : Hid (∀ (L : List (List Nat)), L.Nodup → (∀ a, a ∈ L ↔ Gen n ms a) → (L.map (ext n)).length = ordG n ms) := e1
  clear e1 h
  go_enter Tryz.func15, Tryz.ntmps15
  go_wp2_with (first
    | (go_at_call 40; refine C1.mono ?_; rintro e w1 ⟨rfl, b1⟩)
    | (go_at_call 42; refine (C2 _ b1).mono ?_; rintro e w2 ⟨⟨x, rfl, hx⟩, b2⟩; replace b2 := Below.next b1 b2)
    | (go_at_call 48; refine (C3 _ _ hx).mono ?_; rintro e w3 ⟨⟨G, L, rfl, hM, nd, hg⟩, b3⟩; replace b3 := Below.next b2 b3)
    | (go_at_call 49; refine (C4 _ _ _ _ hM nd hg).mono ?_; rw [E1.out L nd hg]; rintro e w4 ⟨rfl, rfl⟩))
  exact bodyPost_ret (v := .tuple #[.int .i64 (ordG n ms : Int), .int .i64 0]) (by simp [results, Tryz.results15, go_sem]) rfl ⟨rfl, b3⟩

set_option maxRecDepth 100000 in
set_option maxHeartbeats 1000000 in
theorem Has_ok (n : Nat) (ms : List (List Nat)) (v : Value) (a : List Nat) (u : Value) (w : World) (h : Mk n ms v w) (hu : Sl w u (a.map Int.ofNat)) (ha : IsP n a) :
    Calls Tryz.prog 20 #[.int .i64 (n : Int), v, u] w fun e w' => (∃ b : Bool, e = .returned (.tuple #[.bool b, .int .i64 0]) ∧ (b = true ↔ Gen n ms a)) ∧ Below w.heap.size w w' := by
  have C1 := h.check
  have C2 := fun W (hb : Below w.heap.size w W) => (h.below hb).moves
  have C3 := fun x W hx => h.made x W hx
  have C4 := fun W (hb : Below w.heap.size w W) => checkOne_any n _ u W (hu.below hb) (by rw [List.length_map, ha.len]; have := h.n7; unfold maxLen; omega)
  rw [mF_isP h.n7 ha] at C4
  have C5 := fun W (hb : Below w.heap.size w W) => moveOf_any n a u W h.n7 h.n1 (hu.below hb) ha.len
  have C6 := fun base G (L : List (List Nat)) W (hM : Mem base W G (L.map (ext n))) (hg : ∀ a, a ∈ L ↔ Gen n ms a) => has_any base G _ (ext n a) W hM (fun y hy => by
    obtain ⟨z, hz, rfl⟩ := List.mem_map.1 hy
    exact (ext_isP (((hg z).1 hz).isP h.isP) h.n7).small) (ext_isP ha h.n7).small
  have E1 : Hid (∀ (L : List (List Nat)), (∀ a, a ∈ L ↔ Gen n ms a) → (ext n a ∈ L.map (ext n) ↔ Gen n ms a)) := fun L hg => by
    rw [← hg a, List.mem_map]
    exact ⟨fun ⟨y, hy, e⟩ => ext_inj (((hg y).1 hy).isP h.isP).len ha.len h.n7 e ▸ hy, fun hy => ⟨a, hy, rfl⟩⟩
  obtain ⟨ua, uc, hue⟩ : ∃ ua uc, u = .slice ua n uc := by obtain ⟨ua, uc, e, _⟩ := hu; exact ⟨ua, uc, by rw [e, List.length_map, ha.len]⟩
  subst hue
  obtain ⟨X, HX⟩ : ∃ X, Hid (mv (ext n a) = X) := ⟨_, rfl⟩
  rw [HX.out] at C5 C6
  clear h hu ha
  go_enter Tryz.func20, Tryz.ntmps20
  go_wp2_with (first
    | (go_at_call 40; refine C1.mono ?_; rintro e w1 ⟨rfl, b1⟩)
    | (go_at_call 55; refine (C4 _ b1).mono ?_; rintro e w5 ⟨rfl, b5⟩; replace b5 := Below.next b1 b5)
    | (go_at_call 42; refine (C2 _ b5).mono ?_; rintro e w2 ⟨⟨x, rfl, hx⟩, b2⟩; replace b2 := Below.next b5 b2)
    | (go_at_call 48; refine (C3 _ _ hx).mono ?_; rintro e w3 ⟨⟨G, L, rfl, hM, nd, hg⟩, b3⟩; replace b3 := Below.next b2 b3)
    | (go_at_call 57; refine (C5 _ b3).mono ?_; rintro e w6 ⟨rfl, b6⟩; replace hM := hM.below b6; replace b6 := Below.next b3 b6)
    | (go_at_call 56; refine (C6 _ _ _ _ hM hg).mono ?_; obtain ⟨B, HBB⟩ : ∃ B : Bool, Hid (decide (ext n a ∈ L.map (ext n)) = B) := ⟨_, rfl⟩; rw [HBB.out]; rintro e w7 ⟨rfl, b7⟩; replace b7 := Below.next b6 b7))
  refine bodyPost_ret (v := .tuple #[.bool B, .int .i64 0]) (by simp [results, Tryz.results20, go_sem]) rfl ?_
  exact ⟨⟨B, rfl, by rw [← HBB.out, decide_eq_true_iff]; exact E1.out L hg⟩, b7⟩

set_option maxRecDepth 100000 in
theorem Orbits_bad (n : Int) (ls : List (List Int)) (v : Value) (w : World) (hv : Sls w v ls) (hls : ∀ l ∈ ls, l.length ≤ maxLen) (hlm : ls.length ≤ maxLen) (z : Int) (hz : gF n ls = z) (h0 : z ≠ 0) :
    Calls Tryz.prog 12 #[.int .i64 n, v] w fun e w' => e = .returned (.tuple #[.slice none 0 0, .int .i64 z]) ∧ Below w.heap.size w w' := by
  have C := GCheck_any n ls v w hv hls hlm
  rw [hz] at C
  have hzd : (z != 0) = true := by simpa using h0
  obtain ⟨a, cap, rfl, _⟩ := hv
  clear h0 hz
  go_enter Tryz.func12, Tryz.ntmps12
  go_wp2_with (first | (go_at_call 40; refine C.mono ?_; rintro e w1 ⟨rfl, b1⟩))
  exact bodyPost_ret (v := .tuple #[.slice none 0 0, .int .i64 z]) (by simp [results, Tryz.results12, go_sem]) rfl ⟨rfl, b1⟩

end Go.Proofs.YtgpkhfpejopacabGreatDoor.Gc
