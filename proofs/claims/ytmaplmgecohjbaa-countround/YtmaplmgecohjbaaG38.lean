/- The walk of movesOf. -/
import Derived.Test.YtmaplmgecohjbaaG43
import Derived.Test.YtmaplmgecohjbaaGM
namespace Go.Proofs.Ytmaplmgecohjbaa
open Go.RowKit

set_option maxRecDepth 100000 in
set_option maxHeartbeats 1000000 in
theorem movesOf_any (n : Nat) (ms : List (List Nat)) (v : Value) (w : World) (hn : n ≤ 7) (h1 : 1 ≤ n) (hk : ms.length ≤ 4) (hv : SlSl w v ms) (hm : ∀ m ∈ ms, IsP n m) :
    Calls Try.prog 52 #[v] w fun e w' => (∃ x, e = .returned x ∧ Mvs w' x (ms.map (ext n))) ∧ Below w.heap.size w w' := by
  obtain ⟨k, Hk⟩ : ∃ k, Hid (ms.length = k) := ⟨_, rfl⟩
  rw [Hk.out] at hk
  obtain ⟨a, cap, rfl, _⟩ := id hv
  have HV : Hid (SlSl w (.slice a ms.length cap) ms) := hv
  have HM : Hid (∀ m ∈ ms, m.length = n) := fun m h => (hm m h).len
  rw [Hk.out] at HV ⊢
  clear hv hm
  obtain ⟨i62, hi, hz0, hz1, hz2⟩ := info62
  have hmk : ∀ w : World, (Instr.makeSlice 69 (.int .i64 (k : Int)) (.int .i64 (k : Int))).run Try.prog w = .ok (.slice (some ⟨w.heap.size, 0, none⟩) k k) (w.alloc (.cells (madeCells (mrow fun _ => 0) (k * 7)) 90)) := fun w => by
    have h := run_make (P := Try.prog) w 69 90 i62 (.agg (mrow fun _ => 0)) und58 hi hz0 .i64 .i64 k k (by omega) (by omega) (by rw [hz2]; omega) (by omega)
    rw [hz1] at h
    simpa [Value.cells] using h
  clear hi hz0 hz1 hz2
  have hT0 := made_there w k 90
  have hB0 := balloc w (.cells (madeCells (mrow fun _ => 0) (k * 7)) 90)
  have hs0 : w.heap.size < (w.alloc (.cells (madeCells (mrow fun _ => 0) (k * 7)) 90)).heap.size := by simp
  go_enter Try.func52, Try.ntmps52
  go_wp2
  go_loopw [11] (fun i wr => ∃ j : Nat, i = .int .i64 j ∧ j ≤ k ∧ Hid (wr.there w.heap.size 0 (k * 7)) ∧ Hid (∀ (t : Nat) (l : List Nat), t < j → ms[t]? = some l → wr.rangeAt w.heap.size (t * 7) (mvL (ext n l))) ∧ w.heap.size < wr.heap.size ∧ Below w.heap.size w wr) (fun i _ => (k - intOf i).toNat)
  case atStart => exact ⟨0, rfl, by omega, hT0, (fun t l h => by omega : ∀ (t : Nat) (l : List Nat), t < 0 → _), hs0, hB0⟩
  case round =>
    clear hT0 hB0 hs0
    obtain ⟨j, rfl, hj, HT, HR, hs, hB⟩ := hrel
    by_cases hlt : j < k
    · have hji : (j : Int) < k := by omega
      have hdec : decide ((j : Int) < k) = true := by simp; omega
      obtain ⟨l, hl⟩ : ∃ l, ms[j]? = some l := ⟨ms[j]'(by have := Hk.out; omega), by simp⟩
      have hll := HM.out l (List.mem_of_getElem? hl)
      obtain ⟨b, off, u, rfl, hbw, hcu, hsu⟩ := HV.out.at hl
      have hcu2 := (hB.cell (p := ⟨b, off + j, none⟩) hbw).trans hcu
      have C := fun W (h : Below w.heap.size w W) => moveOf_any n l u W hn h1 (hsu.below h) hll
      have hcu3 : wr.cell? ⟨b, off + j, none⟩ = some u := hcu2
      have HL : Hid (ms[j]? = some l) := hl
      have HLL : Hid (l.length = n) := hll
      have hux : ∃ ua uc, u = .slice ua n uc := by
        obtain ⟨ua, uc, e, _⟩ := hsu
        exact ⟨ua, uc, by rw [e, List.length_map, hll]⟩
      obtain ⟨ua, uc, rfl⟩ := hux
      clear hcu hcu2 hl hsu hll
      obtain ⟨x, Hx⟩ : ∃ x, Hid (ext n l = x) := ⟨_, rfl⟩
      rw [Hx.out] at C
      simp only [mv_eq] at C
      have hln := mvL_len x
      have hone := all_oneCell_toArray (mvL_one x)
      have hinf : (Try.prog.info? 90).map (·.size) = some (mvL x).toArray.size := by simpa using inf62L x
      obtain ⟨X, HX⟩ : ∃ X, Hid (mvL x = X) := ⟨_, rfl⟩
      rw [HX.out] at C hln hone hinf
      go_wp2_with (first
        | (go_at_call 74; refine (C _ hB).mono ?_; rintro e w1 ⟨rfl, b1⟩; have hT1 := there_below HT.out b1 hs; have hT2 := there_sub hT1 hlt; rw [Nat.zero_add] at hT2)
        | (refine wpList_store_mid rfl 90 _ _ rfl w.heap.size (j * 7) X.toArray (by rfl) rfl (by simpa [hln] using hT2) hinf hone ?_))
      go_roundw
      case rel =>
        refine ⟨j + 1, by go_num, by omega, World.there_setCells hT1 _ _ _, (fun t l' ht hl' => ?_ : ∀ (t : Nat) (l : List Nat), t < j + 1 → _), by simp [sets_size]; have := b1.size; omega, (hB.trans (b1.mono (by omega))).trans (bsets (Nat.le_refl _) _ _ _)⟩
        by_cases e : t = j
        · subst e
          obtain rfl : l = l' := by have := HL.out; rw [hl'] at this; simpa using this.symm
          rw [Hx.out, HX.out]
          exact World.rangeAt_setCells_same _ _ _ _ (by rw [hln]; exact hT2)
        · exact World.rangeAt_setCells_apart (range_below (HR.out t l' (by omega) hl') b1 hs) _ _ _ (.inr (.inl (by rw [mvL_len]; omega)))
      case measure => simp [intOf]; omega
    · obtain rfl : j = k := by omega
      have hkd : decide ((j : Int) < (j : Int)) = false := by simp
      go_wp2
      go_ret
      refine ⟨⟨_, rfl, some ⟨w.heap.size, 0, none⟩, j, by rw [List.length_map, Hk.out]; rfl, fun i x hx => ?_⟩, hB⟩
      rw [List.getElem?_map] at hx
      cases he : ms[i]? with
      | none => rw [he] at hx; cases hx
      | some l =>
        rw [he] at hx
        obtain rfl : ext n l = x := by simpa using hx
        have hi' : i < ms.length := (List.getElem?_eq_some_iff.1 he).1
        exact ⟨w.heap.size, 0, rfl, hs, by rw [Nat.zero_add]; exact HR.out i l (by rw [← Hk.out]; exact hi') he⟩

end Go.Proofs.Ytmaplmgecohjbaa
