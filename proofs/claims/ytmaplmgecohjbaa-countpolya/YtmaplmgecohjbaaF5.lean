/- The library's Grow by its contract; the walk of its Concat, at one number and some others. -/
import Derived.Test.YtmaplmgecohjbaaG57
import Derived.Test.YtmaplmgecohjbaaE5
import Derived.Shelf.Spec.SlicesGrow
namespace Go.Proofs.Ytmaplmgecohjbaa
open Go.Shelf Go.RowKit

def growInt_ren : Go.Shelf.Ren := ⟨fun | 4 => 83 | n => n, fun | 22 => 40 | 25 => 3 | 3 => 3 | 4 => 4 | 9 => 9 | 20 => 20 | 0 => 0 | n => n, fun | n => n⟩
theorem growInt : Go.Proofs.Lays8.n4 Try.prog growInt_ren := {
  mixed := by kernel_rfl
  f4 := ⟨Try.f83.name, by decide, Try.func83.trans (congrArg some (by kernel_rfl))⟩
  t0 := Try.underlying0
  a0 := Try.isAgg0
  z0 := Try.sizeOf0
  v0 := Try.zeroValue0
  t3 := Try.underlying3
  a3 := Try.isAgg3
  z3 := Try.sizeOf3
  v3 := Try.zeroValue3
  t4 := Try.underlying4
  a4 := Try.isAgg4
  z4 := Try.sizeOf4
  v4 := Try.zeroValue4
  t9 := Try.underlying9
  a9 := Try.isAgg9
  z9 := Try.sizeOf9
  v9 := Try.zeroValue9
  t20 := Try.underlying20
  a20 := Try.isAgg20
  z20 := Try.sizeOf20
  v20 := Try.zeroValue20
  t22 := Try.underlying40
  a22 := Try.isAgg40
  z22 := Try.sizeOf40
  v22 := Try.zeroValue40 }

/-- Grow of nothing: a row of one's own with room for n. -/
theorem Grow_any (n : Nat) (w : World) (h1 : 1 ≤ n) (h9 : n ≤ 100) :
    Calls Try.prog 83 #[.slice none 0 0, .int .i64 (n : Int)] w fun e w' => ∃ cap, e = .returned (.slice (some ⟨w.heap.size, 0, none⟩) 0 cap) ∧ w'.ownsRow w.heap.size 3 1 (.slice (some ⟨w.heap.size, 0, none⟩) 0 cap) 0 [] ∧ Below w.heap.size w w' := by
  obtain ⟨i3, hi, hz0, hz1, hz2⟩ := info3
  have C := Any8.slices_Grow_grow growInt i3 (.int .i64 0) hi hz0 (by omega) none 0 0 n [] w (Nat.le_refl _) (by omega) (by rw [hz2]; omega) (by omega) (by simp) (fun _ => rfl) (fun a h => by cases h)
  change Calls Try.prog 83 _ _ _ at C
  refine C.mono ?_
  rintro e w' ⟨rfl, rfl⟩
  obtain ⟨G, hG⟩ : ∃ G, G = grownCap w (0 + n) 0 (growInt_ren.t 25) := ⟨_, rfl⟩
  have hge : 0 + n ≤ G := by rw [hG]; exact grownCap_ge w _ _ _
  have hle : G ≤ maxLen := by rw [hG]; exact grownCap_le_maxLen w (0 + n) 0 _ (by unfold maxLen; omega)
  rw [← hG]
  refine ⟨G, rfl, ⟨by simp, .inr ⟨w.heap.size, G, _, rfl, Nat.le_refl _, heap_alloc_new w.drew _, Nat.zero_le _, hle, ?_, by simp⟩⟩, (Below.refl _ w).drew.alloc (Nat.le_refl _) _⟩
  simp [size_zeroCells, Value.cells]
  omega

theorem lenF_take {ls : List (List Int)} {j : Nat} {l : List Int} (h : ls[j]? = some l) : (ls.take (j + 1)).flatten = (ls.take j).flatten ++ l := by
  have hj := (List.getElem?_eq_some_iff.1 h).1
  rw [List.take_add_one, h, Option.toList_some, List.flatten_append]
  simp
theorem lenF_le (ls : List (List Int)) (j : Nat) : (ls.take j).flatten.length ≤ ls.flatten.length := by
  conv => rhs; rw [← List.take_append_drop j ls, List.flatten_append, List.length_append]
  omega

set_option maxRecDepth 100000 in
set_option maxHeartbeats 2000000 in
theorem Concat_any (ls : List (List Int)) (v : Value) (w : World) (hv : Sls w v ls) (hne : ∀ l ∈ ls, 1 ≤ l.length) (hl : ls.length ≤ 100) (h1 : 1 ≤ ls.flatten.length) (h9 : ls.flatten.length ≤ 100) :
    Calls Try.prog 64 #[v] w fun e w' => ∃ u, e = .returned u ∧ w'.ownsRow w.heap.size 3 1 u ls.flatten.length (ls.flatten.map (Value.int .i64)) ∧ Below w.heap.size w w' := by
  obtain ⟨i3, ti, tz0, tz1, tz2⟩ := info3
  obtain ⟨r, Hr⟩ : ∃ r, Hid (ls.length = r) := ⟨_, rfl⟩
  obtain ⟨T, HT⟩ : ∃ T, Hid (ls.flatten.length = T) := ⟨_, rfl⟩
  have HV : Hid (Sls w v ls) := hv
  obtain ⟨a, cap, rfl, hc⟩ := hv
  have HC : Hid (∀ j, j < r → ∃ b off va n c l, a = some ⟨b, off, none⟩ ∧ ls[j]? = some l ∧ l.length = n ∧ 1 ≤ n ∧ (∀ W, Below w.heap.size w W → W.cell? ⟨b, off + j, none⟩ = some (.slice (some va) n c) ∧ ∀ q z, (l.map (Value.int .i64))[q]? = some z → W.cell? (va.add q) = some z)) := fun j hj => by
    have hj' : j < ls.length := by rw [Hr.out]; exact hj
    obtain ⟨b, off, u, e1, e2, a2, c2, rfl, h3⟩ := hc j ls[j] (List.getElem?_eq_getElem hj')
    have hn1 := hne ls[j] (List.getElem_mem hj')
    obtain ⟨b2, o2, rfl, _⟩ := h3 0 (by omega)
    refine ⟨b, off, ⟨b2, o2, none⟩, ls[j].length, c2, ls[j], e1, List.getElem?_eq_getElem hj', rfl, hn1, fun W hW => ⟨?_, fun q z hz => ?_⟩⟩
    · rw [hW.cell (p := ⟨b, off + j, none⟩) (block_lt_of_cell e2)]; exact e2
    · have hq : q < ls[j].length := by have := (List.getElem?_eq_some_iff.1 hz).1; simpa using this
      obtain ⟨b3, o3, e3, h4⟩ := h3 q hq
      simp only [Option.some.injEq, Addr.mk.injEq, and_true] at e3
      obtain ⟨rfl, rfl⟩ := e3
      rw [Addr.add_mid, hW.cell (p := ⟨b2, o2 + q, none⟩) (block_lt_of_cell h4), h4]
      simp [hq] at hz ⊢
      exact hz
  have HLE : Hid (∀ j, (ls.take j).flatten.length ≤ T) := fun j => by rw [← HT.out]; exact lenF_le ls j
  rw [HT.out] at h1 h9 ⊢
  rw [Hr.out] at hl ⊢
  have C := fun W => Grow_any T W h1 h9
  clear hc hne
  go_enter Try.func64, Try.ntmps64
  go_wp2
  go_loopw [3, 11] (fun s i wr => ∃ j m : Nat, i = .int .i64 (j : Int) ∧ j ≤ r ∧ s = .int .i64 (m : Int) ∧ Hid ((ls.take j).flatten.length = m) ∧ wr = w) (fun _ i _ => (r - intOf i).toNat)
  case atStart => exact ⟨0, 0, rfl, by omega, rfl, (by simp : (ls.take 0).flatten.length = 0), rfl⟩
  case round =>
    obtain ⟨j, m, rfl, hj, rfl, HM, hw⟩ := hrel
    replace hw := hw.symm
    subst hw
    by_cases hlt : j < r
    · have hji : (j : Int) < r := by omega
      have hj0 : (0 : Int) ≤ (j : Int) := by omega
      have hdec : decide ((j : Int) < r) = true := by simp; omega
      obtain ⟨b, off, va, n, c, l, rfl, hlj, hln, hn1, hcell⟩ := HC.out j hlt
      have hc1 := (hcell _ (Below.refl _ _)).1
      have hm2 := HLE.out (j + 1)
      rw [lenF_take hlj, List.length_append, HM.out, hln] at hm2
      have HM2 : Hid ((ls.take (j + 1)).flatten.length = m + n) := by
        show _ = _
        rw [lenF_take hlj, List.length_append, HM.out, hln]
      have hd0 : decide ((m : Int) + (n : Int) < 0) = false := by simp; omega
      clear hcell hlj
      go_wp2
      go_roundw
      case rel => exact ⟨j + 1, m + n, by go_num, by omega, by go_num, HM2, trivial⟩
      case measure => simp [intOf]; omega
    · have hdec : decide ((j : Int) < r) = false := by simp; omega
      obtain rfl : r = j := by omega
      have hmT : m = T := by
        rw [← HM.out, ← HT.out, List.take_of_length_le (by rw [Hr.out]; omega)]
      subst hmT
      go_wp2_with (go_at_call 83; refine (C _).mono ?_; rintro e w1 ⟨gc, rfl, hown, b1⟩)
      go_loopw [6, 27] (fun u i wr => ∃ j : Nat, i = .int .i64 (j : Int) ∧ j ≤ r ∧ wr.ownsRow w.heap.size 3 1 u (ls.take j).flatten.length ((ls.take j).flatten.map (Value.int .i64)) ∧ Below w.heap.size w wr) (fun _ i _ => (r - intOf i).toNat)
      case atStart => exact ⟨0, rfl, by omega, hown, b1⟩
      case round =>
        clear hown b1
        obtain ⟨j, rfl, hj2, hown, b2⟩ := hrel
        obtain ⟨sa, sl, sc, rfl⟩ := ownsRow_slice hown
        have HM0 := HLE.out j
        obtain ⟨m2, Hm2⟩ : ∃ m2, Hid ((ls.take j).flatten.length = m2) := ⟨_, rfl⟩
        rw [Hm2.out] at hown HM0
        by_cases hlt2 : j < r
        · have hji : (j : Int) < r := by omega
          have hj0 : (0 : Int) ≤ (j : Int) := by omega
          have hdec2 : decide ((j : Int) < r) = true := by simp; omega
          obtain ⟨b, off, va, n, c, l, rfl, hlj, hln, hn1, hcell⟩ := HC.out j hlt2
          obtain ⟨hc1, hnews⟩ := hcell _ b2
          have hm3 := HLE.out (j + 1)
          rw [lenF_take hlj, List.length_append, Hm2.out, hln] at hm3
          have HF : Hid ((ls.take (j + 1)).flatten.length = m2 + n ∧ (ls.take (j + 1)).flatten.map (Value.int .i64) = (ls.take j).flatten.map (Value.int .i64) ++ l.map (Value.int .i64)) := by
            refine ⟨?_, ?_⟩
            · rw [lenF_take hlj, List.length_append, Hm2.out, hln]
            · rw [lenF_take hlj, List.map_append]
          have hs2 := b2.size
          have hnl : (l.map (Value.int .i64)).length = n * 1 := by rw [List.length_map, hln, Nat.mul_one]
          have hn1c : ∀ z ∈ l.map (Value.int .i64), z.oneCell' = true := fun z hz => by
            obtain ⟨x, _, rfl⟩ := List.mem_map.1 hz
            rfl
          clear hcell hlj
          go_wp2_with (first
            | (at_builtin; refine wpList_append_own _ rfl _ _ 40 rfl w.heap.size 3 i3 (.int .i64 0) 1 8 und22 ti tz0 tz1 tz2 rfl (by decide) (.slice sa sl sc) m2 _ rfl hown va n c (l.map (Value.int .i64)) rfl hnl hnews hn1c (by unfold maxLen; omega) (by omega) hs2 ?_; intro v' w4 hown4 hgrow _; obtain ⟨a4, l4, c4, rfl⟩ := ownsRow_slice hown4))
          go_roundw
          case rel =>
            refine ⟨j + 1, by go_num, by omega, by rw [HF.out.1, HF.out.2]; exact hown4, b2.grown hgrow b2.size (fun q hq => (hown.lt q hq).1)⟩
          case measure => simp [intOf]; omega
        · have hdec2 : decide ((j : Int) < r) = false := by simp; omega
          have HE : Hid ((ls.take j).flatten = ls.flatten) := by
            show _ = _
            rw [List.take_of_length_le (by rw [Hr.out]; omega)]
          go_wp2
          go_ret
          refine ⟨_, rfl, ?_, b2⟩
          rw [HE.out] at hown
          have e : m2 = m := by rw [← Hm2.out, HE.out, HT.out]
          rw [← e]
          exact hown

end Go.Proofs.Ytmaplmgecohjbaa
