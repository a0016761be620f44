/- The walks of allBelow and monic. -/
import Derived.Test.YtcjkcgfohmhbcabDoorBaseB
import Derived.Laws.CopyOwn
namespace Go.Proofs.YtcjkcgfohmhbcabDoor.Fd
open Go.RowKit

def inLB (bd : Int) (l : List Int) : Bool := l.all fun x => decide (0 ≤ x) && decide (x < bd)
theorem inLB_iff (bd : Int) (l : List Int) : inLB bd l = true ↔ inL bd l := by
  unfold inLB inL
  rw [List.all_eq_true]
  constructor
  · intro h j hj
    have := h l[j] (List.getElem_mem hj)
    simpa [hj] using this
  · intro h x hx
    obtain ⟨j, hj, rfl⟩ := List.mem_iff_getElem.1 hx
    have := h j hj
    simpa [hj] using this
theorem inLB_no {bd : Int} {l : List Int} (h : ¬ inL bd l) : inLB bd l = false := by
  rw [Bool.eq_false_iff]; exact fun e => h ((inLB_iff bd l).1 e)

set_option maxRecDepth 100000 in
set_option maxHeartbeats 400000 in
theorem allBelow_any (l : List Int) (v : Value) (bd : Int) (w : World) (hl : Sl w v l) (hll : l.length ≤ maxLen) :
    Calls Tryd.prog 59 #[v, .int .i64 bd] w fun e w' => e = .returned (.bool (inLB bd l)) ∧ w' = w := by
  unfold maxLen at hll
  obtain ⟨n, Hn⟩ : ∃ n : Nat, Hid (l.length = n) := ⟨_, rfl⟩
  have hn63 : n ≤ 9223372036854775807 := by have := Hn.out; omega
  obtain ⟨a, cap, rfl, hc⟩ := hl
  rw [Hn.out] at hc ⊢
  have HC : Hid (∀ j, j < n → ∃ b off, a = some ⟨b, off, none⟩ ∧ w.cell? ⟨b, off + j, none⟩ = some (.int .i64 (l.getD j 0))) := hc
  clear hc hll
  go_enter Tryd.func59, Tryd.ntmps59
  go_wp2
  go_loop [9] (fun i => ∃ j : Nat, i = .int .i64 j ∧ j ≤ n ∧ Hid (∀ t, t < j → 0 ≤ l.getD t 0 ∧ l.getD t 0 < bd)) (fun i => (n - intOf i).toNat)
  case atStart => exact ⟨0, rfl, by omega, (fun t ht => by omega : ∀ t, t < 0 → _)⟩
  case round =>
    obtain ⟨j, rfl, hj, HALL⟩ := hrel
    by_cases hlt : j < n
    · obtain ⟨z, Hz⟩ : ∃ z : Int, Hid (z = l.getD j 0) := ⟨_, rfl⟩
      obtain ⟨b, off, rfl, hcz⟩ := HC.out j hlt
      rw [← Hz.out] at hcz
      have hji : (j : Int) < n := by omega
      have hdec : decide ((j : Int) < n) = true := by simp; omega
      by_cases hz0 : z < 0
      · have hd : decide (z < 0) = true := by simpa using hz0
        go_wp2
        go_ret
        refine ⟨ret_bool (inLB_no fun h => ?_).symm, rfl⟩
        have := h j (by have := Hn.out; omega)
        rw [← Hz.out] at this
        omega
      · have hd : decide (z < 0) = false := by simpa using hz0
        by_cases hzp : bd ≤ z
        · have hd2 : decide (bd ≤ z) = true := by simpa using hzp
          go_wp2
          go_ret
          refine ⟨ret_bool (inLB_no fun h => ?_).symm, rfl⟩
          have := h j (by have := Hn.out; omega)
          rw [← Hz.out] at this
          omega
        · have hd2 : decide (bd ≤ z) = false := by simpa using hzp
          go_wp2
          go_round
          case rel =>
            refine ⟨j + 1, by go_num, by omega, (fun t ht => ?_ : ∀ t, t < j + 1 → _)⟩
            by_cases e : t = j
            · subst e; rw [← Hz.out]; omega
            · exact HALL.out t (by omega)
          case measure => simp [intOf]; omega
    · go_wp2
      go_ret
      exact ⟨ret_bool ((inLB_iff bd l).2 fun t ht => HALL.out t (by have := Hn.out; omega)).symm, rfl⟩

set_option maxRecDepth 100000 in
set_option maxHeartbeats 400000 in
theorem monic_any (l : List Int) (k : Nat) (v : Value) (w : World) (hl : Sl w v l) (hlk : l.length = k) (hk : 1 ≤ k) (hk' : k ≤ 10) :
    Calls Tryd.prog 60 #[v] w fun e w' => e = .returned (.agg (prow (monL l))) ∧ Below w.heap.size w w' := by
  obtain ⟨b, off, cap, rfl, hbw, hc⟩ := hl.form hlk (by omega)
  have hsz : (Tryd.prog.info? 3).map (·.size) = some 1 := by kernel_rfl
  have hr0 : Row ((w.alloc (.cells (prow fun _ => 0) 62)).alloc (.cells (prow fun _ => 0) 62)) w.heap.size (fun _ => 0) := (Row.made w _).alloc _
  have hr1 : Row ((w.alloc (.cells (prow fun _ => 0) 62)).alloc (.cells (prow fun _ => 0) 62)) (w.heap.size + 1) (fun _ => 0) := by
    have h := Row.made (w.alloc (.cells (prow fun _ => 0) 62)) (fun _ => 0)
    simpa using h
  have hb0 : Below w.heap.size w ((w.alloc (.cells (prow fun _ => 0) 62)).alloc (.cells (prow fun _ => 0) 62)) := ((Below.refl _ _).alloc (Nat.le_refl _) _).alloc (by simp) _
  have hlow : ∀ w2 : World, Hid (w2.heap[w.heap.size + 1]? = some (.cells (splice ((List.range 11).map fun _ => Value.int .i64 0) 0 (l.map (Value.int .i64))).toArray 62 (0, 0))) → Row w2 (w.heap.size + 1) (fun t => if t < k then l.getD t 0 else 0) := by
    intro w2 h
    unfold Row
    rw [h.out]
    congr 2
    apply Array.ext_getElem?
    intro j
    by_cases hj : j < 11
    · rw [prow_at _ _ hj]
      simp only [splice, List.take_zero, List.nil_append, List.getElem?_toArray, List.length_map, Nat.zero_add, hlk]
      by_cases hjk : j < k
      · rw [List.getElem?_append_left (by simp [hlk]; exact hjk), if_pos hjk]
        simp [hlk, hjk]
      · rw [List.getElem?_append_right (by simp [hlk]; omega), if_neg hjk]
        simp [hlk, show k + (j - k) = j by omega, hj]
    · have h1 : 11 ≤ j := by omega
      rw [Array.getElem?_eq_none (by simp [splice, hlk]; omega), Array.getElem?_eq_none (by simp; omega)]
  have hbR : Below (w.heap.size + 1) ((w.alloc (.cells (prow fun _ => 0) 62)).alloc (.cells (prow fun _ => 0) 62)) ((w.alloc (.cells (prow fun _ => 0) 62)).alloc (.cells (prow fun _ => 0) 62)) := Below.refl _ _
  have hki : (k : Int) < 11 := by omega
  rw [prow_zero] at hr0 hr1 hb0 hbR
  go_enter Tryd.func60, Tryd.ntmps60
  go_wp2_with (first
    | (refine wpList_copy_splice rfl _ _ 23 23 rfl 3 und22 hsz (some ⟨w.heap.size + 1, 0, none⟩) (some ⟨b, off, none⟩) 11 11 k cap rfl rfl (w.heap.size + 1) 0 ((List.range 11).map fun _ => Value.int .i64 0) 62 hr1 (l.map (Value.int .i64)) ?c1 ?c2 ?c3 ?c4 (w.heap.size + 1) _ hbR (Nat.le_refl _) ?_)
    | go_in)
  case c1 => show _ = min k 11; simp [hlk]; omega
  case c2 =>
    intro _ j z hz
    have hjl : j < k := by rw [← hlk]; exact (List.getElem?_eq_some_iff.1 hz).1
    have hx := hc j hjl
    have : l.getD j 0 = z := by simp [hz]
    rw [this] at hx
    exact hx
  case c3 => simp [hlk]; omega
  case c4 => intro v hv; simp at hv; obtain ⟨z, _, rfl⟩ := hv; rfl
  intro w2 HG hb2
  have hR := hlow w2 HG
  have hz2 : Row w2 w.heap.size (fun _ => 0) := (hb2.block w.heap.size (by omega)).trans hr0
  have hbb : Below w.heap.size w w2 := hb0.trans (hb2.mono (by omega))
  have hck := hR.cell k (by omega)
  have hfk := hR.frozen k
  have hRs := hR.set k 1
  have hzs := hz2.other ⟨w.heap.size + 1, k, none⟩ (.int .i64 1) (by simp)
  have hbs : Below w.heap.size w (w2.setCell ⟨w.heap.size + 1, k, none⟩ (.int .i64 1)) := hbb.setCell (by simp) _
  clear HG hlow hc hr0 hr1 hbR hb2
  go_wp2_with (first
    | (refine wpList_load_row rfl 62 _ rfl (w.heap.size + 1) rfl 62 _ (0, 0) _ hRs und51 rfl (inf51 _) ?_)
    | (refine wpList_store_row rfl 62 _ _ rfl w.heap.size _ rfl rfl 62 _ hzs (inf51 _) (by simp) (prow_one _) ?_))
  refine post_row 2 rfl rfl (hzs.whole _) rfl ⟨?_, bsetRow hbs (Nat.le_refl _) _⟩
  congr 2
  apply prow_congr
  intro t _
  unfold upd monL
  rw [hlk]
  by_cases e : t = k
  · subst e; simp
  · by_cases h : t < k
    · simp [e, h]
    · simp [e, h]

end Go.Proofs.YtcjkcgfohmhbcabDoor.Fd
