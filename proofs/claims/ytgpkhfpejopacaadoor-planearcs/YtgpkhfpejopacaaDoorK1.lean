/- The walks of the library's Index, Contains and Equal, and of planeOrder and Check. -/
import Derived.Test.YtgpkhfpejopacaaDoorF3
import Derived.Test.YtgpkhfpejopacaaDoorPA4
namespace Go.Proofs.YtgpkhfpejopacaaDoor
open Go.RowKit

theorem contZ_get {b : List Int} {j : Nat} {x : Int} (hj : j < b.length) (e : b.getD j 0 = x) : b.contains x = true := by
  rw [List.contains_iff_mem, ← e, List.getD_eq_getElem?_getD, List.getElem?_eq_getElem hj]
  exact List.getElem_mem hj
theorem contZ_no {b : List Int} {x : Int} (h : ∀ j, j < b.length → b.getD j 0 ≠ x) : b.contains x = false := by
  refine Bool.eq_false_iff.2 fun k => ?_
  obtain ⟨j, hj, e⟩ := List.mem_iff_getElem.1 (List.contains_iff_mem.1 k)
  refine h j hj ?_
  rw [List.getD_eq_getElem?_getD, List.getElem?_eq_getElem hj]
  exact e
theorem cont_map (b : List Nat) (x : Nat) : (b.map Int.ofNat).contains (x : Int) = b.contains x := by
  refine Bool.eq_iff_iff.2 ?_
  rw [List.contains_iff_mem, List.contains_iff_mem, List.mem_map]
  constructor
  · rintro ⟨y, hy, e⟩
    have : y = x := Int.ofNat.inj e
    rw [← this]; exact hy
  · exact fun h => ⟨x, h, rfl⟩
def IxP (q : Bool) (w : World) (e : Ending) (w' : World) : Prop := ∃ r : Int, e = .returned (.int .i64 r) ∧ -1 ≤ r ∧ r ≤ 100 ∧ (0 ≤ r ↔ q = true) ∧ w' = w
set_option maxRecDepth 100000 in
set_option maxHeartbeats 4000000 in
theorem Index_any (b : List Int) (x : Int) (v : Value) (w : World) (hv : Sl w v b) (hb : b.length ≤ 100) :
    Calls Tryd.prog 88 #[v, .int .i64 x] w (IxP (b.contains x) w) := by
  obtain ⟨ua, uc, rfl, hub⟩ := hv
  have HUB : Hid (∀ j, j < b.length → ∃ g o, ua = some ⟨g, o, none⟩ ∧ w.cell? ⟨g, o + j, none⟩ = some (.int .i64 (b.getD j 0))) := hub
  have HY : Hid (∀ j, j < b.length → b.getD j 0 = x → b.contains x = true) := fun j hj e => contZ_get hj e
  have HN : Hid ((∀ j, j < b.length → b.getD j 0 ≠ x) → b.contains x = false) := fun h => contZ_no h
  obtain ⟨q, Hq⟩ : ∃ q, Hid (b.contains x = q) := ⟨_, rfl⟩
  rw [Hq.out] at HY HN ⊢
  generalize b.length = n at *
  clear hub
  go_enter Tryd.func88, Tryd.ntmps88
  go_wp2
  go_loopw [8] (fun iv wr => ∃ i : Nat, iv = .int .i64 (i : Int) ∧ i ≤ n ∧ Hid (∀ j, j < i → b.getD j 0 ≠ x) ∧ wr = w) (fun iv _ => (n - intOf iv).toNat)
  case atStart => exact ⟨0, rfl, by omega, (show ∀ j, j < 0 → _ from fun j h => by omega), rfl⟩
  case round =>
    obtain ⟨i, rfl, hi, HI, rfl⟩ := hrel
    by_cases hlt : i < n
    · have hdi : decide ((i : Int) < (n : Int)) = true := by simp; omega
      have hii : (i : Int) < (n : Int) := by omega
      obtain ⟨g, o, rfl, hc⟩ := HUB.out i hlt
      by_cases he : b.getD i 0 = x
      · obtain rfl := HY.out i hlt he
        rw [he] at hc
        have hxx : (x == x) = true := by simp
        clear he HY HN HI
        go_wp2
        go_ret
        exact ⟨(i : Int), rfl, by omega, by omega, ⟨fun _ => rfl, fun _ => by omega⟩, rfl⟩
      · have HI2 : Hid (∀ j, j < i + 1 → b.getD j 0 ≠ x) := fun j hj => by
          by_cases e : j = i
          · rw [e]; exact he
          · exact HI.out j (by omega)
        obtain ⟨y, Hy⟩ : ∃ y, Hid (b.getD i 0 = y) := ⟨_, rfl⟩
        rw [Hy.out] at hc he
        have hxy : (x == y) = false := by simpa using fun h => he h.symm
        have hxy' : ¬ x = y := fun h => he h.symm
        clear he HI
        go_wp2
        go_roundw
        case rel => exact ⟨i + 1, by go_num, by omega, HI2, by first | rfl | trivial⟩
        case measure => simp [intOf]; omega
    · have hdi : decide ((i : Int) < (n : Int)) = false := by simp; omega
      obtain rfl := HN.out fun j hj => HI.out j (by omega)
      go_wp2
      go_ret
      exact ⟨-1, rfl, by omega, by omega, ⟨fun h => absurd h (by omega), fun h => by cases h⟩, rfl⟩
set_option maxHeartbeats 4000000 in
theorem ContainsZ_any (b : List Int) (x : Int) (v : Value) (w : World) (hv : Sl w v b) (hb : b.length ≤ 100) :
    Calls Tryd.prog 70 #[v, .int .i64 x] w fun e w' => e = .returned (.bool (b.contains x)) ∧ w' = w := by
  have C := Index_any b x v w hv hb
  obtain ⟨q, Hq⟩ : ∃ q, Hid (b.contains x = q) := ⟨_, rfl⟩
  rw [Hq.out] at C ⊢
  clear hv
  cases q
  · go_enter Tryd.func70, Tryd.ntmps70
    go_wp2_with (go_at_call 88; refine C.mono ?_; rintro e w1 ⟨r, rfl, h1, h2, h3, rfl⟩; clear C; have h4 : decide (0 ≤ r) = false := decide_eq_false fun h => by have := h3.1 h; cases this)
    go_ret
    exact ⟨by first | rfl | (rw [h4]), rfl⟩
  · go_enter Tryd.func70, Tryd.ntmps70
    go_wp2_with (go_at_call 88; refine C.mono ?_; rintro e w1 ⟨r, rfl, h1, h2, h3, rfl⟩; clear C; have h4 : decide (0 ≤ r) = true := decide_eq_true (h3.2 rfl))
    go_ret
    exact ⟨by first | rfl | (rw [h4]), rfl⟩
theorem Contains_any (b : List Nat) (x : Nat) (v : Value) (w : World) (hv : Sl w v (b.map Int.ofNat)) (hb : b.length ≤ 100) :
    Calls Tryd.prog 70 #[v, .int .i64 (x : Int)] w fun e w' => e = .returned (.bool (b.contains x)) ∧ w' = w := by
  have h := ContainsZ_any (b.map Int.ofNat) x v w hv (by rw [List.length_map]; exact hb)
  rw [cont_map] at h
  exact h
theorem eqZ_of {a b : List Int} (hl : a.length = b.length) (h : ∀ j, j < a.length → a.getD j 0 = b.getD j 0) : a = b := by
  refine List.ext_getElem hl fun j h1 h2 => ?_
  have := h j h1
  rw [List.getD_eq_getElem?_getD, List.getD_eq_getElem?_getD, List.getElem?_eq_getElem h1, List.getElem?_eq_getElem h2] at this
  exact this
set_option maxRecDepth 100000 in
set_option maxHeartbeats 4000000 in
theorem Equal_any (a b : List Int) (q : Bool) (u v : Value) (w : World) (hu : Sl w u a) (hv : Sl w v b) (ha : a.length ≤ 100) (hb : b.length ≤ 100) (hq : q = true ↔ a = b) :
    Calls Tryd.prog 67 #[u, v] w fun e w' => e = .returned (.bool q) ∧ Below w.heap.size w w' := by
  obtain ⟨ua, uc, rfl, hua⟩ := hu
  obtain ⟨va, vc, rfl, hva⟩ := hv
  have HUA : Hid (∀ j, j < a.length → ∃ g o, ua = some ⟨g, o, none⟩ ∧ ∀ W, Below w.heap.size w W → W.cell? ⟨g, o + j, none⟩ = some (.int .i64 (a.getD j 0))) := fun j hj => by
    obtain ⟨g, o, e, hc⟩ := hua j hj
    exact ⟨g, o, e, fun W bW => (bW.cell (World.block_lt_of_cell? _ _ hc)).trans hc⟩
  have HVA : Hid (∀ j, j < b.length → ∃ g o, va = some ⟨g, o, none⟩ ∧ ∀ W, Below w.heap.size w W → W.cell? ⟨g, o + j, none⟩ = some (.int .i64 (b.getD j 0))) := fun j hj => by
    obtain ⟨g, o, e, hc⟩ := hva j hj
    exact ⟨g, o, e, fun W bW => (bW.cell (World.block_lt_of_cell? _ _ hc)).trans hc⟩
  have HNO : Hid (∀ j, j < a.length → a.getD j 0 ≠ b.getD j 0 → q = false) := fun j _ hn => Bool.eq_false_iff.2 fun k => hn (by rw [hq.1 k])
  by_cases hl : a.length = b.length
  · have HYE : Hid ((∀ j, j < a.length → a.getD j 0 = b.getD j 0) → q = true) := fun h => hq.2 (eqZ_of hl h)
    generalize a.length = n at *
    generalize b.length = m at *
    subst hl
    have hnn : ((n : Int) != (n : Int)) = false := by simp
    clear hua hva hq
    go_enter Tryd.func67, Tryd.ntmps67
    go_wp2
    go_loopw [13] (fun iv wr => ∃ i : Nat, iv = .int .i64 (i : Int) ∧ i ≤ n ∧ Hid (∀ j, j < i → a.getD j 0 = b.getD j 0) ∧ Below w.heap.size w wr) (fun iv _ => (n - intOf iv).toNat)
    case atStart => exact ⟨0, rfl, by omega, (show ∀ j, j < 0 → _ from fun j h => by omega), Below.refl _ _⟩
    case round =>
      obtain ⟨i, rfl, hi, HI, hB⟩ := hrel
      by_cases hlt : i < n
      · have hdi : decide ((i : Int) < (n : Int)) = true := by simp; omega
        have hii : (i : Int) < (n : Int) := by omega
        obtain ⟨g, o, rfl, hc0⟩ := HUA.out i hlt
        obtain ⟨g2, o2, rfl, hc20⟩ := HVA.out i hlt
        have hc := hc0 _ hB
        have hc2 := hc20 _ hB
        clear hc0 hc20
        have hno := HNO.out i hlt
        have HI2 : Hid (a.getD i 0 = b.getD i 0 → ∀ j, j < i + 1 → a.getD j 0 = b.getD j 0) := fun h j hj => by
          by_cases e : j = i
          · rw [e]; exact h
          · exact HI.out j (by omega)
        obtain ⟨x, Hx⟩ : ∃ x, Hid (a.getD i 0 = x) := ⟨_, rfl⟩
        obtain ⟨y, Hy⟩ : ∃ y, Hid (b.getD i 0 = y) := ⟨_, rfl⟩
        rw [Hx.out, Hy.out] at hno HI2
        rw [Hx.out] at hc
        rw [Hy.out] at hc2
        by_cases he : x = y
        · subst he
          have hxx : (x != x) = false := by simp
          have hxx2 : (x == x) = true := by simp
          have HI3 : Hid (∀ j, j < i + 1 → a.getD j 0 = b.getD j 0) := HI2.out rfl
          clear HI2 HI hno
          go_wp2
          go_quiet (fail)
          go_wp2
          go_roundw
          case rel => exact ⟨i + 1, by go_num, by omega, HI3, bdrewN hB _⟩
          case measure => simp [intOf]; omega
        · obtain rfl := hno he
          have hxy : (x != y) = true := by simpa using he
          have hxy2 : (x == y) = false := by simpa using he
          clear HI2 HI hno
          go_wp2
          go_quiet (fail)
          go_wp2
          go_ret
          exact ⟨rfl, bdrewN hB _⟩
      · have hdi : decide ((i : Int) < (n : Int)) = false := by simp; omega
        obtain rfl := HYE.out fun j hj => HI.out j (by omega)
        go_wp2
        go_ret
        exact ⟨rfl, hB⟩
  · obtain rfl : q = false := Bool.eq_false_iff.2 fun k => hl (by rw [hq.1 k])
    generalize a.length = n at *
    generalize b.length = m at *
    have hnm' : ¬ (n : Int) = (m : Int) := by omega
    have hnm : ((n : Int) != (m : Int)) = true := by simpa using hnm'
    clear hua hva hq HUA HVA HNO
    go_enter Tryd.func67, Tryd.ntmps67
    go_wp2
    go_ret
    exact ⟨rfl, Below.refl _ _⟩

end Go.Proofs.YtgpkhfpejopacaaDoor
