/- The walks of the library's Index, Contains and Equal, and of planeOrder and Check. -/
import Derived.Test.YtamdpcajfgbagaaDoorPBase
namespace Go.Proofs.YtamdpcajfgbagaaDoor
open Go.RowKit

theorem contZ_get {b : List Int} {j : Nat} {x : Int} (hj : j < b.length) (e : b.getD j 0 = x) : b.contains x = true := by
  rw [List.contains_iff_mem, ← e, List.getD_eq_getElem?_getD, List.getElem?_eq_getElem hj]
  exact List.getElem_mem hj
theorem contZ_no {b : List Int} {x : Int} (h : ∀ j, j < b.length → b.getD j 0 ≠ x) : b.contains x = false := by
  refine Bool.eq_false_iff.2 fun k => ?_
  obtain ⟨j, hj, e⟩ := List.mem_iff_getElem.1 (List.contains_iff_mem.1 k)
  refine h j hj ?_
  rw [List.getD_eq_getElem?_getD, List.getElem?_eq_getElem hj]
  exact e
theorem cont_map (b : List Nat) (x : Nat) : (b.map Int.ofNat).contains (x : Int) = b.contains x := by
  refine Bool.eq_iff_iff.2 ?_
  rw [List.contains_iff_mem, List.contains_iff_mem, List.mem_map]
  constructor
  · rintro ⟨y, hy, e⟩
    have : y = x := Int.ofNat.inj e
    rw [← this]; exact hy
  · exact fun h => ⟨x, h, rfl⟩
def IxP (q : Bool) (w : World) (e : Ending) (w' : World) : Prop := ∃ r : Int, e = .returned (.int .i64 r) ∧ -1 ≤ r ∧ r ≤ 100 ∧ (0 ≤ r ↔ q = true) ∧ w' = w
set_option maxRecDepth 100000 in
set_option maxHeartbeats 4000000 in
theorem Index_any (b : List Int) (x : Int) (v : Value) (w : World) (hv : Sl w v b) (hb : b.length ≤ 100) :
    Calls Tryd.prog 41 #[v, .int .i64 x] w (IxP (b.contains x) w) := by
  obtain ⟨ua, uc, rfl, hub⟩ := hv
  have HUB : Hid (∀ j, j < b.length → ∃ g o, ua = some ⟨g, o, none⟩ ∧ w.cell? ⟨g, o + j, none⟩ = some (.int .i64 (b.getD j 0))) := hub
  have HY : Hid (∀ j, j < b.length → b.getD j 0 = x → b.contains x = true) := fun j hj e => contZ_get hj e
  have HN : Hid ((∀ j, j < b.length → b.getD j 0 ≠ x) → b.contains x = false) := fun h => contZ_no h
  obtain ⟨q, Hq⟩ : ∃ q, Hid (b.contains x = q) := ⟨_, rfl⟩
  rw [Hq.out] at HY HN ⊢
  generalize b.length = n at *
  clear hub
  go_enter Tryd.func41, Tryd.ntmps41
  go_wp2
  go_loopw [8] (fun iv wr => ∃ i : Nat, iv = .int .i64 (i : Int) ∧ i ≤ n ∧ Hid (∀ j, j < i → b.getD j 0 ≠ x) ∧ wr = w) (fun iv _ => (n - intOf iv).toNat)
  case atStart => exact ⟨0, rfl, by omega, (show ∀ j, j < 0 → _ from fun j h => by omega), rfl⟩
  case round =>
    obtain ⟨i, rfl, hi, HI, rfl⟩ := hrel
    by_cases hlt : i < n
    · have hdi : decide ((i : Int) < (n : Int)) = true := by simp; omega
      have hii : (i : Int) < (n : Int) := by omega
      obtain ⟨g, o, rfl, hc⟩ := HUB.out i hlt
      by_cases he : b.getD i 0 = x
      · obtain rfl := HY.out i hlt he
        rw [he] at hc
        have hxx : (x == x) = true := by simp
        clear he HY HN HI
        go_wp2
        go_ret
        exact ⟨(i : Int), rfl, by omega, by omega, ⟨fun _ => rfl, fun _ => by omega⟩, rfl⟩
      · have HI2 : Hid (∀ j, j < i + 1 → b.getD j 0 ≠ x) := fun j hj => by
          by_cases e : j = i
          · rw [e]; exact he
          · exact HI.out j (by omega)
        obtain ⟨y, Hy⟩ : ∃ y, Hid (b.getD i 0 = y) := ⟨_, rfl⟩
        rw [Hy.out] at hc he
        have hxy : (x == y) = false := by simpa using fun h => he h.symm
        have hxy' : ¬ x = y := fun h => he h.symm
        clear he HI
        go_wp2
        go_roundw
        case rel => exact ⟨i + 1, by go_num, by omega, HI2, by first | rfl | trivial⟩
        case measure => simp [intOf]; omega
    · have hdi : decide ((i : Int) < (n : Int)) = false := by simp; omega
      obtain rfl := HN.out fun j hj => HI.out j (by omega)
      go_wp2
      go_ret
      exact ⟨-1, rfl, by omega, by omega, ⟨fun h => absurd h (by omega), fun h => by cases h⟩, rfl⟩
set_option maxHeartbeats 4000000 in
theorem ContainsZ_any (b : List Int) (x : Int) (v : Value) (w : World) (hv : Sl w v b) (hb : b.length ≤ 100) :
    Calls Tryd.prog 30 #[v, .int .i64 x] w fun e w' => e = .returned (.bool (b.contains x)) ∧ w' = w := by
  have C := Index_any b x v w hv hb
  obtain ⟨q, Hq⟩ : ∃ q, Hid (b.contains x = q) := ⟨_, rfl⟩
  rw [Hq.out] at C ⊢
  clear hv
  cases q
  · go_enter Tryd.func30, Tryd.ntmps30
    go_wp2_with (go_at_call 41; refine C.mono ?_; rintro e w1 ⟨r, rfl, h1, h2, h3, rfl⟩; clear C; have h4 : decide (0 ≤ r) = false := decide_eq_false fun h => by have := h3.1 h; cases this)
    go_ret
    exact ⟨by first | rfl | (rw [h4]), rfl⟩
  · go_enter Tryd.func30, Tryd.ntmps30
    go_wp2_with (go_at_call 41; refine C.mono ?_; rintro e w1 ⟨r, rfl, h1, h2, h3, rfl⟩; clear C; have h4 : decide (0 ≤ r) = true := decide_eq_true (h3.2 rfl))
    go_ret
    exact ⟨by first | rfl | (rw [h4]), rfl⟩
theorem Contains_any (b : List Nat) (x : Nat) (v : Value) (w : World) (hv : Sl w v (b.map Int.ofNat)) (hb : b.length ≤ 100) :
    Calls Tryd.prog 30 #[v, .int .i64 (x : Int)] w fun e w' => e = .returned (.bool (b.contains x)) ∧ w' = w := by
  have h := ContainsZ_any (b.map Int.ofNat) x v w hv (by rw [List.length_map]; exact hb)
  rw [cont_map] at h
  exact h
theorem eqZ_of {a b : List Int} (hl : a.length = b.length) (h : ∀ j, j < a.length → a.getD j 0 = b.getD j 0) : a = b := by
  refine List.ext_getElem hl fun j h1 h2 => ?_
  have := h j h1
  rw [List.getD_eq_getElem?_getD, List.getD_eq_getElem?_getD, List.getElem?_eq_getElem h1, List.getElem?_eq_getElem h2] at this
  exact this
end Go.Proofs.YtamdpcajfgbagaaDoor
