/- The law PlaneFields. -/
import Derived.Test.YtgpkhfpejopacaaDoorF3
import Derived.Test.YtgpkhfpejopacaaDoorPA4
import Derived.Test.YtgpkhfpejopacaaDoorPA2
import Derived.Test.YtgpkhfpejopacaaDoorPA6
import Derived.Test.YtgpkhfpejopacaaDoorM6
import Derived.Test.YtgpkhfpejopacaaDoorDPart
import Derived.Test.YtgpkhfpejopacaaDoorLM2
import Derived.Test.YtgpkhfpejopacaaDoorH1b
/- The walks of isArc and Arc. -/
/- The walks of join and Join. -/
/- The walk of Check. -/
/- The walks of the library's Index, Contains and Equal, and of planeOrder and Check. -/
namespace Go.Proofs.YtgpkhfpejopacaaDoor
open Go.RowKit

theorem contZ_get {b : List Int} {j : Nat} {x : Int} (hj : j < b.length) (e : b.getD j 0 = x) : b.contains x = true := by
  rw [List.contains_iff_mem, ← e, List.getD_eq_getElem?_getD, List.getElem?_eq_getElem hj]
  exact List.getElem_mem hj
theorem contZ_no {b : List Int} {x : Int} (h : ∀ j, j < b.length → b.getD j 0 ≠ x) : b.contains x = false := by
  refine Bool.eq_false_iff.2 fun k => ?_
  obtain ⟨j, hj, e⟩ := List.mem_iff_getElem.1 (List.contains_iff_mem.1 k)
  refine h j hj ?_
  rw [List.getD_eq_getElem?_getD, List.getElem?_eq_getElem hj]
  exact e
theorem cont_map (b : List Nat) (x : Nat) : (b.map Int.ofNat).contains (x : Int) = b.contains x := by
  refine Bool.eq_iff_iff.2 ?_
  rw [List.contains_iff_mem, List.contains_iff_mem, List.mem_map]
  constructor
  · rintro ⟨y, hy, e⟩
    have : y = x := Int.ofNat.inj e
    rw [← this]; exact hy
  · exact fun h => ⟨x, h, rfl⟩
def IxP (q : Bool) (w : World) (e : Ending) (w' : World) : Prop := ∃ r : Int, e = .returned (.int .i64 r) ∧ -1 ≤ r ∧ r ≤ 100 ∧ (0 ≤ r ↔ q = true) ∧ w' = w
set_option maxRecDepth 100000 in
set_option maxHeartbeats 4000000 in
theorem Index_any (b : List Int) (x : Int) (v : Value) (w : World) (hv : Sl w v b) (hb : b.length ≤ 100) :
    Calls Tryd.prog 88 #[v, .int .i64 x] w (IxP (b.contains x) w) := by
  obtain ⟨ua, uc, rfl, hub⟩ := hv
  have HUB : Hid (∀ j, j < b.length → ∃ g o, ua = some ⟨g, o, none⟩ ∧ w.cell? ⟨g, o + j, none⟩ = some (.int .i64 (b.getD j 0))) := hub
  have HY : Hid (∀ j, j < b.length → b.getD j 0 = x → b.contains x = true) := fun j hj e => contZ_get hj e
  have HN : Hid ((∀ j, j < b.length → b.getD j 0 ≠ x) → b.contains x = false) := fun h => contZ_no h
  obtain ⟨q, Hq⟩ : ∃ q, Hid (b.contains x = q) := ⟨_, rfl⟩
  rw [Hq.out] at HY HN ⊢
  generalize b.length = n at *
  clear hub
  go_enter Tryd.func88, Tryd.ntmps88
  go_wp2
  go_loopw [8] (fun iv wr => ∃ i : Nat, iv = .int .i64 (i : Int) ∧ i ≤ n ∧ Hid (∀ j, j < i → b.getD j 0 ≠ x) ∧ wr = w) (fun iv _ => (n - intOf iv).toNat)
  case atStart => exact ⟨0, rfl, by omega, (show ∀ j, j < 0 → _ from fun j h => by omega), rfl⟩
  case round =>
    obtain ⟨i, rfl, hi, HI, rfl⟩ := hrel
    by_cases hlt : i < n
    · have hdi : decide ((i : Int) < (n : Int)) = true := by simp; omega
      have hii : (i : Int) < (n : Int) := by omega
      obtain ⟨g, o, rfl, hc⟩ := HUB.out i hlt
      by_cases he : b.getD i 0 = x
      · obtain rfl := HY.out i hlt he
        rw [he] at hc
        have hxx : (x == x) = true := by simp
        clear he HY HN HI
        go_wp2
        go_ret
        exact ⟨(i : Int), rfl, by omega, by omega, ⟨fun _ => rfl, fun _ => by omega⟩, rfl⟩
      · have HI2 : Hid (∀ j, j < i + 1 → b.getD j 0 ≠ x) := fun j hj => by
          by_cases e : j = i
          · rw [e]; exact he
          · exact HI.out j (by omega)
        obtain ⟨y, Hy⟩ : ∃ y, Hid (b.getD i 0 = y) := ⟨_, rfl⟩
        rw [Hy.out] at hc he
        have hxy : (x == y) = false := by simpa using fun h => he h.symm
        have hxy' : ¬ x = y := fun h => he h.symm
        clear he HI
        go_wp2
        go_roundw
        case rel => exact ⟨i + 1, by go_num, by omega, HI2, by first | rfl | trivial⟩
        case measure => simp [intOf]; omega
    · have hdi : decide ((i : Int) < (n : Int)) = false := by simp; omega
      obtain rfl := HN.out fun j hj => HI.out j (by omega)
      go_wp2
      go_ret
      exact ⟨-1, rfl, by omega, by omega, ⟨fun h => absurd h (by omega), fun h => by cases h⟩, rfl⟩
set_option maxHeartbeats 4000000 in
theorem ContainsZ_any (b : List Int) (x : Int) (v : Value) (w : World) (hv : Sl w v b) (hb : b.length ≤ 100) :
    Calls Tryd.prog 70 #[v, .int .i64 x] w fun e w' => e = .returned (.bool (b.contains x)) ∧ w' = w := by
  have C := Index_any b x v w hv hb
  obtain ⟨q, Hq⟩ : ∃ q, Hid (b.contains x = q) := ⟨_, rfl⟩
  rw [Hq.out] at C ⊢
  clear hv
  cases q
  · go_enter Tryd.func70, Tryd.ntmps70
    go_wp2_with (go_at_call 88; refine C.mono ?_; rintro e w1 ⟨r, rfl, h1, h2, h3, rfl⟩; clear C; have h4 : decide (0 ≤ r) = false := decide_eq_false fun h => by have := h3.1 h; cases this)
    go_ret
    exact ⟨by first | rfl | (rw [h4]), rfl⟩
  · go_enter Tryd.func70, Tryd.ntmps70
    go_wp2_with (go_at_call 88; refine C.mono ?_; rintro e w1 ⟨r, rfl, h1, h2, h3, rfl⟩; clear C; have h4 : decide (0 ≤ r) = true := decide_eq_true (h3.2 rfl))
    go_ret
    exact ⟨by first | rfl | (rw [h4]), rfl⟩
theorem Contains_any (b : List Nat) (x : Nat) (v : Value) (w : World) (hv : Sl w v (b.map Int.ofNat)) (hb : b.length ≤ 100) :
    Calls Tryd.prog 70 #[v, .int .i64 (x : Int)] w fun e w' => e = .returned (.bool (b.contains x)) ∧ w' = w := by
  have h := ContainsZ_any (b.map Int.ofNat) x v w hv (by rw [List.length_map]; exact hb)
  rw [cont_map] at h
  exact h
theorem eqZ_of {a b : List Int} (hl : a.length = b.length) (h : ∀ j, j < a.length → a.getD j 0 = b.getD j 0) : a = b := by
  refine List.ext_getElem hl fun j h1 h2 => ?_
  have := h j h1
  rw [List.getD_eq_getElem?_getD, List.getD_eq_getElem?_getD, List.getElem?_eq_getElem h1, List.getElem?_eq_getElem h2] at this
  exact this
set_option maxRecDepth 100000 in
set_option maxHeartbeats 4000000 in
theorem Equal_any (a b : List Int) (q : Bool) (u v : Value) (w : World) (hu : Sl w u a) (hv : Sl w v b) (ha : a.length ≤ 100) (hb : b.length ≤ 100) (hq : q = true ↔ a = b) :
    Calls Tryd.prog 67 #[u, v] w fun e w' => e = .returned (.bool q) ∧ Below w.heap.size w w' := by
  obtain ⟨ua, uc, rfl, hua⟩ := hu
  obtain ⟨va, vc, rfl, hva⟩ := hv
  have HUA : Hid (∀ j, j < a.length → ∃ g o, ua = some ⟨g, o, none⟩ ∧ ∀ W, Below w.heap.size w W → W.cell? ⟨g, o + j, none⟩ = some (.int .i64 (a.getD j 0))) := fun j hj => by
    obtain ⟨g, o, e, hc⟩ := hua j hj
    exact ⟨g, o, e, fun W bW => (bW.cell (World.block_lt_of_cell? _ _ hc)).trans hc⟩
  have HVA : Hid (∀ j, j < b.length → ∃ g o, va = some ⟨g, o, none⟩ ∧ ∀ W, Below w.heap.size w W → W.cell? ⟨g, o + j, none⟩ = some (.int .i64 (b.getD j 0))) := fun j hj => by
    obtain ⟨g, o, e, hc⟩ := hva j hj
    exact ⟨g, o, e, fun W bW => (bW.cell (World.block_lt_of_cell? _ _ hc)).trans hc⟩
  have HNO : Hid (∀ j, j < a.length → a.getD j 0 ≠ b.getD j 0 → q = false) := fun j _ hn => Bool.eq_false_iff.2 fun k => hn (by rw [hq.1 k])
  by_cases hl : a.length = b.length
  · have HYE : Hid ((∀ j, j < a.length → a.getD j 0 = b.getD j 0) → q = true) := fun h => hq.2 (eqZ_of hl h)
    generalize a.length = n at *
    generalize b.length = m at *
    subst hl
    have hnn : ((n : Int) != (n : Int)) = false := by simp
    clear hua hva hq
    go_enter Tryd.func67, Tryd.ntmps67
    go_wp2
    go_loopw [13] (fun iv wr => ∃ i : Nat, iv = .int .i64 (i : Int) ∧ i ≤ n ∧ Hid (∀ j, j < i → a.getD j 0 = b.getD j 0) ∧ Below w.heap.size w wr) (fun iv _ => (n - intOf iv).toNat)
    case atStart => exact ⟨0, rfl, by omega, (show ∀ j, j < 0 → _ from fun j h => by omega), Below.refl _ _⟩
    case round =>
      obtain ⟨i, rfl, hi, HI, hB⟩ := hrel
      by_cases hlt : i < n
      · have hdi : decide ((i : Int) < (n : Int)) = true := by simp; omega
        have hii : (i : Int) < (n : Int) := by omega
        obtain ⟨g, o, rfl, hc0⟩ := HUA.out i hlt
        obtain ⟨g2, o2, rfl, hc20⟩ := HVA.out i hlt
        have hc := hc0 _ hB
        have hc2 := hc20 _ hB
        clear hc0 hc20
        have hno := HNO.out i hlt
        have HI2 : Hid (a.getD i 0 = b.getD i 0 → ∀ j, j < i + 1 → a.getD j 0 = b.getD j 0) := fun h j hj => by
          by_cases e : j = i
          · rw [e]; exact h
          · exact HI.out j (by omega)
        obtain ⟨x, Hx⟩ : ∃ x, Hid (a.getD i 0 = x) := ⟨_, rfl⟩
        obtain ⟨y, Hy⟩ : ∃ y, Hid (b.getD i 0 = y) := ⟨_, rfl⟩
        rw [Hx.out, Hy.out] at hno HI2
        rw [Hx.out] at hc
        rw [Hy.out] at hc2
        by_cases he : x = y
        · subst he
          have hxx : (x != x) = false := by simp
          have hxx2 : (x == x) = true := by simp
          have HI3 : Hid (∀ j, j < i + 1 → a.getD j 0 = b.getD j 0) := HI2.out rfl
          clear HI2 HI hno
          go_wp2
          go_quiet (fail)
          go_wp2
          go_roundw
          case rel => exact ⟨i + 1, by go_num, by omega, HI3, bdrewN hB _⟩
          case measure => simp [intOf]; omega
        · obtain rfl := hno he
          have hxy : (x != y) = true := by simpa using he
          have hxy2 : (x == y) = false := by simpa using he
          clear HI2 HI hno
          go_wp2
          go_quiet (fail)
          go_wp2
          go_ret
          exact ⟨rfl, bdrewN hB _⟩
      · have hdi : decide ((i : Int) < (n : Int)) = false := by simp; omega
        obtain rfl := HYE.out fun j hj => HI.out j (by omega)
        go_wp2
        go_ret
        exact ⟨rfl, hB⟩
  · obtain rfl : q = false := Bool.eq_false_iff.2 fun k => hl (by rw [hq.1 k])
    generalize a.length = n at *
    generalize b.length = m at *
    have hnm' : ¬ (n : Int) = (m : Int) := by omega
    have hnm : ((n : Int) != (m : Int)) = true := by simpa using hnm'
    clear hua hva hq HUA HVA HNO
    go_enter Tryd.func67, Tryd.ntmps67
    go_wp2
    go_ret
    exact ⟨rfl, Below.refl _ _⟩

end Go.Proofs.YtgpkhfpejopacaaDoor

/- The walks of planeOrder and Check. -/
namespace Go.Proofs.YtgpkhfpejopacaaDoor
open Go.RowKit

theorem slz_one (w : World) (a : Int) : Sl (w.alloc (.cells #[.int .i64 a] 3)) (.slice (some ⟨w.heap.size, 0, none⟩) 1 1) [a] := by
  refine ⟨_, 1, rfl, fun j hj => ⟨w.heap.size, 0, rfl, ?_⟩⟩
  have h := cell_of_row (w.alloc (.cells #[.int .i64 a] 3)) w.heap.size (0 + j) _ _ _ (heap_alloc_new w _)
  rw [h]
  have : j = 0 := by simp at hj; omega
  subst this; rfl
theorem lv_cases {v : Nat} {B : List (List Nat)} {e : Ending} (h : LvT v B 2 e) : ∃ k l z : Nat, e = .returned (.tuple #[.int .i64 (k : Int), .int .i64 (l : Int), .int .i64 (z : Int)]) ∧ (z = 0 → LvOk v B 2 k l) := by
  rcases h with ⟨_, rfl⟩ | ⟨m, hm, _, _, ⟨k, l, h, rfl⟩ | ⟨_, rfl⟩⟩
  · exact ⟨0, 0, 1, rfl, fun h => by omega⟩
  · obtain rfl : m = 2 := by omega
    exact ⟨k, l, 0, rfl, fun _ => h⟩
  · exact ⟨0, 0, 4, rfl, fun h => by omega⟩
theorem filt_one : ∀ n : Nat, 2 ≤ n → (List.range n).filter (fun x => x == 1) = [1]
  | 0, h => by omega
  | 1, h => by omega
  | 2, _ => rfl
  | n + 3, _ => by
    rw [List.range_succ, List.filter_append, filt_one (n + 2) (by omega)]
    rfl
theorem mtL_one {v : Nat} {B : List (List Nat)} (hB : Bls v B) (hv : 1 ≤ v) : mtL v B = [1] ↔ (∃ i, 0 < i ∧ i < B.length) ∧ ∀ (i j : Nat) (b c : List Nat), j < i → B[i]? = some b → B[j]? = some c → mt b c = 1 := by
  have key : ∀ {i : Nat} {b : List Nat}, B[i]? = some b → B.getD i [] = b := fun h => by rw [List.getD_eq_getElem?_getD, h]; rfl
  constructor
  · intro h
    have h1 : 1 ∈ mtL v B := by rw [h]; simp
    refine ⟨?_, fun i j b c hji hb hc => ?_⟩
    · obtain ⟨i, j, h2, h3, _⟩ := metB_iff.1 (List.mem_filter.1 h1).2
      exact ⟨i, by omega, h3⟩
    · have hm : mt b c ∈ mtL v B := by
        refine List.mem_filter.2 ⟨List.mem_range.2 ?_, metB_iff.2 ⟨i, j, hji, at_lt hb, by rw [key hb, key hc]⟩⟩
        have h1 : mt b c ≤ b.length := List.countP_le_length
        have := (hB b (List.mem_of_getElem? hb)).le
        omega
      rw [h] at hm
      simpa using hm
  · rintro ⟨⟨i, h0, hi⟩, h⟩
    rw [← filt_one (v + 1) (by omega)]
    refine List.filter_congr fun x _ => Bool.eq_iff_iff.2 ?_
    rw [metB_iff, beq_iff_eq]
    constructor
    · rintro ⟨i, j, hji, hi, rfl⟩
      obtain ⟨b, hb⟩ := at_of hi
      obtain ⟨c, hc⟩ := at_of (Nat.lt_trans hji hi)
      rw [key hb, key hc]
      exact h i j b c hji hb hc
    · rintro rfl
      obtain ⟨b, hb⟩ := at_of hi
      obtain ⟨c, hc⟩ := at_of (show 0 < B.length by omega)
      exact ⟨i, 0, h0, hi, by rw [key hb, key hc]; exact h i 0 b c h0 hb hc⟩
theorem prp_of {v k : Nat} {B : List (List Nat)} (hB : Bls v B) (hv : 1 ≤ v) (h3 : 3 ≤ k) (h : LvOk v B 2 k 1) (hm : mtL v B = [1]) : PlP v B :=
  PrP.plp hB ⟨h.2.1, h3, h.2.2, ((mtL_one hB hv).1 hm).1, ((mtL_one hB hv).1 hm).2⟩
theorem prp_lv {v k : Nat} {B : List (List Nat)} (h : PrP v B k) : LvOk v B 2 k 1 := ⟨fun e => by
    obtain ⟨i, _, hi⟩ := h.more
    rw [e] at hi; simp at hi, h.size, h.two⟩
theorem ofn_one {l : List Nat} : l.map Int.ofNat = [1] ↔ l = [1] := by
  constructor
  · intro h
    match l, h with
    | [], h => simp at h
    | [x], h =>
      have : Int.ofNat x = Int.ofNat 1 := by simpa using h
      rw [Int.ofNat.inj this]
    | x :: y :: l, h => simp at h
  · rintro rfl; rfl
theorem mtL_len (v : Nat) (B : List (List Nat)) : (mtL v B).length ≤ v + 1 := by
  unfold mtL
  exact Nat.le_trans (List.length_filter_le _ _) (by simp)
set_option maxRecDepth 100000 in
set_option maxHeartbeats 8000000 in
theorem planeOrder_any (v : Nat) (B : List (List Nat)) (r : Int) (q : Bool) (u : Value) (w : World) (hT : Tab w) (G : GoodD v B) (hu : Rw w u (toZ B))
    (hy : q = true → ∃ k, PrP v B k ∧ r = (k : Int) - 1) (hn : q = false → ¬ PlP v B ∧ r = 0) :
    Calls Tryd.prog 41 #[.agg #[.int .i64 (v : Int), u]] w fun e w' => e = .returned (.tuple #[.int .i64 r, .bool q]) ∧ Below w.heap.size w w' := by
  have hv1 := G.pos
  have h40 := G.le
  have HBLS : Hid (Bls v B) := G.bls
  have HC : Hid (∀ W, Below (w.alloc (.cells #[.int .i64 (v : Int), u] 29)).heap.size (w.alloc (.cells #[.int .i64 (v : Int), u] 29)) W → W.cell? ⟨w.heap.size, 0, none⟩ = some (.int .i64 (v : Int)) ∧ W.cell? ⟨w.heap.size, 1, none⟩ = some u) := des_box (v : Int) u w
  obtain ⟨x0, x1⟩ := HC.out _ (Below.refl _ _)
  have b0 := balloc w (.cells #[.int .i64 (v : Int), u] 29)
  have C1 := Level_any v 2 B u _ G (hu.below b0)
  have HM : Hid (∀ W, Below w.heap.size w W → Calls Tryd.prog 66 #[.agg #[.int .i64 (v : Int), u]] W fun e w' => ∃ xa xn xc, e = .returned (.tuple #[.slice xa xn xc, .int .i64 0]) ∧ Hid (Sl w' (.slice xa xn xc) ((mtL v B).map Int.ofNat)) ∧ Below W.heap.size W w') := fun W hW => by
    refine (Meets_good v B u W (hT.next hW) G (hu.below hW)).mono ?_
    rintro e w' ⟨x, rfl, h, b⟩
    have h1 : Sl w' x ((mtL v B).map Int.ofNat) := Sl.owned (by rw [List.length_map]; exact h)
    obtain ⟨xa, xc, rfl, _⟩ := id h1
    exact ⟨xa, _, xc, rfl, h1, b⟩
  have HE : Hid (∀ (W : World) (x : Value) (q : Bool), Sl W x ((mtL v B).map Int.ofNat) → (q = true ↔ mtL v B = [1]) → Calls Tryd.prog 67 #[x, .slice (some ⟨W.heap.size, 0, none⟩) 1 1] (W.alloc (.cells #[.int .i64 1] 3)) fun e w' => e = .returned (.bool q) ∧ Below (W.alloc (.cells #[.int .i64 1] 3)).heap.size (W.alloc (.cells #[.int .i64 1] 3)) w') := fun W x q hx hq =>
    Equal_any _ [1] q _ _ _ (hx.alloc _) (slz_one W 1) (by rw [List.length_map]; have := mtL_len v B; omega) (by decide) (hq.trans ofn_one.symm)
  have hform : ∃ a n c, u = .slice a n c := by obtain ⟨a, c, e, _⟩ := hu; exact ⟨a, _, c, e⟩
  obtain ⟨a, n, c, rfl⟩ := hform
  clear hu
  cases q
  · obtain ⟨hnp, rfl⟩ := hn rfl
    have HNP : Hid (∀ k, 3 ≤ k → LvOk v B 2 k 1 → ¬ mtL v B = [1]) := fun k h3 h hm => hnp (prp_of HBLS.out hv1 h3 h hm)
    clear hy hn hnp G
    obtain ⟨w0, Hw0⟩ : ∃ w0, Hid (w0 = w) := ⟨_, rfl⟩
    have C1' : Calls Tryd.prog 65 #[.agg #[.int .i64 (v : Int), .slice a n c], .int .i64 2] (w.alloc (.cells #[.int .i64 (v : Int), .slice a n c] 29)) fun e w' => (∃ k l z : Nat, e = .returned (.tuple #[.int .i64 (k : Int), .int .i64 (l : Int), .int .i64 (z : Int)]) ∧ Hid (z = 0 → LvOk v B 2 k l)) ∧ Below (w.alloc (.cells #[.int .i64 (v : Int), .slice a n c] 29)).heap.size (w.alloc (.cells #[.int .i64 (v : Int), .slice a n c] 29)) w' := by
      refine C1.mono ?_
      rintro e w' ⟨h, b⟩
      obtain ⟨k, l, z, e1, h1⟩ := lv_cases h
      exact ⟨⟨k, l, z, e1, h1⟩, b⟩
    clear C1
    go_enter Tryd.func41, Tryd.ntmps41
    go_wp2_with fail
    go_at_call 65
    refine C1'.mono ?_
    rintro e w1 ⟨⟨k, l, z, rfl, HL⟩, b1⟩
    clear C1'
    obtain ⟨y0, y1⟩ := HC.out _ b1
    replace b1 := Below.next b0 b1
    by_cases hz : z = 0
    · subst hz
      have HL := HL.out rfl
      by_cases hl : l = 1
      · subst hl
        by_cases hk : k < 3
        · have hdk : decide ((k : Int) < 3) = true := by simp; omega
          have hdk' : (k : Int) < 3 := by omega
          clear HL
          go_wp2
          exact bodyPost_ret (v := .tuple #[.int .i64 0, .bool false]) (by simp [results, Tryd.results41, go_sem]) rfl ⟨rfl, b1⟩
        · have hdk : decide ((k : Int) < 3) = false := by simp; omega
          have hdk' : ¬ (k : Int) < 3 := by omega
          have HMN := HNP.out k (by omega) HL
          have CM := HM.out _ b1
          clear HL
          have HMF : (false = true ↔ mtL v B = [1]) := ⟨fun h => (Bool.false_ne_true h).elim, fun h => absurd h HMN⟩
          have HMF : Hid (false = true ↔ mtL v B = [1]) := HMF
          clear HMN
          go_wp2_with (first
            | (go_at_call 66; refine CM.mono ?_; rintro e w2 ⟨xa, xn, xc, rfl, hx, b2⟩; clear CM; have CE := HE.out w2 _ false hx.out HMF.out; clear hx; replace b2 := Below.next b1 b2)
            | (go_at_call 67; refine CE.mono ?_; rintro e w3 ⟨rfl, b3⟩; clear CE; replace b3 := Below.next (Below.next b2 (balloc _ _)) b3))
          exact bodyPost_ret (v := .tuple #[.int .i64 0, .bool false]) (by simp [results, Tryd.results41, go_sem]) rfl ⟨rfl, b3⟩
      · have hdl : ((l : Int) != 1) = true := by
          have : ¬ (l : Int) = 1 := by omega
          simpa using this
        have hdl' : ¬ (l : Int) = 1 := by omega
        clear HL
        go_wp2
        exact bodyPost_ret (v := .tuple #[.int .i64 0, .bool false]) (by simp [results, Tryd.results41, go_sem]) rfl ⟨rfl, b1⟩
    · have hdz : ((z : Int) != 0) = true := by
        have : ¬ (z : Int) = 0 := by omega
        simpa using this
      have hdz' : ¬ (z : Int) = 0 := by omega
      clear HL
      go_wp2
      exact bodyPost_ret (v := .tuple #[.int .i64 0, .bool false]) (by simp [results, Tryd.results41, go_sem]) rfl ⟨rfl, b1⟩
  · obtain ⟨k, hk, rfl⟩ := hy rfl
    have hk3 := hk.big
    have HMN : Hid (mtL v B = [1]) := (mtL_one HBLS.out hv1).2 ⟨hk.more, hk.meet⟩
    have hk40 : k ≤ 40 := by
      obtain ⟨i, _, hi⟩ := hk.more
      obtain ⟨b, hb⟩ := at_of hi
      rw [← hk.size b (List.mem_of_getElem? hb)]
      exact G.len (List.mem_of_getElem? hb)
    have hv2 : 2 ≤ v := by
      refine Nat.le_of_not_lt fun h => ?_
      have := hk.plp HBLS.out
      have := this.2.2.1
      omega
    have C1' : Calls Tryd.prog 65 #[.agg #[.int .i64 (v : Int), .slice a n c], .int .i64 2] (w.alloc (.cells #[.int .i64 (v : Int), .slice a n c] 29)) fun e w' => e = .returned (.tuple #[.int .i64 (k : Int), .int .i64 1, .int .i64 0]) ∧ Below (w.alloc (.cells #[.int .i64 (v : Int), .slice a n c] 29)).heap.size (w.alloc (.cells #[.int .i64 (v : Int), .slice a n c] 29)) w' := by
      refine C1.mono ?_
      rintro e w' ⟨h, b⟩
      exact ⟨h.one (.inr ⟨2, rfl, by omega, hv2, .inl ⟨k, 1, prp_lv hk, rfl⟩⟩), b⟩
    clear C1 hy hn G hk
    have hdk : decide ((k : Int) < 3) = false := by simp; omega
    have hdk' : ¬ (k : Int) < 3 := by omega
    go_enter Tryd.func41, Tryd.ntmps41
    go_wp2_with (first
      | (go_at_call 65; refine C1'.mono ?_; rintro e w1 ⟨rfl, b1⟩; clear C1'; obtain ⟨y0, y1⟩ := HC.out _ b1; replace b1 := Below.next b0 b1; have CM := HM.out _ b1)
      | (go_at_call 66; refine CM.mono ?_; rintro e w2 ⟨xa, xn, xc, rfl, hx, b2⟩; clear CM; have CE := HE.out w2 _ true hx.out ⟨fun _ => HMN.out, fun _ => rfl⟩; clear hx; replace b2 := Below.next b1 b2)
      | (go_at_call 67; refine CE.mono ?_; rintro e w3 ⟨rfl, b3⟩; clear CE; replace b3 := Below.next (Below.next b2 (balloc _ _)) b3))
    exact bodyPost_ret (v := .tuple #[.int .i64 ((k : Int) - 1), .bool true]) (by simp [results, Tryd.results41, go_sem]) rfl ⟨rfl, b3⟩

end Go.Proofs.YtgpkhfpejopacaaDoor

namespace Go.Proofs.YtgpkhfpejopacaaDoor
open Go.RowKit

set_option maxRecDepth 100000 in
set_option maxHeartbeats 4000000 in
theorem PCheck_bad (p : Int) (ls : List (List Int)) (u : Value) (w : World) (hu : Rw w u ls) (hl : ls.length ≤ maxLen) (hll : ∀ l ∈ ls, l.length ≤ maxLen) (h : dF p ls ≠ 0) :
    Calls Tryd.prog 17 #[.agg #[.int .i64 p, u]] w fun e w' => e = .returned (.tuple #[.int .i64 0, .int .i64 (dF p ls : Int)]) ∧ Below w.heap.size w w' := by
  have b0 := balloc w (.cells #[.int .i64 p, u] 29)
  have C := Check_any p ls u _ (hu.below b0) hl hll
  obtain ⟨z, Hz⟩ : ∃ z, Hid (dF p ls = z) := ⟨_, rfl⟩
  rw [Hz.out] at C h ⊢
  have hz2 : ¬ (z : Int) = 0 := by omega
  have hz1 : ((z : Int) != 0) = true := by simpa using hz2
  obtain ⟨x0, x1⟩ := des_box p u w _ (Below.refl _ _)
  obtain ⟨a, n, c, rfl⟩ : ∃ a n c, u = .slice a n c := by obtain ⟨a, c, e, _⟩ := hu; exact ⟨a, _, c, e⟩
  clear hu hl hll
  go_enter Tryd.func17, Tryd.ntmps17
  go_wp2_with (go_at_call 40; refine C.mono ?_; rintro e w1 ⟨rfl, b1⟩; clear C)
  exact bodyPost_ret (v := .tuple #[.int .i64 0, .int .i64 (z : Int)]) (by simp [results, Tryd.results17, go_sem]) rfl ⟨rfl, Below.next b0 b1⟩
set_option maxRecDepth 100000 in
set_option maxHeartbeats 4000000 in
theorem PCheck_yes (v k : Nat) (B : List (List Nat)) (u : Value) (w : World) (hT : Tab w) (G : GoodD v B) (hd : dF (v : Int) (toZ B) = 0) (hu : Rw w u (toZ B)) (hk : PrP v B k) :
    Calls Tryd.prog 17 #[.agg #[.int .i64 (v : Int), u]] w fun e w' => e = .returned (.tuple #[.int .i64 ((k : Int) - 1), .int .i64 0]) ∧ Below w.heap.size w w' := by
  have b0 := balloc w (.cells #[.int .i64 (v : Int), u] 29)
  have C := Check_any v (toZ B) u _ (hu.below b0) (by unfold toZ maxLen; rw [List.length_map]; have := G.few; omega) (fun l hl => by
    obtain ⟨b, hb, rfl⟩ := List.mem_map.1 hl
    rw [List.length_map]; have := G.len hb; unfold maxLen; omega)
  rw [hd] at C
  have HO : Hid (∀ W, Below w.heap.size w W → Calls Tryd.prog 41 #[.agg #[.int .i64 (v : Int), u]] W fun e w' => e = .returned (.tuple #[.int .i64 ((k : Int) - 1), .bool true]) ∧ Below W.heap.size W w') := fun W hW => planeOrder_any v B _ true u W (hT.next hW) G (hu.below hW) (fun _ => ⟨k, hk, rfl⟩) (fun h => by cases h)
  have HC : Hid (∀ W, Below (w.alloc (.cells #[.int .i64 (v : Int), u] 29)).heap.size (w.alloc (.cells #[.int .i64 (v : Int), u] 29)) W → W.cell? ⟨w.heap.size, 0, none⟩ = some (.int .i64 (v : Int)) ∧ W.cell? ⟨w.heap.size, 1, none⟩ = some u) := des_box (v : Int) u w
  obtain ⟨x0, x1⟩ := HC.out _ (Below.refl _ _)
  obtain ⟨a, n, c, rfl⟩ : ∃ a n c, u = .slice a n c := by obtain ⟨a, c, e, _⟩ := hu; exact ⟨a, _, c, e⟩
  obtain ⟨r, Hr⟩ : ∃ r, Hid ((k : Int) - 1 = r) := ⟨_, rfl⟩
  rw [Hr.out] at HO ⊢
  clear hu hd G
  go_enter Tryd.func17, Tryd.ntmps17
  go_wp2_with (first
    | (go_at_call 40; refine C.mono ?_; rintro e w1 ⟨rfl, b1⟩; clear C; obtain ⟨y0, y1⟩ := HC.out _ b1; replace b1 := Below.next b0 b1; have CO := HO.out _ b1)
    | (go_at_call 41; refine CO.mono ?_; rintro e w2 ⟨rfl, b2⟩; clear CO; replace b2 := Below.next b1 b2))
  exact bodyPost_ret (v := .tuple #[.int .i64 r, .int .i64 0]) (by simp [results, Tryd.results17, go_sem]) rfl ⟨rfl, b2⟩
set_option maxRecDepth 100000 in
set_option maxHeartbeats 4000000 in
theorem PCheck_no (v : Nat) (B : List (List Nat)) (u : Value) (w : World) (hT : Tab w) (G : GoodD v B) (hd : dF (v : Int) (toZ B) = 0) (hu : Rw w u (toZ B)) (hk : ¬ PlP v B) :
    Calls Tryd.prog 17 #[.agg #[.int .i64 (v : Int), u]] w fun e w' => e = .returned (.tuple #[.int .i64 0, .int .i64 4]) ∧ Below w.heap.size w w' := by
  have b0 := balloc w (.cells #[.int .i64 (v : Int), u] 29)
  have C := Check_any v (toZ B) u _ (hu.below b0) (by unfold toZ maxLen; rw [List.length_map]; have := G.few; omega) (fun l hl => by
    obtain ⟨b, hb, rfl⟩ := List.mem_map.1 hl
    rw [List.length_map]; have := G.len hb; unfold maxLen; omega)
  rw [hd] at C
  have HO : Hid (∀ W, Below w.heap.size w W → Calls Tryd.prog 41 #[.agg #[.int .i64 (v : Int), u]] W fun e w' => e = .returned (.tuple #[.int .i64 0, .bool false]) ∧ Below W.heap.size W w') := fun W hW => planeOrder_any v B 0 false u W (hT.next hW) G (hu.below hW) (fun h => by cases h) (fun _ => ⟨hk, rfl⟩)
  have HC : Hid (∀ W, Below (w.alloc (.cells #[.int .i64 (v : Int), u] 29)).heap.size (w.alloc (.cells #[.int .i64 (v : Int), u] 29)) W → W.cell? ⟨w.heap.size, 0, none⟩ = some (.int .i64 (v : Int)) ∧ W.cell? ⟨w.heap.size, 1, none⟩ = some u) := des_box (v : Int) u w
  obtain ⟨x0, x1⟩ := HC.out _ (Below.refl _ _)
  obtain ⟨a, n, c, rfl⟩ : ∃ a n c, u = .slice a n c := by obtain ⟨a, c, e, _⟩ := hu; exact ⟨a, _, c, e⟩
  clear hu hd G
  go_enter Tryd.func17, Tryd.ntmps17
  go_wp2_with (first
    | (go_at_call 40; refine C.mono ?_; rintro e w1 ⟨rfl, b1⟩; clear C; obtain ⟨y0, y1⟩ := HC.out _ b1; replace b1 := Below.next b0 b1; have CO := HO.out _ b1)
    | (go_at_call 41; refine CO.mono ?_; rintro e w2 ⟨rfl, b2⟩; clear CO; replace b2 := Below.next b1 b2))
  exact bodyPost_ret (v := .tuple #[.int .i64 0, .int .i64 4]) (by simp [results, Tryd.results17, go_sem]) rfl ⟨rfl, b2⟩

end Go.Proofs.YtgpkhfpejopacaaDoor

/- The walks of checkTwo, join and Join. -/
namespace Go.Proofs.YtgpkhfpejopacaaDoor
open Go.RowKit

/-- What is wrong with two of n. -/
def c2F (n a b : Int) : Nat := if a < 0 ∨ n ≤ a ∨ b < 0 ∨ n ≤ b then 1 else if a = b then 6 else 0
set_option maxHeartbeats 4000000 in
theorem checkTwo_any (n a b : Int) (w : World) : Calls Tryd.prog 42 #[.int .i64 n, .int .i64 a, .int .i64 b] w fun e w' => e = .returned (.int .i64 (c2F n a b : Int)) ∧ w' = w := by
  by_cases h1 : a < 0
  · have hz : c2F n a b = 1 := by unfold c2F; rw [if_pos (.inl h1)]
    rw [hz]
    have d1 : decide (a < 0) = true := decide_eq_true h1
    go_enter Tryd.func42, Tryd.ntmps42
    go_wp2
    go_ret
    exact ⟨rfl, rfl⟩
  · have d1 : decide (a < 0) = false := decide_eq_false h1
    by_cases h2 : n ≤ a
    · have hz : c2F n a b = 1 := by unfold c2F; rw [if_pos (.inr (.inl h2))]
      rw [hz]
      have d2 : decide (n ≤ a) = true := decide_eq_true h2
      go_enter Tryd.func42, Tryd.ntmps42
      go_wp2
      go_ret
      exact ⟨rfl, rfl⟩
    · have d2 : decide (n ≤ a) = false := decide_eq_false h2
      by_cases h3 : b < 0
      · have hz : c2F n a b = 1 := by unfold c2F; rw [if_pos (.inr (.inr (.inl h3)))]
        rw [hz]
        have d3 : decide (b < 0) = true := decide_eq_true h3
        go_enter Tryd.func42, Tryd.ntmps42
        go_wp2
        go_ret
        exact ⟨rfl, rfl⟩
      · have d3 : decide (b < 0) = false := decide_eq_false h3
        by_cases h4 : n ≤ b
        · have hz : c2F n a b = 1 := by unfold c2F; rw [if_pos (.inr (.inr (.inr h4)))]
          rw [hz]
          have d4 : decide (n ≤ b) = true := decide_eq_true h4
          go_enter Tryd.func42, Tryd.ntmps42
          go_wp2
          go_ret
          exact ⟨rfl, rfl⟩
        · have d4 : decide (n ≤ b) = false := decide_eq_false h4
          by_cases h5 : a = b
          · have hz : c2F n a b = 6 := by unfold c2F; rw [if_neg (by omega), if_pos h5]
            rw [hz]
            subst h5
            have d5 : (a == a) = true := by simp
            go_enter Tryd.func42, Tryd.ntmps42
            go_wp2
            go_ret
            exact ⟨rfl, rfl⟩
          · have hz : c2F n a b = 0 := by unfold c2F; rw [if_neg (by omega), if_neg h5]
            rw [hz]
            have d5 : (a == b) = false := by simpa using h5
            go_enter Tryd.func42, Tryd.ntmps42
            go_wp2
            go_ret
            exact ⟨rfl, rfl⟩
theorem c2F_nat {n : Nat} {a b : Int} (h : c2F n a b = 0) : ∃ x y : Nat, a = x ∧ b = y ∧ x < n ∧ y < n ∧ x ≠ y := by
  unfold c2F at h
  by_cases h1 : a < 0 ∨ (n : Int) ≤ a ∨ b < 0 ∨ (n : Int) ≤ b
  · rw [if_pos h1] at h; cases h
  · rw [if_neg h1] at h
    by_cases h2 : a = b
    · rw [if_pos h2] at h; cases h
    · exact ⟨a.toNat, b.toNat, by omega, by omega, by omega, by omega, by omega⟩
set_option maxHeartbeats 4000000 in
theorem join1_any (b : List Nat) (p q b1 b2 : Nat) (u : Value) (W : World) (hu : Sl W u (b.map Int.ofNat)) (hb : b.length ≤ 100) (h1 : W.cell? ⟨b1, 0, none⟩ = some (.int .i64 (p : Int))) (h2 : W.cell? ⟨b2, 0, none⟩ = some (.int .i64 (q : Int))) :
    Calls Tryd.prog 69 #[u, .pointer (some ⟨b1, 0, none⟩), .pointer (some ⟨b2, 0, none⟩)] W fun e w' => e = .returned (.bool (b.contains p && b.contains q)) ∧ Below W.heap.size W w' := by
  have C1 := Contains_any b p u W hu hb
  have C2 := Contains_any b q u W hu hb
  generalize b.contains p = tp at *
  generalize b.contains q = tq at *
  obtain ⟨a, n, c, rfl⟩ : ∃ a n c, u = .slice a n c := by obtain ⟨a, c, e, _⟩ := hu; exact ⟨a, _, c, e⟩
  clear hu
  cases tp
  · go_enter Tryd.func69, Tryd.ntmps69
    go_wp2_with (go_at_call 70; refine C1.mono ?_; rintro e w1 ⟨rfl, hw⟩; replace hw := hw.symm; subst hw; clear C1)
    go_ret
    exact ⟨rfl, Below.refl _ _⟩
  · go_enter Tryd.func69, Tryd.ntmps69
    go_wp2_with (first
      | (go_at_call 70; refine C1.mono ?_; rintro e w1 ⟨rfl, hw⟩; replace hw := hw.symm; subst hw; clear C1)
      | (go_at_call 70; refine C2.mono ?_; rintro e w1 ⟨rfl, hw⟩; replace hw := hw.symm; subst hw; clear C2))
    go_ret
    exact ⟨by cases tq <;> rfl, Below.refl _ _⟩
theorem e69 : ∀ args w, (callFunc 69 args).run Tryd.prog w = .ok (.enter 69 args) w := enters_of Tryd.func69 (by kernel_rfl) rfl
set_option maxRecDepth 100000 in
set_option maxHeartbeats 4000000 in
theorem IndexFunc_any (B : List (List Nat)) (p : List Nat → Bool) (k : Nat) (lb : Array Value) (v : Value) (w : World) (hv : Rw w v (toZ B)) (hl : B.length ≤ 200)
    (hp : ∀ W : World, Below w.heap.size w W → ∀ u b, b ∈ B → Sl W u (b.map Int.ofNat) → Calls Tryd.prog 69 (#[u] ++ lb) W fun e w' => e = .returned (.bool (p b)) ∧ Below W.heap.size W w')
    (hk : k < B.length) (hyes : ∀ b, B[k]? = some b → p b = true) (hno : ∀ (j : Nat) (b : List Nat), j < k → B[j]? = some b → p b = false) :
    Calls Tryd.prog 68 #[v, .func (.func 69) #[] lb] w fun e w' => e = .returned (.int .i64 (k : Int)) ∧ Below w.heap.size w w' := by
  have eg := e69
  obtain ⟨a, cap, rfl, hD⟩ := drow_of hv
  have HD : Hid (DRow w a B) := hD
  have HP : Hid (∀ W : World, Below w.heap.size w W → ∀ u b, b ∈ B → Sl W u (b.map Int.ofNat) → Calls Tryd.prog 69 (#[u] ++ lb) W fun e w' => e = .returned (.bool (p b)) ∧ Below W.heap.size W w') := hp
  have HY : Hid (∀ b, B[k]? = some b → p b = true) := hyes
  have HNO : Hid (∀ (j : Nat) (b : List Nat), j < k → B[j]? = some b → p b = false) := hno
  have HAT : Hid (∀ i, i < B.length → ∃ b, B[i]? = some b) := fun i hi => ⟨_, List.getElem?_eq_getElem hi⟩
  generalize B.length = n at *
  clear hv hp hD hyes hno
  go_enter Tryd.func68, Tryd.ntmps68
  go_wp2
  go_loopw [8] (fun i wr => ∃ j : Nat, i = .int .i64 (j : Int) ∧ j ≤ k ∧ Below w.heap.size w wr) (fun i _ => (n - intOf i).toNat)
  case atStart => exact ⟨0, rfl, by omega, Below.refl _ _⟩
  case round =>
    obtain ⟨j, rfl, hj, hB⟩ := hrel
    have hlt : j < n := by omega
    have hdj : decide ((j : Int) < (n : Int)) = true := by simp; omega
    have hji : (j : Int) < n := by omega
    have hj0 : (0 : Int) ≤ (j : Int) := by omega
    obtain ⟨b, hb⟩ := HAT.out j hlt
    obtain ⟨bb, off, ua, uc, rfl, hrow⟩ := HD.out j b hb
    obtain ⟨hr0, hr1⟩ := hrow _ hB
    have D := HP.out _ hB _ b (List.mem_of_getElem? hb) hr1
    by_cases hjk : j = k
    · rw [HY.out b (by rw [← hjk]; exact hb)] at D
      subst hjk
      generalize b.length = bl at *
      clear hrow hr1 hb
      go_wp2_with (go_at_fn 69; refine D.mono ?_; rintro e w1 ⟨rfl, b1⟩; clear D)
      go_ret
      exact ⟨rfl, Below.next hB b1⟩
    · rw [HNO.out j b (by omega) hb] at D
      generalize b.length = bl at *
      clear hrow hr1 hb
      go_wp2_with (go_at_fn 69; refine D.mono ?_; rintro e w1 ⟨rfl, b1⟩; clear D)
      go_roundw
      case rel => exact ⟨j + 1, by go_num, by omega, Below.next hB b1⟩
      case measure => simp [intOf]; omega

end Go.Proofs.YtgpkhfpejopacaaDoor

namespace Go.Proofs.YtgpkhfpejopacaaDoor
open Go.RowKit

theorem jnO_some {B : List (List Nat)} {p q i : Nat} (h : jnO B p q = some i) : i < B.length ∧ inc B p i = true ∧ inc B q i = true ∧ ∀ j, j < i → ((B.getD j []).contains p && (B.getD j []).contains q) = false := by
  unfold jnO at h
  rw [List.find?_range_eq_some] at h
  obtain ⟨h1, h2, h3⟩ := h
  rw [Bool.and_eq_true] at h1
  exact ⟨List.mem_range.1 h2, h1.1, h1.2, fun j hj => Bool.eq_false_iff.2 fun e => by have := h3 j hj; rw [e] at this; cases this⟩
theorem Pln.jn {v : Nat} {B : List (List Nat)} (H : Pln v B.length (inc B)) {p q : Nat} (hp : p < v) (hq : q < v) (hn : p ≠ q) : ∃ i, jnO B p q = some i := by
  obtain ⟨i, hi, h1, h2⟩ := H.join p q hp hq hn
  cases h : jnO B p q with
  | some k => exact ⟨k, rfl⟩
  | none =>
    unfold jnO at h
    rw [List.find?_range_eq_none] at h
    have := h i hi
    unfold inc at h1 h2
    rw [h1, h2] at this
    simp at this
theorem bx3 (w : World) (x y : Int) (o : Obj) : ∀ W, Below (((w.alloc o).alloc (.cells #[.int .i64 x] 3)).alloc (.cells #[.int .i64 y] 3)).heap.size (((w.alloc o).alloc (.cells #[.int .i64 x] 3)).alloc (.cells #[.int .i64 y] 3)) W → W.cell? ⟨w.heap.size + 1, 0, none⟩ = some (.int .i64 x) ∧ W.cell? ⟨w.heap.size + 1 + 1, 0, none⟩ = some (.int .i64 y) := fun W hW => by
  have e1 : (w.alloc o).heap.size = w.heap.size + 1 := by simp
  have e2 : ((w.alloc o).alloc (.cells #[.int .i64 x] 3)).heap.size = w.heap.size + 1 + 1 := by simp
  have k1 : (((w.alloc o).alloc (.cells #[.int .i64 x] 3)).alloc (.cells #[.int .i64 y] 3)).heap[w.heap.size + 1]? = some (.cells #[.int .i64 x] 3 (0, 0)) := by
    rw [(balloc ((w.alloc o).alloc (.cells #[.int .i64 x] 3)) (.cells #[.int .i64 y] 3)).block (w.heap.size + 1) (by omega), ← e1]
    exact heap_alloc_new (w.alloc o) _
  have k2 : (((w.alloc o).alloc (.cells #[.int .i64 x] 3)).alloc (.cells #[.int .i64 y] 3)).heap[w.heap.size + 1 + 1]? = some (.cells #[.int .i64 y] 3 (0, 0)) := by
    rw [← e2]
    exact heap_alloc_new ((w.alloc o).alloc (.cells #[.int .i64 x] 3)) _
  have j1 := (hW.block (w.heap.size + 1) (by simp)).trans k1
  have j2 := (hW.block (w.heap.size + 1 + 1) (by simp)).trans k2
  exact ⟨by rw [cell_of_row _ _ _ _ _ _ j1]; rfl, by rw [cell_of_row _ _ _ _ _ _ j2]; rfl⟩
set_option maxRecDepth 100000 in
set_option maxHeartbeats 4000000 in
theorem join_any (v p q i : Nat) (B : List (List Nat)) (u : Value) (w : World) (G : GoodD v B) (hu : Rw w u (toZ B)) (hi : jnO B p q = some i) :
    Calls Tryd.prog 43 #[.agg #[.int .i64 (v : Int), u], .int .i64 (p : Int), .int .i64 (q : Int)] w fun e w' => e = .returned (.int .i64 (i : Int)) ∧ Below w.heap.size w w' := by
  obtain ⟨h1, h2, h3, h4⟩ := jnO_some hi
  have hb1 := balloc w (.cells #[.int .i64 (v : Int), u] 29)
  have hb2 := Below.next hb1 (balloc _ (.cells #[.int .i64 (p : Int)] 3))
  have hb3 := Below.next hb2 (balloc _ (.cells #[.int .i64 (q : Int)] 3))
  have HB3 := bx3 w p q (.cells #[.int .i64 (v : Int), u] 29)
  obtain ⟨x0, x1⟩ := des_box (v : Int) u w _ (Below.mono (balloc _ (.cells #[.int .i64 (p : Int)] 3)) (Nat.le_refl _))
  obtain ⟨y0, y1⟩ := des_box (v : Int) u w _ (Below.next (balloc _ (.cells #[.int .i64 (p : Int)] 3)) (balloc _ (.cells #[.int .i64 (q : Int)] 3)))
  have C := IndexFunc_any B (fun b => b.contains p && b.contains q) i #[.pointer (some ⟨w.heap.size + 1, 0, none⟩), .pointer (some ⟨w.heap.size + 1 + 1, 0, none⟩)] u _ (hu.below hb3) G.few (fun W hW u b hb hs => by
      obtain ⟨z1, z2⟩ := HB3 W hW
      exact join1_any b p q (w.heap.size + 1) (w.heap.size + 1 + 1) u W hs (by have := G.len hb; omega) z1 z2) h1 (fun b hb => by
      rw [inc_at hb] at h2 h3
      rw [h2, h3]; rfl) (fun j b hj hb => by
      have := h4 j hj
      rw [List.getD_eq_getElem?_getD, hb] at this
      exact this)
  obtain ⟨a, n, c, rfl⟩ : ∃ a n c, u = .slice a n c := by obtain ⟨a, c, e, _⟩ := hu; exact ⟨a, _, c, e⟩
  clear hu hi h1 h2 h3 h4 HB3 G
  go_enter Tryd.func43, Tryd.ntmps43
  go_wp2_with (go_at_call 68; refine C.mono ?_; rintro e w1 ⟨rfl, b1⟩; clear C)
  go_ret
  exact ⟨rfl, Below.next hb3 b1⟩
/-- What Check says of a design that is none, or of none that is a plane. -/
def PCz (p : Int) (ls : List (List Int)) (z : Nat) : Prop := (dF p ls ≠ 0 ∧ z = dF p ls) ∨ (∃ (v : Nat) (B : List (List Nat)), p = v ∧ ls = toZ B ∧ GoodD v B ∧ dF p ls = 0 ∧ ¬ PlP v B ∧ z = 4)
theorem PCz.ne {p : Int} {ls : List (List Int)} {z : Nat} (h : PCz p ls z) : z ≠ 0 := by
  rcases h with ⟨h, rfl⟩ | ⟨_, _, _, _, _, _, _, rfl⟩
  · exact h
  · omega
theorem PCheck_z (p : Int) (ls : List (List Int)) (z : Nat) (u : Value) (w : World) (hT : Tab w) (hu : Rw w u ls) (hl : ls.length ≤ maxLen) (hll : ∀ l ∈ ls, l.length ≤ maxLen) (h : PCz p ls z) :
    Calls Tryd.prog 17 #[.agg #[.int .i64 p, u]] w fun e w' => e = .returned (.tuple #[.int .i64 0, .int .i64 (z : Int)]) ∧ Below w.heap.size w w' := by
  rcases h with ⟨h, rfl⟩ | ⟨v, B, rfl, rfl, G, hd, hn, rfl⟩
  · exact PCheck_bad p ls u w hu hl hll h
  · exact PCheck_no v B u w hT G hd hu hn
set_option maxRecDepth 100000 in
set_option maxHeartbeats 4000000 in
theorem Join_bad (p : Int) (ls : List (List Int)) (z : Nat) (x y : Int) (u : Value) (w : World) (hT : Tab w) (hu : Rw w u ls) (hl : ls.length ≤ maxLen) (hll : ∀ l ∈ ls, l.length ≤ maxLen) (h : PCz p ls z) :
    Calls Tryd.prog 18 #[.agg #[.int .i64 p, u], .int .i64 x, .int .i64 y] w fun e w' => e = .returned (.tuple #[.int .i64 0, .int .i64 (z : Int)]) ∧ Below w.heap.size w w' := by
  have b0 := balloc w (.cells #[.int .i64 p, u] 29)
  have C := PCheck_z p ls z u _ (hT.next b0) (hu.below b0) hl hll h
  have hz := h.ne
  have hz2 : ¬ (z : Int) = 0 := by omega
  have hz1 : ((z : Int) != 0) = true := by simpa using hz2
  obtain ⟨x0, x1⟩ := des_box p u w _ (Below.refl _ _)
  obtain ⟨a, n, c, rfl⟩ : ∃ a n c, u = .slice a n c := by obtain ⟨a, c, e, _⟩ := hu; exact ⟨a, _, c, e⟩
  clear hu hl hll h
  go_enter Tryd.func18, Tryd.ntmps18
  go_wp2_with (go_at_call 17; refine C.mono ?_; rintro e w1 ⟨rfl, b1⟩; clear C)
  exact bodyPost_ret (v := .tuple #[.int .i64 0, .int .i64 (z : Int)]) (by simp [results, Tryd.results18, go_sem]) rfl ⟨rfl, Below.next b0 b1⟩
set_option maxRecDepth 100000 in
set_option maxHeartbeats 4000000 in
theorem Join_wrong (v k : Nat) (B : List (List Nat)) (x y : Int) (u : Value) (w : World) (hT : Tab w) (G : GoodD v B) (hd : dF (v : Int) (toZ B) = 0) (hu : Rw w u (toZ B)) (hk : PrP v B k) (hz : c2F v x y ≠ 0) :
    Calls Tryd.prog 18 #[.agg #[.int .i64 (v : Int), u], .int .i64 x, .int .i64 y] w fun e w' => e = .returned (.tuple #[.int .i64 0, .int .i64 (c2F v x y : Int)]) ∧ Below w.heap.size w w' := by
  have b0 := balloc w (.cells #[.int .i64 (v : Int), u] 29)
  have C := PCheck_yes v k B u _ (hT.next b0) G hd (hu.below b0) hk
  have C2 : Hid (∀ W, Calls Tryd.prog 42 #[.int .i64 (v : Int), .int .i64 x, .int .i64 y] W fun e w' => e = .returned (.int .i64 (c2F v x y : Int)) ∧ w' = W) := fun W => checkTwo_any v x y W
  have HC : Hid (∀ W, Below (w.alloc (.cells #[.int .i64 (v : Int), u] 29)).heap.size (w.alloc (.cells #[.int .i64 (v : Int), u] 29)) W → W.cell? ⟨w.heap.size, 0, none⟩ = some (.int .i64 (v : Int)) ∧ W.cell? ⟨w.heap.size, 1, none⟩ = some u) := des_box (v : Int) u w
  obtain ⟨x0, x1⟩ := HC.out _ (Below.refl _ _)
  obtain ⟨a, n, c, rfl⟩ : ∃ a n c, u = .slice a n c := by obtain ⟨a, c, e, _⟩ := hu; exact ⟨a, _, c, e⟩
  obtain ⟨r, Hr⟩ : ∃ r, Hid ((k : Int) - 1 = r) := ⟨_, rfl⟩
  rw [Hr.out] at C
  obtain ⟨z, Hz⟩ : ∃ z, Hid (c2F v x y = z) := ⟨_, rfl⟩
  rw [Hz.out] at C2 hz ⊢
  have hz2 : ¬ (z : Int) = 0 := by omega
  have hz1 : ((z : Int) != 0) = true := by simpa using hz2
  clear hu hd G hk
  go_enter Tryd.func18, Tryd.ntmps18
  go_wp2_with (first
    | (go_at_call 17; refine C.mono ?_; rintro e w1 ⟨rfl, b1⟩; clear C; obtain ⟨y0, y1⟩ := HC.out _ b1; replace b1 := Below.next b0 b1)
    | (go_at_call 42; refine (C2.out _).mono ?_; rintro e w2 ⟨rfl, hw⟩; replace hw := hw.symm; subst hw; clear C2))
  exact bodyPost_ret (v := .tuple #[.int .i64 0, .int .i64 (z : Int)]) (by simp [results, Tryd.results18, go_sem]) rfl ⟨rfl, b1⟩
set_option maxRecDepth 100000 in
set_option maxHeartbeats 4000000 in
theorem Join_ok (v k p q i : Nat) (B : List (List Nat)) (u : Value) (w : World) (hT : Tab w) (G : GoodD v B) (hd : dF (v : Int) (toZ B) = 0) (hu : Rw w u (toZ B)) (hk : PrP v B k) (hz : c2F v p q = 0) (hi : jnO B p q = some i) :
    Calls Tryd.prog 18 #[.agg #[.int .i64 (v : Int), u], .int .i64 (p : Int), .int .i64 (q : Int)] w fun e w' => e = .returned (.tuple #[.int .i64 (i : Int), .int .i64 0]) ∧ Below w.heap.size w w' := by
  have b0 := balloc w (.cells #[.int .i64 (v : Int), u] 29)
  have C := PCheck_yes v k B u _ (hT.next b0) G hd (hu.below b0) hk
  have C2 : Hid (∀ W, Calls Tryd.prog 42 #[.int .i64 (v : Int), .int .i64 (p : Int), .int .i64 (q : Int)] W fun e w' => e = .returned (.int .i64 0) ∧ w' = W) := fun W => by
    have h := checkTwo_any v p q W
    rw [hz] at h
    exact h
  have HJ : Hid (∀ W, Below w.heap.size w W → Calls Tryd.prog 43 #[.agg #[.int .i64 (v : Int), u], .int .i64 (p : Int), .int .i64 (q : Int)] W fun e w' => e = .returned (.int .i64 (i : Int)) ∧ Below W.heap.size W w') := fun W hW => join_any v p q i B u W G (hu.below hW) hi
  have HC : Hid (∀ W, Below (w.alloc (.cells #[.int .i64 (v : Int), u] 29)).heap.size (w.alloc (.cells #[.int .i64 (v : Int), u] 29)) W → W.cell? ⟨w.heap.size, 0, none⟩ = some (.int .i64 (v : Int)) ∧ W.cell? ⟨w.heap.size, 1, none⟩ = some u) := des_box (v : Int) u w
  obtain ⟨x0, x1⟩ := HC.out _ (Below.refl _ _)
  obtain ⟨a, n, c, rfl⟩ : ∃ a n c, u = .slice a n c := by obtain ⟨a, c, e, _⟩ := hu; exact ⟨a, _, c, e⟩
  obtain ⟨r, Hr⟩ : ∃ r, Hid ((k : Int) - 1 = r) := ⟨_, rfl⟩
  rw [Hr.out] at C
  clear hu hd G hk hz hi
  go_enter Tryd.func18, Tryd.ntmps18
  go_wp2_with (first
    | (go_at_call 17; refine C.mono ?_; rintro e w1 ⟨rfl, b1⟩; clear C; obtain ⟨y0, y1⟩ := HC.out _ b1; replace b1 := Below.next b0 b1)
    | (go_at_call 42; refine (C2.out _).mono ?_; rintro e w2 ⟨rfl, hw⟩; replace hw := hw.symm; subst hw; clear C2; have CJ := HJ.out _ b1)
    | (go_at_call 43; refine CJ.mono ?_; rintro e w3 ⟨rfl, b3⟩; clear CJ; replace b3 := Below.next b1 b3))
  exact bodyPost_ret (v := .tuple #[.int .i64 (i : Int), .int .i64 0]) (by simp [results, Tryd.results18, go_sem]) rfl ⟨rfl, b3⟩

end Go.Proofs.YtgpkhfpejopacaaDoor

/- The walks of common and Meet. -/
namespace Go.Proofs.YtgpkhfpejopacaaDoor
open Go.RowKit

/-- What two blocks have together, of the first k. -/
def cmL (a b : List Nat) (k : Nat) : List Nat := (a.take k).filter fun y => b.contains y
theorem cmL_up {a b : List Nat} {k x : Nat} (h : a[k]? = some x) : cmL a b (k + 1) = cmL a b k ++ (if b.contains x = true then [x] else []) := by
  unfold cmL
  rw [List.take_add_one, h, List.filter_append]
  congr 1
  simp only [Option.toList_some, List.filter_cons, List.filter_nil]
theorem cmL_len (a b : List Nat) (k : Nat) : (cmL a b k).length ≤ k := Nat.le_trans (List.length_filter_le _ _) (by rw [List.length_take]; omega)
theorem cmL_full (a b : List Nat) : cmL a b a.length = a.filter fun y => b.contains y := by unfold cmL; rw [List.take_length]
theorem cmL_mt (a b : List Nat) : (cmL a b a.length).length = mt a b := by rw [cmL_full]; unfold mt; rw [List.countP_eq_length_filter]
set_option maxRecDepth 100000 in
set_option maxHeartbeats 8000000 in
theorem common_any (a b : List Nat) (u v : Value) (w : World) (hu : Sl w u (a.map Int.ofNat)) (hv : Sl w v (b.map Int.ofNat)) (ha : a.length ≤ 100) (hb : b.length ≤ 100) :
    Calls Tryd.prog 44 #[u, v] w fun e w' => ∃ xa xn xc, e = .returned (.slice xa xn xc) ∧ xn = (cmL a b a.length).length ∧ ORow w' w.heap.size (.slice xa xn xc) (cmL a b a.length) ∧ Below w.heap.size w w' := by
  obtain ⟨i3, hi3, hz0, hz1, hz2⟩ := info3
  have HAE : Hid (∀ i, i < a.length → ∃ g o, (∃ c, u = .slice (some ⟨g, o, none⟩) a.length c) ∧ ∀ W, Below w.heap.size w W → W.cell? ⟨g, o + i, none⟩ = some (.int .i64 ((a.getD i 0 : Nat) : Int))) := fun i hi => by
    obtain ⟨a', c', e, h⟩ := hu
    rw [List.length_map] at h e
    obtain ⟨g, o, e1, h1⟩ := h i hi
    rw [ofNat_at a hi] at h1
    exact ⟨g, o, ⟨c', by rw [e, e1]⟩, fun W hW => (hW.cell (World.block_lt_of_cell? _ _ h1)).trans h1⟩
  have HLI : Hid (∀ (W : World) (x : Nat), Below w.heap.size w W → Calls Tryd.prog 70 #[v, .int .i64 (x : Int)] W fun e w' => e = .returned (.bool (b.contains x)) ∧ w' = W) := fun W x hW => Contains_any b x v W (hv.below hW) hb
  have HCU : Hid (∀ k, k < a.length → cmL a b (k + 1) = cmL a b k ++ (if b.contains (a.getD k 0) = true then [a.getD k 0] else [])) := fun k hk => cmL_up (by rw [List.getD_eq_getElem?_getD, List.getElem?_eq_getElem hk]; rfl)
  have HCL : Hid (∀ k, (cmL a b k).length ≤ k) := cmL_len a b
  have HC0 : Hid (cmL a b 0 = []) := rfl
  obtain ⟨CL, HCC⟩ : ∃ CL : Nat → List Nat, Hid (cmL a b = CL) := ⟨_, rfl⟩
  rw [HCC.out] at HCU HCL HC0 ⊢
  obtain ⟨ua, un, uc, rfl, Hun⟩ : ∃ ua un uc, u = .slice ua un uc ∧ un = a.length := by obtain ⟨x, y, e, _⟩ := hu; exact ⟨x, _, y, e, by rw [List.length_map]⟩
  obtain ⟨va, vn, vc, rfl⟩ : ∃ va vn vc, v = .slice va vn vc := by obtain ⟨x, y, e, _⟩ := hv; exact ⟨x, _, y, e⟩
  generalize a.length = n at *
  subst Hun
  obtain ⟨B, HB⟩ : ∃ B, Hid (w.heap.size = B) := ⟨_, rfl⟩
  have HBS : Hid (∀ W, Below B w W → B ≤ W.heap.size) := fun W h => by rw [← HB.out]; exact h.size
  have h0 : Below B w w := Below.refl _ _
  rw [HB.out] at HAE HLI ⊢
  clear hu hv
  go_enter Tryd.func44, Tryd.ntmps44
  go_wp2
  go_loopw [5, 10] (fun ov iv wr => ∃ (i : Nat) (oa : Option Addr) (on oc : Nat), iv = .int .i64 (i : Int) ∧ i ≤ un ∧ ov = .slice oa on oc ∧ Hid ((CL i).length = on) ∧ Hid (ORow wr B (.slice oa on oc) (CL i)) ∧ Below B w wr) (fun _ iv _ => (un - intOf iv).toNat)
  case atStart => exact ⟨0, none, 0, 0, rfl, by omega, rfl, (show (CL 0).length = 0 by rw [HC0.out]; rfl), (show ORow _ _ _ (CL 0) by rw [HC0.out]; exact World.ownsRow_nil _ _ _ _), h0⟩
  case round =>
    clear h0
    obtain ⟨i, oa, on, oc, rfl, hi, rfl, HON, HOR, hB⟩ := hrel
    by_cases hlt : i < un
    · have hdi : decide ((i : Int) < (un : Int)) = true := by simp; omega
      have hii : (i : Int) < (un : Int) := by omega
      obtain ⟨g, o, ⟨c', e'⟩, hc0⟩ := HAE.out i hlt
      obtain ⟨rfl, rfl⟩ : ua = some ⟨g, o, none⟩ ∧ uc = c' := by simp only [Value.slice.injEq] at e'; exact ⟨e'.1, e'.2.2⟩
      have hc := hc0 _ hB
      have hcu := HCU.out i hlt
      have C := HLI.out wr (a.getD i 0) hB
      obtain ⟨x, Hx⟩ : ∃ x, Hid (a.getD i 0 = x) := ⟨_, rfl⟩
      rw [Hx.out] at hc hcu C
      obtain ⟨t, Ht⟩ : ∃ t, Hid (b.contains x = t) := ⟨_, rfl⟩
      rw [Ht.out] at hcu C
      have HU : Hid (CL (i + 1) = CL i ++ (if t = true then [x] else [])) := hcu
      have hcl := HCL.out i
      rw [HON.out] at hcl
      have hsz := HBS.out _ hB
      clear hcu e' hc0
      cases t
      · have HU2 : Hid (CL (i + 1) = CL i) := (show CL (i + 1) = CL i by rw [HU.out]; simp)
        have HO8 : Hid (ORow wr B (.slice oa on oc) (CL (i + 1))) := (show ORow wr B (.slice oa on oc) (CL (i + 1)) by rw [HU2.out]; exact HOR.out)
        have HL8 : Hid ((CL (i + 1)).length = on) := (show (CL (i + 1)).length = on by rw [HU2.out]; exact HON.out)
        clear HU HOR
        go_wp2_with (go_at_call 70; refine C.mono ?_; rintro e w1 ⟨rfl, hw⟩; replace hw := hw.symm; subst hw; clear C)
        go_roundw
        case rel => exact ⟨i + 1, oa, on, oc, by go_num, by omega, rfl, HL8, HO8, hB⟩
        case measure => simp [intOf]; omega
      · have HU2 : Hid (CL (i + 1) = CL i ++ [x]) := (show CL (i + 1) = CL i ++ [x] by rw [HU.out]; simp)
        have hown : wr.ownsRow B 3 1 (.slice oa on oc) on (((CL i).map Int.ofNat).map (Value.int .i64)) := by
          have h := HOR.out
          unfold ORow at h
          rwa [HON.out] at h
        clear HU HOR
        go_wp2_with (first
          | (go_at_call 70; refine C.mono ?_; rintro e w1 ⟨rfl, hw⟩; replace hw := hw.symm; subst hw; clear C)
          | (at_builtin; refine wpList_append_own _ rfl _ _ 22 rfl B 3 i3 (.int .i64 0) 1 8 und22 hi3 hz0 hz1 hz2 rfl (by decide) _ _ _ rfl (hown.alloc _) ⟨wr.heap.size, 0, none⟩ 1 1 [.int .i64 (x : Int)] rfl rfl (fun j u hj => by (match j, hj with | 0, hj => simp at hj; subst hj; simp [Addr.add])) (fun u hu => by (simp at hu; subst hu; rfl)) (by (unfold maxLen; omega)) (by omega) (by (simp; omega)) ?_; intro v' w8 hown' hgrow _
             have hb8 : Below B w w8 := (hB.alloc hsz _).grown hgrow (by simp; omega) (fun k hk => (hown.lt k hk).1)
             obtain ⟨va', vc', rfl⟩ := own_form2 hown'
             have HO8 : Hid (ORow w8 B (.slice va' (on + 1) vc') (CL (i + 1))) := (show ORow w8 B (.slice va' (on + 1) vc') (CL (i + 1)) by unfold ORow; rw [HU2.out, List.length_append, HON.out, List.map_append, List.map_append]; exact hown')
             have HL8 : Hid ((CL (i + 1)).length = on + 1) := (show (CL (i + 1)).length = on + 1 by rw [HU2.out, List.length_append, HON.out]; rfl)
             clear hown hgrow hown')
          | go_in)
        go_roundw
        case rel => exact ⟨i + 1, va', on + 1, vc', by go_num, by omega, rfl, HL8, HO8, hb8⟩
        case measure => simp [intOf]; omega
    · have hdi : decide ((i : Int) < (un : Int)) = false := by simp; omega
      obtain rfl : i = un := by omega
      go_wp2
      go_ret
      exact ⟨oa, on, oc, rfl, HON.out.symm, HOR.out, hB⟩

end Go.Proofs.YtgpkhfpejopacaaDoor

namespace Go.Proofs.YtgpkhfpejopacaaDoor
open Go.RowKit

set_option maxRecDepth 100000 in
set_option maxHeartbeats 8000000 in
theorem isArc_any (v : Nat) (B : List (List Nat)) (s : List Nat) (u sv : Value) (w : World) (G : GoodD v B) (hu : Rw w u (toZ B)) (hs : Sl w sv (s.map Int.ofNat)) (hsp : Pts v s) :
    Calls Tryd.prog 45 #[.agg #[.int .i64 (v : Int), u], sv] w fun e w' => e = .returned (.bool (!liB B s)) ∧ Below w.heap.size w w' := by
  obtain ⟨a, cap, rfl, hD⟩ := drow_of hu
  have h200 := G.few
  have hs40 : s.length ≤ 40 := Nat.le_trans hsp.le G.le
  have HD : Hid (DRow w a B) := hD
  have HAT : Hid (∀ i, i < B.length → ∃ b, B[i]? = some b) := fun i hi => ⟨_, List.getElem?_eq_getElem hi⟩
  have HSY : Hid (∀ b ∈ B, mt b s = mt s b) := fun b hb => mt_sym (G.bls b hb) hsp
  have HY : Hid (∀ (i : Nat) (b : List Nat), B[i]? = some b → 2 < mt b s → liB B s = true) := fun i b h h2 => liB_yes h (by rw [← HSY.out b (List.mem_of_getElem? h)]; exact h2)
  have HN : Hid ((∀ (i : Nat) (b : List Nat), i < B.length → B[i]? = some b → ¬ 2 < mt b s) → liB B s = false) := fun h => liB_no fun i b hb => by
    rw [← HSY.out b (List.mem_of_getElem? hb)]; exact h i b (List.getElem?_eq_some_iff.1 hb).1 hb
  have HTo : Hid (∀ (W : World) (b : List Nat) (bv : Value), b.length ≤ 40 → Below w.heap.size w W → Sl W bv (b.map Int.ofNat) → Calls Tryd.prog 44 #[bv, sv] W fun e w' => (∃ xa xc, e = .returned (.slice xa (mt b s) xc)) ∧ Below W.heap.size W w') := fun W b bv hb hW hbv => by
    refine (common_any b s bv sv W hbv (hs.below hW) (by omega) (by omega)).mono ?_
    rintro e w' ⟨xa, xn, xc, rfl, hxn, _, bW⟩
    rw [cmL_mt] at hxn
    subst hxn
    exact ⟨⟨xa, xc, rfl⟩, bW⟩
  have HML : Hid (∀ b : List Nat, b.length ≤ 40 → mt b s ≤ 99) := fun b hb => Nat.le_trans List.countP_le_length (by omega)
  have HBL : Hid (∀ b ∈ B, b.length ≤ 40) := fun b hb => G.len hb
  have HC : Hid (∀ W, Below (w.alloc (.cells #[.int .i64 (v : Int), .slice a B.length cap] 29)).heap.size (w.alloc (.cells #[.int .i64 (v : Int), .slice a B.length cap] 29)) W → W.cell? ⟨w.heap.size, 0, none⟩ = some (.int .i64 (v : Int)) ∧ W.cell? ⟨w.heap.size, 1, none⟩ = some (.slice a B.length cap)) := des_box (v : Int) (.slice a B.length cap) w
  obtain ⟨w0, Hw0⟩ : ∃ w0, Hid (w0 = w.alloc (.cells #[.int .i64 (v : Int), .slice a B.length cap] 29)) := ⟨_, rfl⟩
  rw [← Hw0.out] at HC
  have HB0 : Hid (Below w.heap.size w w0) := by rw [Hw0.out]; exact balloc _ _
  obtain ⟨z, Hz⟩ : ∃ z, Hid (liB B s = z) := ⟨_, rfl⟩
  rw [Hz.out] at HY HN ⊢
  obtain ⟨x0, x1⟩ := HC.out _ (Below.refl _ _)
  rw [Hw0.out] at x0 x1
  obtain ⟨sa, sn, sc, rfl⟩ : ∃ a n c, sv = .slice a n c := by obtain ⟨a, c, e, _⟩ := hs; exact ⟨a, _, c, e⟩
  generalize hBn : B.length = n at *
  clear hD hu hs hsp G HSY
  go_enter Tryd.func45, Tryd.ntmps45
  go_wp2
  go_loopw [10] (fun iv wr => ∃ i : Nat, iv = .int .i64 (i : Int) ∧ i ≤ n ∧ Hid (∀ (j : Nat) (b : List Nat), j < i → B[j]? = some b → ¬ 2 < mt b s) ∧ Below w0.heap.size w0 wr) (fun iv _ => (n - intOf iv).toNat)
  case atStart => exact ⟨0, rfl, by omega, (show ∀ (j : Nat) (b : List Nat), j < 0 → _ from fun j b h => by omega), by rw [Hw0.out]; exact Below.refl _ _⟩
  case round =>
    clear x0 x1
    obtain ⟨i, rfl, hi, HI, hB⟩ := hrel
    have hBw := Below.next HB0.out hB
    by_cases hlt : i < n
    · have hdi : decide ((i : Int) < (n : Int)) = true := by simp; omega
      have hii : (i : Int) < (n : Int) := by omega
      obtain ⟨b, hb⟩ := HAT.out i hlt
      obtain ⟨bb, off, ua, uc, rfl, hrow⟩ := HD.out i b hb
      obtain ⟨hr0, hr1⟩ := hrow _ hBw
      have hbl := HBL.out b (List.mem_of_getElem? hb)
      have hml := HML.out b hbl
      have C := HTo.out wr b _ hbl hBw hr1
      have hy := HY.out i b hb
      have HI2 : Hid (¬ 2 < mt b s → ∀ (j : Nat) (c : List Nat), j < i + 1 → B[j]? = some c → ¬ 2 < mt c s) := fun h j c hj hc => by
        by_cases e : j = i
        · subst e
          rw [hb] at hc
          cases hc
          exact h
        · exact HI.out j c (by omega) hc
      obtain ⟨t, Ht⟩ : ∃ t, Hid (mt b s = t) := ⟨_, rfl⟩
      rw [Ht.out] at C hml hy HI2
      generalize b.length = bl at *
      clear hb hr1 hrow HI
      by_cases h2 : 2 < t
      · obtain rfl := hy h2
        have hd2 : decide (2 < (t : Int)) = true := by simp; omega
        have hd2' : decide (2 < t) = true := by simpa using h2
        clear hy HI2
        go_wp2_with (go_at_call 44; refine C.mono ?_; rintro e w1 ⟨⟨xa, xc, rfl⟩, b1⟩; clear C)
        go_ret
        exact ⟨rfl, Below.next hBw b1⟩
      · have hd2 : decide (2 < (t : Int)) = false := by simp; omega
        have hd2' : decide (2 < t) = false := by simpa using h2
        have HI3 : Hid (∀ (j : Nat) (c : List Nat), j < i + 1 → B[j]? = some c → ¬ 2 < mt c s) := HI2.out h2
        clear hy HI2
        go_wp2_with (go_at_call 44; refine C.mono ?_; rintro e w1 ⟨⟨xa, xc, rfl⟩, b1⟩; clear C)
        go_roundw
        case rel => exact ⟨i + 1, by go_num, by omega, HI3, Below.next hB b1⟩
        case measure => simp [intOf]; omega
    · have hdi : decide ((i : Int) < (n : Int)) = false := by simp; omega
      obtain rfl := HN.out fun j b hj hb => HI.out j b (by omega) hb
      go_wp2
      go_ret
      exact ⟨rfl, hBw⟩
theorem dF_one {v : Nat} (h1 : 1 ≤ v) (h2 : v ≤ 40) (b : List Int) : dF (v : Int) [b] = bF (v : Int) b := by
  unfold dF
  rw [if_neg (by omega), if_neg (by simp)]
  unfold blF blF
  split
  · rfl
  · omega
theorem bF_nat {v : Nat} (h1 : 1 ≤ v) (h2 : v ≤ 40) {b : List Int} (h : bF (v : Int) b = 0) : ∃ s, b = s.map Int.ofNat ∧ Rs v 0 s ∧ Pts v s := by
  obtain ⟨v', B, e1, e2, G⟩ := dF_ok (by rw [dF_one h1 h2]; exact h)
  obtain rfl : v = v' := by omega
  unfold toZ at e2
  match B, e2, G with
  | [s], e2, G =>
    have hs : Rs v 0 s := G.rs s (by simp)
    exact ⟨s, by simpa using e2, hs, G.bls s (by simp)⟩
theorem rw_one (w : World) (lv : Value) (b : List Int) (h : Sl w lv b) : Rw (w.alloc (.cells #[lv] 22)) (.slice (some ⟨w.heap.size, 0, none⟩) 1 1) [b] := by
  refine ⟨_, 1, rfl, fun i l hi => ⟨w.heap.size, 0, lv, rfl, ?_, ?_⟩⟩
  · have : i = 0 := by have := (List.getElem?_eq_some_iff.1 hi).1; simp at this; omega
    subst this
    rw [cell_of_row _ _ _ _ _ _ (heap_alloc_new w _)]; rfl
  · have : i = 0 := by have := (List.getElem?_eq_some_iff.1 hi).1; simp at this; omega
    subst this
    obtain rfl : b = l := by simpa using hi
    exact h.alloc _
set_option maxRecDepth 100000 in
set_option maxHeartbeats 4000000 in
theorem Arc_bad (p : Int) (ls : List (List Int)) (z : Nat) (u lv : Value) (w : World) (hT : Tab w) (hu : Rw w u ls) (hl : ls.length ≤ maxLen) (hll : ∀ l ∈ ls, l.length ≤ maxLen) (h : PCz p ls z) :
    Calls Tryd.prog 22 #[.agg #[.int .i64 p, u], lv] w fun e w' => e = .returned (.tuple #[.bool false, .int .i64 (z : Int)]) ∧ Below w.heap.size w w' := by
  have b0 := balloc w (.cells #[.int .i64 p, u] 29)
  have C := PCheck_z p ls z u _ (hT.next b0) (hu.below b0) hl hll h
  have hz := h.ne
  have hz2 : ¬ (z : Int) = 0 := by omega
  have hz1 : ((z : Int) != 0) = true := by simpa using hz2
  obtain ⟨x0, x1⟩ := des_box p u w _ (Below.refl _ _)
  obtain ⟨a, n, c, rfl⟩ : ∃ a n c, u = .slice a n c := by obtain ⟨a, c, e, _⟩ := hu; exact ⟨a, _, c, e⟩
  clear hu hl hll h
  go_enter Tryd.func22, Tryd.ntmps22
  go_wp2_with (go_at_call 17; refine C.mono ?_; rintro e w1 ⟨rfl, b1⟩; clear C)
  exact bodyPost_ret (v := .tuple #[.bool false, .int .i64 (z : Int)]) (by simp [results, Tryd.results22, go_sem]) rfl ⟨rfl, Below.next b0 b1⟩
/-- Is it an arc? Of what is no list of points it is said to be none. -/
def aqB (v : Nat) (B : List (List Nat)) (b : List Int) : Bool := if bF (v : Int) b = 0 then !liB B (b.map Int.toNat) else false
theorem toNat_ofNat (s : List Nat) : (s.map Int.ofNat).map Int.toNat = s := by
  rw [List.map_map]
  exact List.map_id'' (fun x => rfl) s
set_option maxRecDepth 100000 in
set_option maxHeartbeats 8000000 in
theorem Arc_any (v k : Nat) (B : List (List Nat)) (b : List Int) (u lv : Value) (w : World) (hT : Tab w) (G : GoodD v B) (hd : dF (v : Int) (toZ B) = 0) (hu : Rw w u (toZ B)) (hl : Sl w lv b) (hbl : b.length ≤ maxLen) (hk : PrP v B k) :
    Calls Tryd.prog 22 #[.agg #[.int .i64 (v : Int), u], lv] w fun e w' => e = .returned (.tuple #[.bool (aqB v B b), .int .i64 (bF (v : Int) b : Int)]) ∧ Below w.heap.size w w' := by
  have b0 := balloc w (.cells #[.int .i64 (v : Int), u] 29)
  have C := PCheck_yes v k B u _ (hT.next b0) G hd (hu.below b0) hk
  have HCK : Hid (∀ W, Below w.heap.size w W → Calls Tryd.prog 40 #[.agg #[.int .i64 (v : Int), .slice (some ⟨W.heap.size, 0, none⟩) 1 1]] (W.alloc (.cells #[lv] 22)) fun e w' => e = .returned (.int .i64 (bF (v : Int) b : Int)) ∧ Below (W.alloc (.cells #[lv] 22)).heap.size (W.alloc (.cells #[lv] 22)) w') := fun W hW => by
    have h := Check_any (v : Int) [b] _ _ (rw_one W lv b (hl.below hW)) (by simp [maxLen]) (fun l hl => by rw [List.mem_singleton.1 hl]; exact hbl)
    rw [dF_one G.pos G.le] at h
    exact h
  have HA : Hid (bF (v : Int) b = 0 → ∀ W, Below w.heap.size w W → Calls Tryd.prog 45 #[.agg #[.int .i64 (v : Int), u], lv] W fun e w' => e = .returned (.bool (aqB v B b)) ∧ Below W.heap.size W w') := fun h W hW => by
    obtain ⟨s, rfl, _, hs⟩ := bF_nat G.pos G.le h
    have k := isArc_any v B s u lv W G (hu.below hW) (hl.below hW) hs
    have e : aqB v B (s.map Int.ofNat) = !liB B s := by unfold aqB; rw [if_pos h, toNat_ofNat]
    rw [e]
    exact k
  have HF : Hid (bF (v : Int) b ≠ 0 → aqB v B b = false) := fun h => by unfold aqB; rw [if_neg h]
  have HC : Hid (∀ W, Below (w.alloc (.cells #[.int .i64 (v : Int), u] 29)).heap.size (w.alloc (.cells #[.int .i64 (v : Int), u] 29)) W → W.cell? ⟨w.heap.size, 0, none⟩ = some (.int .i64 (v : Int)) ∧ W.cell? ⟨w.heap.size, 1, none⟩ = some u) := des_box (v : Int) u w
  obtain ⟨x0, x1⟩ := HC.out _ (Below.refl _ _)
  obtain ⟨a, n, c, rfl⟩ : ∃ a n c, u = .slice a n c := by obtain ⟨a, c, e, _⟩ := hu; exact ⟨a, _, c, e⟩
  obtain ⟨la, ln, lc, rfl⟩ : ∃ a n c, lv = .slice a n c := by obtain ⟨a, c, e, _⟩ := hl; exact ⟨a, _, c, e⟩
  obtain ⟨r, Hr⟩ : ∃ r, Hid ((k : Int) - 1 = r) := ⟨_, rfl⟩
  rw [Hr.out] at C
  obtain ⟨z, Hz⟩ : ∃ z, Hid (bF (v : Int) b = z) := ⟨_, rfl⟩
  obtain ⟨q, Hq⟩ : ∃ q, Hid (aqB v B b = q) := ⟨_, rfl⟩
  rw [Hz.out] at HCK HA HF ⊢
  rw [Hq.out] at HA HF ⊢
  clear hu hd G hk hl
  by_cases hz : z = 0
  · subst hz
    have HA2 : Hid (∀ W, Below w.heap.size w W → Calls Tryd.prog 45 #[.agg #[.int .i64 (v : Int), .slice a n c], .slice la ln lc] W fun e w' => e = .returned (.bool q) ∧ Below W.heap.size W w') := HA.out rfl
    clear HA HF
    go_enter Tryd.func22, Tryd.ntmps22
    go_wp2_with (first
      | (go_at_call 17; refine C.mono ?_; rintro e w1 ⟨rfl, b1⟩; clear C; obtain ⟨y0, y1⟩ := HC.out _ b1; have b1a := b1; replace b1 := Below.next b0 b1; have CK := HCK.out _ b1)
      | (go_at_call 40; refine CK.mono ?_; rintro e w2 ⟨rfl, b2⟩; clear CK; have b2a := Below.next (Below.next b1a (balloc _ _)) b2; obtain ⟨t0, t1⟩ := HC.out _ b2a; replace b2 := Below.next (Below.next b1 (balloc _ _)) b2; have CA := HA2.out _ b2)
      | (go_at_call 45; refine CA.mono ?_; rintro e w3 ⟨rfl, b3⟩; clear CA; replace b3 := Below.next b2 b3))
    exact bodyPost_ret (v := .tuple #[.bool q, .int .i64 0]) (by simp [results, Tryd.results22, go_sem]) rfl ⟨rfl, b3⟩
  · obtain rfl := HF.out hz
    have hz2 : ¬ (z : Int) = 0 := by omega
    have hz1 : ((z : Int) != 0) = true := by simpa using hz2
    clear HA HF
    go_enter Tryd.func22, Tryd.ntmps22
    go_wp2_with (first
      | (go_at_call 17; refine C.mono ?_; rintro e w1 ⟨rfl, b1⟩; clear C; obtain ⟨y0, y1⟩ := HC.out _ b1; have b1a := b1; replace b1 := Below.next b0 b1; have CK := HCK.out _ b1)
      | (go_at_call 40; refine CK.mono ?_; rintro e w2 ⟨rfl, b2⟩; clear CK; replace b2 := Below.next (Below.next b1 (balloc _ _)) b2))
    exact bodyPost_ret (v := .tuple #[.bool false, .int .i64 (z : Int)]) (by simp [results, Tryd.results22, go_sem]) rfl ⟨rfl, b2⟩

end Go.Proofs.YtgpkhfpejopacaaDoor

/- The four planes, as the program asks of them. -/
namespace Go.Proofs.YtgpkhfpejopacaaDoor
open Go.RowKit

def plpB (v : Nat) (B : List (List Nat)) : Bool := ((List.range B.length).all fun i => (List.range i).all fun j => mt (B.getD i []) (B.getD j []) == 1) && (List.range v).all fun x => (List.range x).all fun y => nb B [y, x] == 1
theorem plp_of {v : Nat} {B : List (List Nat)} {s : List Nat} (h : plpB v B = true) (hv : 4 ≤ v) (hs : s.Pairwise (· < ·) ∧ ∀ x ∈ s, 0 ≤ x ∧ x < v) (h4 : s.length = 4) (hl : liB B s = false) : PlP v B := by
  unfold plpB at h
  rw [Bool.and_eq_true] at h
  refine ⟨fun i j b c hji hb hc => ?_, fun x y hy hx => beq_iff_eq.1 (ra (ra h.2 hx) hy), hv, s, rs_iff.2 hs, h4, hl⟩
  have := beq_iff_eq.1 (ra (ra h.1 (at_lt hb)) hji)
  rw [List.getD_eq_getElem?_getD, hb, List.getD_eq_getElem?_getD, hc] at this
  exact this
theorem plp_q {q : Nat} (h : Q4 q) : PlP (vq q) (bq q) := by
  rcases h with rfl | rfl | rfl | rfl
  · exact plp_of (s := [0, 1, 3, 6]) (by decide +kernel) (by decide) (by decide) rfl (by decide +kernel)
  · exact plp_of (s := [0, 1, 4, 8]) (by decide +kernel) (by decide) (by decide) rfl (by decide +kernel)
  · exact plp_of (s := [0, 1, 5, 10]) (by decide +kernel) (by decide) (by decide) rfl (by decide +kernel)
  · exact plp_of (s := [0, 1, 6, 12]) (by decide +kernel) (by decide) (by decide) rfl (by decide +kernel)
theorem good_q {q : Nat} (h : Q4 q) : GoodD (vq q) (bq q) := by
  have key : ∀ {v : Nat} {B : List (List Nat)}, (∀ b ∈ B, b.Pairwise (· < ·) ∧ ∀ x ∈ b, 0 ≤ x ∧ x < v) → ∀ b ∈ B, Rs v 0 b := fun h b hb => rs_iff.2 (h b hb)
  rcases h with rfl | rfl | rfl | rfl
  · exact ⟨by decide, by decide, by decide, key (by decide +kernel)⟩
  · exact ⟨by decide, by decide, by decide, key (by decide +kernel)⟩
  · exact ⟨by decide, by decide, by decide, key (by decide +kernel)⟩
  · exact ⟨by decide, by decide, by decide, key (by decide +kernel)⟩
theorem dF_q {q : Nat} (h : Q4 q) : dF ((vq q : Nat) : Int) (toZ (bq q)) = 0 := by
  rcases h with rfl | rfl | rfl | rfl <;> decide +kernel
theorem prp_q {q : Nat} (h : Q4 q) : PrP (vq q) (bq q) (q + 1) := by
  obtain ⟨k, hk⟩ := (plp_q h).prp (good_q h).bls
  have e : k = q + 1 := by
    rcases h with rfl | rfl | rfl | rfl
    · exact (hk.size [1, 3, 5] (by decide)).symm
    · exact (hk.size ((bq 3).getD 0 []) (by decide)).symm
    · exact (hk.size ((bq 4).getD 0 []) (by decide)).symm
    · exact (hk.size ((bq 5).getD 0 []) (by decide)).symm
  rw [← e]; exact hk
theorem len_q {q : Nat} (h : Q4 q) : (bq q).length = vq q := by
  rcases h with rfl | rfl | rfl | rfl <;> decide
theorem dual_q {q : Nat} (h : Q4 q) : dual (vq q) (bq q) = bq q := by
  rcases h with rfl | rfl | rfl | rfl <;> decide +kernel
theorem cq_li {q : Nat} (h : Q4 q) : liB (bq q) (cq q) = false ∧ (cq q).length = q + 1 ∧ bF ((vq q : Nat) : Int) ((cq q).map Int.ofNat) = 0 := by
  rcases h with rfl | rfl | rfl | rfl <;> exact ⟨by decide +kernel, by decide, by decide +kernel⟩
end Go.Proofs.YtgpkhfpejopacaaDoor
namespace Go.Proofs.YtgpkhfpejopacaaDoor.Fd
theorem fact1_yes : goodAt 2 1 0 := fun e h1 h2 b hb hz => by omega
theorem fact1_ord : ordZ 2 1 = 2 := by decide +kernel
theorem fact1_least {q d : Int} {l : List Int} {z : Int} (h : LeastIs 2 1 q d l z) : q = 2 ∧ d = 1 ∧ l = digL 0 2 1 ∧ z = 0 :=
  h.one (.inr ⟨2, 1, rfl, rfl, by rw [fact1_ord]; decide, .inl ⟨0, by decide, fact1_yes, fun m h => by omega, rfl, rfl, rfl, rfl⟩⟩)
theorem fact1_good : GoodF 2 1 (digL 0 2 1) := by
  have hin : inL (2 : Int) (digL 0 2 1) := fun j hj => by
    rw [digL_length] at hj
    rw [digL_at _ _ _ _ hj]; exact digF_in 0 2 (by omega) j
  have hirr : irrP (monL (digL 0 2 1)) 1 2 := by rw [monL_dig 0 2 1 (by decide) (by decide)]; exact fact1_yes
  have hF : FaultIs ((2 : Nat) : Int) ((1 : Nat) : Int) (digL 0 2 1) 0 := .inr (.inr (.inr (.inr ⟨by rw [show ((2 : Nat) : Int) = 2 from rfl, show ((1 : Nat) : Int) = 1 from rfl, fact1_ord]; decide, by rw [digL_length], hin, hirr, rfl⟩)))
  obtain ⟨P, K, e1, e2, hG⟩ := good_of hF
  obtain rfl : 2 = P := by omega
  obtain rfl : 1 = K := by omega
  exact hG
end Go.Proofs.YtgpkhfpejopacaaDoor.Fd
namespace Go.Proofs.YtgpkhfpejopacaaDoor
open Go.RowKit

theorem fbx (W : World) (a b c : Value) : ∀ W', Below (W.alloc (.cells #[a, b, c] 24)).heap.size (W.alloc (.cells #[a, b, c] 24)) W' → W'.cell? ⟨W.heap.size, 0, none⟩ = some a ∧ W'.cell? ⟨W.heap.size, 1, none⟩ = some b ∧ W'.cell? ⟨W.heap.size, 2, none⟩ = some c := fBoxM a b c W
set_option maxRecDepth 100000 in
set_option maxHeartbeats 8000000 in
theorem planeFact_any (w : World) (hT : Tab w) (hF : Fd.Tab w) :
    Calls Tryd.prog 24 #[] w fun e w' => e = .returned (.bool true) ∧ Below w.heap.size w w' := by
  have C1 : Calls Tryd.prog 47 #[.int .i64 2, .int .i64 1] w fun e w' => ∃ a n c, e = .returned (.tuple #[.agg #[.int .i64 2, .int .i64 1, .slice a n c], .int .i64 0]) ∧ Hid (Sl w' (.slice a n c) (Fd.digL 0 2 1)) ∧ Below w.heap.size w w' := by
    refine (Fd.least_any 2 1 w hF).mono ?_
    rintro e w' ⟨q, d, v, l, z, rfl, hS, hL, b⟩
    obtain ⟨rfl, rfl, rfl, rfl⟩ := Fd.fact1_least hL
    obtain ⟨a, c, rfl, _⟩ := id hS
    exact ⟨a, _, c, rfl, hS, b⟩
  have H2 : Hid (∀ (W : World) (v : Value), Below w.heap.size w W → Sl W v (Fd.digL 0 2 1) → Calls Tryd.prog 10 #[.agg #[.int .i64 2, .int .i64 1, v]] W fun e w' => ∃ xa xn xc, e = .returned (.tuple #[.agg #[.int .i64 7, .slice xa xn xc], .int .i64 0]) ∧ Hid (Rw w' (.slice xa xn xc) (toZ (bq 2))) ∧ Below W.heap.size W w') := fun W v hW hS => by
    refine (Make_good 2 1 _ v W (hF.below hW) hS (by rw [Fd.digL_length]; decide) Fd.fact1_good (by decide)).mono ?_
    rintro e w' ⟨xa, xn, xc, rfl, hO, b⟩
    exact ⟨xa, xn, xc, rfl, hO.rw, b⟩
  have H3 : Hid (∀ (W : World) (u : Value), Below w.heap.size w W → Rw W u (toZ (bq 2)) → Calls Tryd.prog 17 #[.agg #[.int .i64 7, u]] W fun e w' => e = .returned (.tuple #[.int .i64 2, .int .i64 0]) ∧ Below W.heap.size W w') := fun W u hW hu =>
    PCheck_yes 7 3 (bq 2) u W (hT.next hW) (good_q (.inl rfl)) (dF_q (.inl rfl)) hu (prp_q (.inl rfl))
  have HFB : Hid (∀ (W W' : World) (u : Value), Below (W.alloc (.cells #[.int .i64 2, .int .i64 1, u] 24)).heap.size (W.alloc (.cells #[.int .i64 2, .int .i64 1, u] 24)) W' → W'.cell? ⟨W.heap.size, 0, none⟩ = some (.int .i64 2) ∧ W'.cell? ⟨W.heap.size, 1, none⟩ = some (.int .i64 1) ∧ W'.cell? ⟨W.heap.size, 2, none⟩ = some u) := fun W W' u h => fbx W _ _ _ W' h
  have HDB : Hid (∀ (W W' : World) (u : Value), Below (W.alloc (.cells #[.int .i64 7, u] 29)).heap.size (W.alloc (.cells #[.int .i64 7, u] 29)) W' → W'.cell? ⟨W.heap.size, 0, none⟩ = some (.int .i64 7) ∧ W'.cell? ⟨W.heap.size, 1, none⟩ = some u) := fun W W' u h => des_box 7 _ W W' h
  go_enter Tryd.func24, Tryd.ntmps24
  go_wp2_with (first
    | (go_at_call 47; refine C1.mono ?_; rintro e w1 ⟨a, n, c, rfl, HS1, b1⟩; clear C1; have c1 := balloc w1 (.cells #[.int .i64 2, .int .i64 1, .slice a n c] 24); obtain ⟨x0, x1, x2⟩ := HFB.out w1 (w1.alloc (.cells #[.int .i64 2, .int .i64 1, .slice a n c] 24)) (.slice a n c) (Below.refl _ _); replace b1 := Below.next b1 c1; have C2 := H2.out (w1.alloc (.cells #[.int .i64 2, .int .i64 1, .slice a n c] 24)) _ b1 (HS1.out.below c1))
    | (go_at_call 10; refine C2.mono ?_; rintro e w2 ⟨xa, xn, xc, rfl, HR2, b2⟩; clear C2; have c2 := balloc w2 (.cells #[.int .i64 7, .slice xa xn xc] 29); obtain ⟨d0, d1⟩ := HDB.out w2 (w2.alloc (.cells #[.int .i64 7, .slice xa xn xc] 29)) (.slice xa xn xc) (Below.refl _ _); replace b2 := Below.next (Below.next b1 b2) c2; have C3 := H3.out (w2.alloc (.cells #[.int .i64 7, .slice xa xn xc] 29)) _ b2 (HR2.out.below c2))
    | (go_at_call 17; refine C3.mono ?_; rintro e w3 ⟨rfl, b3⟩; clear C3; obtain ⟨f0, f1⟩ := HDB.out w2 w3 (.slice xa xn xc) b3; replace b3 := Below.next b2 b3))
  go_ret
  exact ⟨rfl, b3⟩

end Go.Proofs.YtgpkhfpejopacaaDoor

namespace Go.Proofs.YtgpkhfpejopacaaDoor
open Go.RowKit

set_option maxRecDepth 100000 in
set_option maxHeartbeats 8000000 in
theorem LFields_bad (p k r : Int) (v : Value) (w : World) (hr : r ≠ 0) (hv : ∃ a n c, v = .slice a n c)
    (h0 : ∀ W, Below w.heap.size w W → Calls Tryd.prog 24 #[] W fun e w' => e = .returned (.bool true) ∧ Below W.heap.size W w')
    (h2 : ∀ W, Below w.heap.size w W → Calls Tryd.prog 10 #[.agg #[.int .i64 p, .int .i64 k, v]] W fun e w' => e = .returned (.tuple #[.agg #[.int .i64 0, .slice none 0 0], .int .i64 r]) ∧ Below W.heap.size W w') :
    Calls Tryd.prog 6 #[.agg #[.int .i64 p, .int .i64 k, v]] w fun e w' => e = .returned (.bool true) ∧ Below w.heap.size w w' := by
  obtain ⟨fa, fn, fc, rfl⟩ := hv
  have b0 := balloc w (.cells #[.int .i64 p, .int .i64 k, .slice fa fn fc] 24)
  have HF : Hid (∀ W, Below (w.alloc (.cells #[.int .i64 p, .int .i64 k, .slice fa fn fc] 24)).heap.size (w.alloc (.cells #[.int .i64 p, .int .i64 k, .slice fa fn fc] 24)) W → W.cell? ⟨w.heap.size, 0, none⟩ = some (.int .i64 p) ∧ W.cell? ⟨w.heap.size, 1, none⟩ = some (.int .i64 k) ∧ W.cell? ⟨w.heap.size, 2, none⟩ = some (.slice fa fn fc)) := fBoxM _ _ _ w
  have C1 := h0 _ b0
  have H2 : Hid (∀ W, Below w.heap.size w W → Calls Tryd.prog 10 #[.agg #[.int .i64 p, .int .i64 k, .slice fa fn fc]] W fun e w' => e = .returned (.tuple #[.agg #[.int .i64 0, .slice none 0 0], .int .i64 r]) ∧ Below W.heap.size W w') := h2
  have hr1 : (r != 0) = true := by simpa using hr
  clear h0 h2
  go_enter Tryd.func6, Tryd.ntmps6
  go_wp2_with (first
    | (go_at_call 24; refine C1.mono ?_; rintro e w1 ⟨rfl, b1⟩; clear C1; obtain ⟨y0, y1, y2⟩ := HF.out _ b1; replace b1 := Below.next b0 b1; have C2 := H2.out _ b1)
    | (go_at_call 10; refine C2.mono ?_; rintro e w2 ⟨rfl, b2⟩; clear C2; have c2 := balloc w2 (.cells #[.int .i64 0, .slice none 0 0] 29); replace b2 := Below.next (Below.next b1 b2) c2))
  go_ret
  exact ⟨rfl, b2⟩
set_option maxRecDepth 100000 in
set_option maxHeartbeats 8000000 in
theorem LFields_good (p k : Int) (q vv : Nat) (BB : List (List Nat)) (v : Value) (w : World) (hv : ∃ a n c, v = .slice a n c) (hq5 : q ≤ 5) (hvv : q * q + q + 1 = vv)
    (h0 : ∀ W, Below w.heap.size w W → Calls Tryd.prog 24 #[] W fun e w' => e = .returned (.bool true) ∧ Below W.heap.size W w')
    (h2 : ∀ W, Below w.heap.size w W → Calls Tryd.prog 10 #[.agg #[.int .i64 p, .int .i64 k, v]] W fun e w' => ∃ xa xn xc, e = .returned (.tuple #[.agg #[.int .i64 (vv : Int), .slice xa xn xc], .int .i64 0]) ∧ Hid (Rw w' (.slice xa xn xc) (toZ BB)) ∧ Below W.heap.size W w')
    (h3 : ∀ (W : World) (u : Value), Below w.heap.size w W → Rw W u (toZ BB) → Calls Tryd.prog 17 #[.agg #[.int .i64 (vv : Int), u]] W fun e w' => e = .returned (.tuple #[.int .i64 (q : Int), .int .i64 0]) ∧ Below W.heap.size W w')
    (h4 : ∀ W : World, Calls Tryd.prog 25 #[.agg #[.int .i64 p, .int .i64 k, v]] W fun e w' => e = .returned (.int .i64 (q : Int)) ∧ Below W.heap.size W w')
    (h5 : ∀ (W : World) (u : Value), Below w.heap.size w W → Rw W u (toZ BB) → Calls Tryd.prog 26 #[.agg #[.int .i64 (vv : Int), u]] W fun e w' => ∃ xa xn xc, e = .returned (.tuple #[.agg #[.int .i64 (vv : Int), .slice xa xn xc], .int .i64 0]) ∧ Hid (Rw w' (.slice xa xn xc) (toZ BB)) ∧ Below W.heap.size W w') :
    Calls Tryd.prog 6 #[.agg #[.int .i64 p, .int .i64 k, v]] w fun e w' => e = .returned (.bool true) ∧ Below w.heap.size w w' := by
  obtain ⟨fa, fn, fc, rfl⟩ := hv
  have b0 := balloc w (.cells #[.int .i64 p, .int .i64 k, .slice fa fn fc] 24)
  have HF : Hid (∀ W, Below (w.alloc (.cells #[.int .i64 p, .int .i64 k, .slice fa fn fc] 24)).heap.size (w.alloc (.cells #[.int .i64 p, .int .i64 k, .slice fa fn fc] 24)) W → W.cell? ⟨w.heap.size, 0, none⟩ = some (.int .i64 p) ∧ W.cell? ⟨w.heap.size, 1, none⟩ = some (.int .i64 k) ∧ W.cell? ⟨w.heap.size, 2, none⟩ = some (.slice fa fn fc)) := fBoxM _ _ _ w
  have C1 := h0 _ b0
  have H2 : Hid (∀ W, Below w.heap.size w W → Calls Tryd.prog 10 #[.agg #[.int .i64 p, .int .i64 k, .slice fa fn fc]] W fun e w' => ∃ xa xn xc, e = .returned (.tuple #[.agg #[.int .i64 (vv : Int), .slice xa xn xc], .int .i64 0]) ∧ Hid (Rw w' (.slice xa xn xc) (toZ BB)) ∧ Below W.heap.size W w') := h2
  have H3 : Hid (∀ (W : World) (u : Value), Below w.heap.size w W → Rw W u (toZ BB) → Calls Tryd.prog 17 #[.agg #[.int .i64 (vv : Int), u]] W fun e w' => e = .returned (.tuple #[.int .i64 (q : Int), .int .i64 0]) ∧ Below W.heap.size W w') := h3
  have H4 : Hid (∀ W : World, Calls Tryd.prog 25 #[.agg #[.int .i64 p, .int .i64 k, .slice fa fn fc]] W fun e w' => e = .returned (.int .i64 (q : Int)) ∧ Below W.heap.size W w') := h4
  have H5 : Hid (∀ (W : World) (u : Value), Below w.heap.size w W → Rw W u (toZ BB) → Calls Tryd.prog 26 #[.agg #[.int .i64 (vv : Int), u]] W fun e w' => ∃ xa xn xc, e = .returned (.tuple #[.agg #[.int .i64 (vv : Int), .slice xa xn xc], .int .i64 0]) ∧ Hid (Rw w' (.slice xa xn xc) (toZ BB)) ∧ Below W.heap.size W w') := h5
  have HDB : Hid (∀ (W W' : World) (u : Value), Below (W.alloc (.cells #[.int .i64 (vv : Int), u] 29)).heap.size (W.alloc (.cells #[.int .i64 (vv : Int), u] 29)) W' → W'.cell? ⟨W.heap.size, 0, none⟩ = some (.int .i64 (vv : Int)) ∧ W'.cell? ⟨W.heap.size, 1, none⟩ = some u) := fun W W' u h => des_box vv _ W W' h
  obtain ⟨q2, Hq2⟩ : ∃ q2, Hid (q * q = q2) := ⟨_, rfl⟩
  have hq2 : q2 ≤ 25 := by rw [← Hq2.out]; exact Nat.mul_le_mul hq5 hq5
  rw [Hq2.out] at hvv
  have hm : (q : Int) * (q : Int) = (q2 : Int) := by rw [← Hq2.out]; simp
  have hv2 : ((q2 : Int) + (q : Int)) + 1 = (vv : Int) := by omega
  have hqq : ((q : Int) != (q : Int)) = false := by simp
  have hqe : ((q : Int) == (q : Int)) = true := by simp
  have hvv' : ((vv : Int) != (vv : Int)) = false := by simp
  have hvvle : vv ≤ 99 := by omega
  have HVV : Hid (q2 + q + 1 = vv) := hvv
  clear h0 h2 h3 h4 h5 hvv
  go_enter Tryd.func6, Tryd.ntmps6
  go_wp2_with (first
    | (go_at_call 24; refine C1.mono ?_; rintro e w1 ⟨rfl, b1⟩; clear C1; obtain ⟨y0, y1, y2⟩ := HF.out _ b1; have b1a := b1; replace b1 := Below.next b0 b1; have C2 := H2.out _ b1)
    | (go_at_call 10; refine C2.mono ?_; rintro e w2 ⟨xa, xn, xc, rfl, HR2, b2⟩; clear C2; have c2 := balloc w2 (.cells #[.int .i64 (vv : Int), .slice xa xn xc] 29); obtain ⟨d0, d1⟩ := HDB.out w2 (w2.alloc (.cells #[.int .i64 (vv : Int), .slice xa xn xc] 29)) (.slice xa xn xc) (Below.refl _ _); have b2a := Below.next (Below.next b1a b2) c2; replace b2 := Below.next (Below.next b1 b2) c2; have C3 := H3.out (w2.alloc (.cells #[.int .i64 (vv : Int), .slice xa xn xc] 29)) _ b2 (HR2.out.below c2))
    | (go_at_call 17; refine C3.mono ?_; rintro e w3 ⟨rfl, b3⟩; clear C3; have b23 := b3; have b3a := Below.next b2a b3; replace b3 := Below.next b2 b3; obtain ⟨s0, s1, s2⟩ := HF.out _ b3a; have C4 := H4.out w3)
    | (go_at_call 25; refine C4.mono ?_; rintro e w4 ⟨rfl, b4⟩; clear C4; have b24 := Below.next b23 b4; obtain ⟨e0, e1⟩ := HDB.out w2 w4 (.slice xa xn xc) b24; replace b4 := Below.next b3 b4; have C5 := H5.out w4 _ b4 (HR2.out.below (Below.next c2 b24)))
    | (go_at_call 26; refine C5.mono ?_; rintro e w5 ⟨za, zn, zc, rfl, HR5, b5⟩; clear C5; have c5 := balloc w5 (.cells #[.int .i64 (vv : Int), .slice za zn zc] 29); obtain ⟨g0, g1⟩ := HDB.out w5 (w5.alloc (.cells #[.int .i64 (vv : Int), .slice za zn zc] 29)) (.slice za zn zc) (Below.refl _ _); replace b5 := Below.next (Below.next b4 b5) c5; have C6 := H3.out (w5.alloc (.cells #[.int .i64 (vv : Int), .slice za zn zc] 29)) _ b5 (HR5.out.below c5))
    | (go_at_call 17; refine C6.mono ?_; rintro e w6 ⟨rfl, b6⟩; clear C6; replace b6 := Below.next b5 b6))
  go_ret
  exact ⟨rfl, b6⟩
theorem PlaneFields_law (p k : Int) (l : List Int) (v : Value) (w : World) (hT : Tab w) (hF : Fd.Tab w) (hl : Sl w v l) (hll : l.length ≤ maxLen) :
    Calls Tryd.prog 6 #[.agg #[.int .i64 p, .int .i64 k, v]] w fun e w' => e = .returned (.bool true) ∧ Below w.heap.size w w' := by
  have hform : ∃ a n c, v = .slice a n c := by obtain ⟨a, c, e, _⟩ := hl; exact ⟨a, _, c, e⟩
  have P0 := fun W (hW : Below w.heap.size w W) => planeFact_any W (hT.next hW) (hF.below hW)
  rcases field_two p k l with ⟨z, hz, hr⟩ | ⟨P, K, rfl, rfl, hG, h5, h0⟩
  · exact LFields_bad p k _ v w hr hform P0 (fun W hW => Make_bad p k z l v W (hF.below hW) (hl.below hW) hll hz hr)
  · obtain ⟨hq, p1, p2, p3⟩ := plane_five hG h5
    refine LFields_good P K (P ^ K) (vq (P ^ K)) (bq (P ^ K)) v w hform h5 rfl P0 (fun W hW => ?_) (fun W u hW hu => ?_) (fun W => ?_) (fun W u hW hu => ?_)
    · refine (Make_good P K l v W (hF.below hW) (hl.below hW) hll hG h5).mono ?_
      rintro e w' ⟨xa, xn, xc, rfl, hO, b⟩
      exact ⟨xa, xn, xc, rfl, hO.rw, b⟩
    · have h := PCheck_yes (vq (P ^ K)) (P ^ K + 1) (bq (P ^ K)) u W (hT.next hW) (good_q hq) (dF_q hq) hu (prp_q hq)
      rw [show (((P ^ K + 1 : Nat) : Int)) - 1 = ((P ^ K : Nat) : Int) by omega] at h
      exact h
    · have h := Fd.size_any P K v W
      rw [hG.ord] at h
      exact h
    · have h := Dual_good (vq (P ^ K)) (bq (P ^ K)) u W (hT.next hW) (good_q hq) hu (by rw [len_q hq]; unfold vq; omega) (bq_small hq).1
      rw [dual_q hq, len_q hq] at h
      refine h.mono ?_
      rintro e w' ⟨y, rfl, hO, b⟩
      obtain ⟨xa, xc, rfl, _⟩ := id hO
      exact ⟨xa, _, xc, rfl, hO, b⟩

end Go.Proofs.YtgpkhfpejopacaaDoor
