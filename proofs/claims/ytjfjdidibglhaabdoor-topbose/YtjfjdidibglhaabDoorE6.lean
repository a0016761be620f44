/- The walk of size. -/
import Derived.Test.YtjfjdidibglhaabDoorDGo
import Derived.Test.YtjfjdidibglhaabDoorE1
import Derived.OwnWalk
/- The walks of setOf and holding. -/
/- The walk of checkBlock. -/
namespace Go.Proofs.YtjfjdidibglhaabDoor
open Go.RowKit

set_option maxHeartbeats 4000000 in
theorem checkBlock_any (p : Int) (b : List Int) (u : Value) (w : World) (hu : Sl w u b) (hbl : b.length ≤ maxLen) :
    Calls Tryd.prog 74 #[.int .i64 p, u] w fun e w' => e = .returned (.int .i64 (bF p b : Int)) ∧ Below w.heap.size w w' := by
  unfold maxLen at hbl
  obtain ⟨ua, uc, rfl, hub⟩ := hu
  have HUB : Hid (∀ j, j < b.length → ∃ g o, ua = some ⟨g, o, none⟩ ∧ ∀ W, Below w.heap.size w W → W.cell? ⟨g, o + j, none⟩ = some (.int .i64 (b.getD j 0))) := fun j hj => by
    obtain ⟨g, o, e, hc⟩ := hub j hj
    exact ⟨g, o, e, fun W bW => (bW.cell (World.block_lt_of_cell? _ _ hc)).trans hc⟩
  obtain ⟨w1, Hw1⟩ : ∃ w1 : World, Hid (w1 = w) := ⟨_, rfl⟩
  rw [← Hw1.out] at HUB
  have HBN : Hid (∀ n, b.length = n → b.length = n) := fun _ h => h
  obtain ⟨z, HZ⟩ : ∃ z, Hid (bF p b = z) := ⟨_, rfl⟩
  rw [HZ.out]
  generalize hbn : b.length = bn at *
  clear hub
  go_enter Tryd.func74, Tryd.ntmps74
  go_wp2
  go_loopw [10] (fun jv wr' => ∃ j : Nat, jv = .int .i64 (j : Int) ∧ j ≤ bn ∧ Hid (∀ m, m < j → 0 ≤ b.getD m 0 ∧ b.getD m 0 < p) ∧ Below w1.heap.size w1 wr') (fun jv _ => (bn - intOf jv).toNat)
  case atStart => exact ⟨0, rfl, by omega, (show ∀ m, m < 0 → _ from fun m h => by omega), by rw [Hw1.out]; exact Below.refl _ _⟩
  case round =>
    obtain ⟨j, rfl, hj, HJ, hB2⟩ := hrel
    by_cases hlj : j < bn
    · have hdj : decide ((j : Int) < (bn : Int)) = true := by simp; omega
      have hji : (j : Int) < (bn : Int) := by omega
      obtain ⟨g, o, rfl, hcj0⟩ := HUB.out j hlj
      have hcj := hcj0 _ hB2
      obtain ⟨x, Hx⟩ : ∃ x, Hid (x = b.getD j 0) := ⟨_, (rfl : b.getD j 0 = b.getD j 0)⟩
      rw [← Hx.out] at hcj
      by_cases hneg : x < 0
      · have hb1 : bF p b = 1 := bF_out (j := j) (by omega) (by rw [← Hx.out]; omega)
        obtain rfl : z = 1 := by rw [← HZ.out, hb1]
        have hdx : decide (x < 0) = true := decide_eq_true hneg
        clear hneg hb1 hcj0
        go_wp2
        go_ret
        exact ⟨rfl, by rw [← Hw1.out]; exact hB2⟩
      · have hdx : decide (x < 0) = false := decide_eq_false hneg
        by_cases hge : p ≤ x
        · have hb1 : bF p b = 1 := bF_out (j := j) (by omega) (by rw [← Hx.out]; omega)
          obtain rfl : z = 1 := by rw [← HZ.out, hb1]
          have hdx2 : decide (p ≤ x) = true := decide_eq_true hge
          clear hneg hge hb1 hcj0
          go_wp2
          go_ret
          exact ⟨rfl, by rw [← Hw1.out]; exact hB2⟩
        · have hdx2 : decide (p ≤ x) = false := decide_eq_false hge
          have HJ2 : Hid (∀ m, m < j + 1 → 0 ≤ b.getD m 0 ∧ b.getD m 0 < p) := fun m hm => by
            by_cases e : m = j
            · subst e; rw [← Hx.out]; omega
            · exact HJ.out m (by omega)
          clear hneg hge HJ hcj0
          go_wp2
          go_roundw
          case rel => exact ⟨j + 1, by go_num, by omega, HJ2, hB2⟩
          case measure => simp [intOf]; omega
    · have hdj : decide ((j : Int) < (bn : Int)) = false := by simp; omega
      obtain rfl : j = bn := by omega
      clear hlj
      go_wp2
      go_loopw [7] (fun jv wr' => ∃ k : Nat, jv = .int .i64 (k : Int) ∧ 1 ≤ k ∧ (k ≤ j ∨ k = 1) ∧ Hid (∀ m, 1 ≤ m → m < k → m < j → b.getD (m - 1) 0 < b.getD m 0) ∧ Below w1.heap.size w1 wr') (fun jv _ => (j + 1 - intOf jv).toNat)
      case atStart => exact ⟨1, rfl, by omega, .inr rfl, (show ∀ m, 1 ≤ m → m < 1 → _ from fun m h h' => by omega), hB2⟩
      case round =>
        clear hB2
        obtain ⟨k, rfl, hk1, hkj, HK, hB3⟩ := hrel
        by_cases hlk : k < j
        · have hdk : decide ((k : Int) < (j : Int)) = true := by simp; omega
          have hki : (k : Int) < (j : Int) := by omega
          obtain ⟨k', Hk'⟩ : ∃ k', Hid (k = k' + 1) := ⟨k - 1, (by omega : k = k - 1 + 1)⟩
          have hsub : (k : Int) - 1 = (k' : Int) := by have := Hk'.out; omega
          have hk'i : (k' : Int) < (j : Int) := by have := Hk'.out; omega
          obtain ⟨g, o, rfl, hc0⟩ := HUB.out k hlk
          obtain ⟨g2, o2, e2, hc1⟩ := HUB.out k' (by have := Hk'.out; omega)
          obtain ⟨rfl, rfl⟩ : g = g2 ∧ o = o2 := by
            simp only [Option.some.injEq, Addr.mk.injEq] at e2
            exact ⟨e2.1, e2.2.1⟩
          have hck := hc0 _ hB3
          have hck' := hc1 _ hB3
          obtain ⟨x, Hx⟩ : ∃ x, Hid (x = b.getD k 0) := ⟨_, (rfl : b.getD k 0 = b.getD k 0)⟩
          obtain ⟨y, Hy⟩ : ∃ y, Hid (y = b.getD k' 0) := ⟨_, (rfl : b.getD k' 0 = b.getD k' 0)⟩
          rw [← Hx.out] at hck
          rw [← Hy.out] at hck'
          clear e2 hc0 hc1
          by_cases hle : x ≤ y
          · have hb1 : bF p b = 2 := bF_fall (j := k) (by rw [hbn]; exact HJ.out) hk1 (by omega) (by rw [← Hx.out, show k - 1 = k' by have := Hk'.out; omega, ← Hy.out]; exact hle)
            obtain rfl : z = 2 := by rw [← HZ.out, hb1]
            have hdx : decide (x ≤ y) = true := decide_eq_true hle
            clear hle hb1
            go_wp2
            go_quiet (fail)
            go_wp2
            go_ret
            exact ⟨rfl, by rw [← Hw1.out]; exact bdrewN hB3 _⟩
          · have hdx : decide (x ≤ y) = false := decide_eq_false hle
            have HK2 : Hid (∀ m, 1 ≤ m → m < k + 1 → m < j → b.getD (m - 1) 0 < b.getD m 0) := fun m h1 h2 h3 => by
              by_cases e : m = k
              · subst e; rw [show m - 1 = k' by have := Hk'.out; omega, ← Hx.out, ← Hy.out]; omega
              · exact HK.out m h1 (by omega) h3
            clear hle HK
            go_wp2
            go_quiet (fail)
            go_wp2
            go_roundw
            case rel => exact ⟨k + 1, by go_num, by omega, .inl (by omega), HK2, bdrewN hB3 _⟩
            case measure => simp [intOf]; omega
        · have hdk : decide ((k : Int) < (j : Int)) = false := by simp; omega
          have hb0 : bF p b = 0 := bF_ok (by rw [hbn]; exact HJ.out) (fun m h1 h2 => HK.out m h1 (by omega) (by omega))
          obtain rfl : z = 0 := by rw [← HZ.out, hb0]
          clear hb0
          go_wp2
          go_ret
          exact ⟨rfl, by rw [← Hw1.out]; exact hB3⟩

end Go.Proofs.YtjfjdidibglhaabDoor

namespace Go.Proofs.YtjfjdidibglhaabDoor
open Go.RowKit

theorem sb_take {b : List Nat} {j : Nat} (hj : j < b.length) : sb (b.take (j + 1)) = sb (b.take j) ||| 2 ^ b.getD j 0 := by
  rw [← sb_snoc, List.take_succ_eq_append_getElem hj, List.getD_eq_getElem?_getD, List.getElem?_eq_getElem hj]
  rfl
theorem take_lt {b : List Nat} {n : Nat} (h : ∀ x ∈ b, x < n) (j : Nat) : ∀ x ∈ b.take j, x < n := fun x hx => h x (List.mem_of_mem_take hx)
theorem getD_in {b : List Nat} {j : Nat} (hj : j < b.length) : b.getD j 0 ∈ b := by
  rw [List.getD_eq_getElem?_getD, List.getElem?_eq_getElem hj]; exact List.getElem_mem hj

set_option maxHeartbeats 4000000 in
theorem setOf_any (b : List Nat) (u : Value) (w : World) (hu : Sl w u (b.map Int.ofNat)) (hb : b.length ≤ 99) (hl : ∀ x ∈ b, x < 64) :
    Calls Tryd.prog 75 #[u] w fun e w' => e = .returned (.int .u64 (sb b : Int)) ∧ w' = w := by
  obtain ⟨a, cap, rfl, hc⟩ := hu
  have HC : Hid (∀ j, j < b.length → ∃ g off, a = some ⟨g, off, none⟩ ∧ w.cell? ⟨g, off + j, none⟩ = some (.int .i64 ((b.getD j 0 : Nat) : Int))) := fun j hj => by
    obtain ⟨g, off, e, h⟩ := hc j (by simpa using hj)
    exact ⟨g, off, e, by rw [h, ofNat_at b hj]⟩
  have HL : Hid (∀ x ∈ b, x < 64) := hl
  have HS : Hid (∀ j, j < b.length → sb (b.take (j + 1)) = sb (b.take j) ||| 2 ^ b.getD j 0) := fun j hj => sb_take hj
  rw [List.length_map]
  generalize hn : b.length = n at *
  clear hc hl
  go_enter Tryd.func75, Tryd.ntmps75
  go_wp2
  go_loopw [3, 8] (fun s iv wr => ∃ (j : Nat), iv = .int .i64 (j : Int) ∧ s = .int .u64 ((sb (b.take j) : Nat) : Int) ∧ j ≤ n ∧ wr = w) (fun _ iv _ => (n - intOf iv).toNat)
  case atStart => exact ⟨0, rfl, rfl, by omega, rfl⟩
  case round =>
    obtain ⟨j, rfl, rfl, hj, rfl⟩ := hrel
    by_cases hlt : j < n
    · have hd : decide ((j : Int) < (n : Int)) = true := by simp; omega
      have hji : (j : Int) < (n : Int) := by omega
      obtain ⟨g, off, rfl, hcj⟩ := HC.out j hlt
      have hx := HL.out _ (getD_in (b := b) (j := j) (by omega))
      have hor : bits .or .u64 ((sb (b.take j) : Nat) : Int) ((2 ^ b.getD j 0 : Nat) : Int) = ((sb (b.take (j + 1)) : Nat) : Int) := by
        rw [HS.out j hlt]
        exact orN (sb_lt (take_lt HL.out j)) (pow_lt64 hx)
      obtain ⟨x, Hx⟩ : ∃ x, Hid (x = b.getD j 0) := ⟨_, rfl⟩
      obtain ⟨S, HSj⟩ : ∃ S, Hid (S = sb (b.take j)) := ⟨_, rfl⟩
      obtain ⟨T, HT⟩ : ∃ T, Hid (T = sb (b.take (j + 1))) := ⟨_, rfl⟩
      rw [← Hx.out] at hcj hx hor
      rw [← HSj.out, ← HT.out] at hor
      rw [← HSj.out]
      have O := only_any x hx wr
      obtain ⟨P2, HP⟩ : ∃ P2, Hid (P2 = 2 ^ x) := ⟨_, (rfl : 2 ^ x = 2 ^ x)⟩
      rw [← HP.out] at hor O
      go_wp2_with (go_at_call 109; refine O.mono ?_; rintro e w' ⟨rfl, rfl⟩)
      go_roundw
      case rel => exact ⟨j + 1, by go_num, by rw [HT.out], by omega, by trivial⟩
      case measure => simp [intOf]; omega
    · have hd : decide ((j : Int) < (n : Int)) = false := by simp; omega
      obtain rfl : j = n := by omega
      rw [List.take_of_length_le (by omega)]
      clear HS
      go_wp2
      go_ret
      exact ⟨rfl, rfl⟩

end Go.Proofs.YtjfjdidibglhaabDoor

/- The walk of open. -/
namespace Go.Proofs.YtjfjdidibglhaabDoor
open Go.RowKit

theorem undS : Tryd.prog.underlying 70 = some (.slice 111) := by kernel_rfl
theorem infoS : ∃ i, Tryd.prog.info? 111 = some i ∧ i.zero = some (.int .u64 0) ∧ i.size = 1 ∧ i.bytes = 8 := by
  have h1 : (Tryd.prog.info? 111).map (·.zero) = some (some (.int .u64 0)) := by kernel_rfl
  have h2 : (Tryd.prog.info? 111).map (·.size) = some 1 := by kernel_rfl
  have h3 : (Tryd.prog.info? 111).map (·.bytes) = some 8 := by kernel_rfl
  cases h : Tryd.prog.info? 111 with
  | none => rw [h] at h1; cases h1
  | some i =>
    rw [h] at h1 h2 h3
    exact ⟨i, rfl, Option.some.inj h1, Option.some.inj h2, Option.some.inj h3⟩
theorem own_keepE {w w' : World} {base n : Nat} {e : TypeId} {v : Value} {xs : List Value} (h : w.ownsRow base e 1 v n xs) (k : ∀ b, base ≤ b → b < w.heap.size → w'.heap[b]? = w.heap[b]?) : w'.ownsRow base e 1 v n xs := by
  obtain ⟨h3, h4 | ⟨g, cap, cur, h5, h6, h7, h8⟩⟩ := h
  · exact ⟨h3, .inl h4⟩
  · exact ⟨h3, .inr ⟨g, cap, cur, h5, h6, (k g h6 (Array.getElem?_eq_some_iff.1 h7).1).trans h7, h8⟩⟩
theorem own_formE {w : World} {base n : Nat} {e : TypeId} {v : Value} {xs : List Value} (h : w.ownsRow base e 1 v n xs) : ∃ a c, v = .slice a n c := by
  obtain ⟨_, ⟨rfl, rfl⟩ | ⟨g, cap, cur, rfl, _⟩⟩ := h
  · exact ⟨_, _, rfl⟩
  · exact ⟨_, _, rfl⟩
theorem good_dF {v : Nat} {B : List (List Nat)} (G : GoodD v B) : dF (v : Int) (toZ B) = 0 := by
  have h1 := G.pos
  have h2 := G.le
  unfold dF
  rw [if_neg (by omega), if_neg (by have := G.few; simp [toZ]; omega)]
  refine blF_none fun m c hc => ?_
  obtain ⟨b, hb, rfl⟩ := List.mem_map.1 (List.mem_of_getElem? hc)
  have hr := rs_iff.1 (G.rs b hb)
  have key : ∀ j, j < b.length → (b.map Int.ofNat).getD j 0 = ((b.getD j 0 : Nat) : Int) := fun j hj => ofNat_at b hj
  refine bF_ok (fun j hj => ?_) (fun j hj1 hj => ?_)
  · rw [List.length_map] at hj
    rw [key j hj]
    have := (hr.2 _ (getD_in hj)).2
    omega
  · rw [List.length_map] at hj
    rw [key j hj, key (j - 1) (by omega)]
    have := List.pairwise_iff_getElem.1 hr.1 (j - 1) j (by omega) hj (by omega)
    rw [List.getD_eq_getElem?_getD, List.getD_eq_getElem?_getD, List.getElem?_eq_getElem hj, List.getElem?_eq_getElem (show j - 1 < b.length by omega)]
    simp only [Option.getD_some]
    omega
/-- The set of a list of numbers, as a value. -/
def sbV (b : List Int) : Value := .int .u64 ((sb (b.map Int.toNat) : Nat) : Int)
/-- A row of sets of one's own. -/
def SRow (w : World) (base : Nat) (v : Value) (S : List Nat) : Prop := w.ownsRow base 111 1 v S.length (S.map fun s => Value.int .u64 ((s : Nat) : Int))
theorem sbV_toZ (B : List (List Nat)) : (toZ B).map sbV = (B.map sb).map fun s => Value.int .u64 ((s : Nat) : Int) := by
  unfold toZ
  rw [List.map_map, List.map_map]
  refine List.map_congr_left fun b _ => ?_
  show sbV (b.map Int.ofNat) = _
  unfold sbV
  rw [List.map_map]
  have : Int.toNat ∘ Int.ofNat = id := by funext x; rfl
  rw [this, List.map_id]
  rfl

set_option maxHeartbeats 4000000 in
theorem open_far (p : Int) (v : Value) (w : World) (h : p < 1 ∨ 40 < p) :
    Calls Tryd.prog 36 #[.agg #[.int .i64 p, v]] w fun e w' => e = .returned (.tuple #[.slice none 0 0, .int .i64 1]) ∧ Below w.heap.size w w' := by
  obtain ⟨x0, x1⟩ := des_box p v w _ (Below.refl _ _)
  have hb := balloc w (.cells #[.int .i64 p, v] 44)
  by_cases h1 : p < 1
  · have hd : decide (p < 1) = true := decide_eq_true h1
    go_enter Tryd.func36, Tryd.ntmps36
    go_wp2
    exact bodyPost_ret (v := .tuple #[.slice none 0 0, .int .i64 1]) (by simp [results, Tryd.results36, go_sem]) rfl ⟨rfl, hb⟩
  · have hd : decide (p < 1) = false := decide_eq_false h1
    have hd2 : decide (40 < p) = true := decide_eq_true (by omega)
    go_enter Tryd.func36, Tryd.ntmps36
    go_wp2
    exact bodyPost_ret (v := .tuple #[.slice none 0 0, .int .i64 1]) (by simp [results, Tryd.results36, go_sem]) rfl ⟨rfl, hb⟩

set_option maxRecDepth 100000 in
set_option maxHeartbeats 8000000 in
theorem open_main (p : Int) (ls : List (List Int)) (v : Value) (w : World) (h1 : 1 ≤ p) (h40 : p ≤ 40) (hv : Rw w v ls) (_hl : ls.length ≤ maxLen) (hll : ∀ l ∈ ls, l.length ≤ maxLen) :
    Calls Tryd.prog 36 #[.agg #[.int .i64 p, v]] w fun e w' => (∃ x, e = .returned (.tuple #[x, .int .i64 (dF p ls : Int)]) ∧ (dF p ls ≠ 0 → x = .slice none 0 0) ∧ (dF p ls = 0 → w'.ownsRow (w.heap.size + 1) 111 1 x ls.length (ls.map sbV))) ∧ Below w.heap.size w w' := by
  have hd : decide (p < 1) = false := decide_eq_false (by omega)
  have hd2 : decide (40 < p) = false := decide_eq_false (by omega)
  have HC : Hid (∀ W, Below (w.alloc (.cells #[.int .i64 p, v] 44)).heap.size (w.alloc (.cells #[.int .i64 p, v] 44)) W → W.cell? ⟨w.heap.size, 0, none⟩ = some (.int .i64 p) ∧ W.cell? ⟨w.heap.size, 1, none⟩ = some v) := des_box p v w
  obtain ⟨w0, Hw0⟩ : ∃ w0, Hid (w0 = w.alloc (.cells #[.int .i64 p, v] 44)) := ⟨_, rfl⟩
  rw [← Hw0.out] at HC
  have HB0 : Hid (Below w.heap.size w w0) := by rw [Hw0.out]; exact balloc _ _
  have HW0 : Hid (w0.heap.size = w.heap.size + 1) := by show _ = _; rw [Hw0.out]; simp
  have HV : Hid (Rw w v ls) := hv
  have HLL : Hid (∀ l ∈ ls, l.length ≤ maxLen) := hll
  obtain ⟨a, cap, rfl, _⟩ := hv
  obtain ⟨x0, x1⟩ := HC.out _ (Below.refl _ _)
  rw [Hw0.out] at x0 x1
  by_cases hbig : 200 < ls.length
  · have hz : dF p ls = 3 := by unfold dF; rw [if_neg (by omega), if_pos hbig]
    rw [hz]
    have hdb : decide ((200 : Int) < (ls.length : Int)) = true := by simp; omega
    have hdn : decide (200 < ls.length) = true := decide_eq_true hbig
    unfold maxLen at _hl
    generalize hn : ls.length = n at *
    clear hll hz
    go_enter Tryd.func36, Tryd.ntmps36
    go_wp2
    exact bodyPost_ret (v := .tuple #[.slice none 0 0, .int .i64 3]) (by simp [results, Tryd.results36, go_sem]) rfl ⟨⟨_, rfl, fun _ => rfl, fun h => by cases h⟩, balloc w _⟩
  · have hz : dF p ls = blF p ls := by unfold dF; rw [if_neg (by omega), if_neg hbig]
    rw [hz]
    have HZ1 : Hid (∀ i b, ls[i]? = some b → (∀ m c, m < i → ls[m]? = some c → bF p c = 0) → bF p b ≠ 0 → blF p ls = bF p b) := fun i b => blF_at
    have HZ0 : Hid ((∀ (m : Nat) (c : List Int), ls[m]? = some c → bF p c = 0) → blF p ls = 0) := blF_none
    have HAT : Hid (∀ i, i < ls.length → ∃ b, ls[i]? = some b) := fun i hi => ⟨_, List.getElem?_eq_getElem hi⟩
    have HLE : Hid (∀ i b, ls[i]? = some b → i < ls.length) := fun i b h => (List.getElem?_eq_some_iff.1 h).1
    have HTK : Hid (∀ i b, ls[i]? = some b → (ls.take (i + 1)).map sbV = (ls.take i).map sbV ++ [sbV b]) := fun i b h => by
      rw [List.take_add_one, h]; simp
    have HALL : Hid ((ls.take ls.length).map sbV = ls.map sbV) := by show _ = _; rw [List.take_of_length_le (Nat.le_refl _)]
    have hdb : decide ((200 : Int) < (ls.length : Int)) = false := by simp; omega
    have hn2 : ls.length ≤ 200 := by omega
    generalize hzz : blF p ls = z at *
    generalize hn : ls.length = n at *
    clear hll hz hbig _hl hzz
    obtain ⟨i3, hi3, hz0, hz1, hz2⟩ := infoS
    have HP : Hid (1 ≤ p ∧ p ≤ 40) := ⟨h1, h40⟩
    go_enter Tryd.func36, Tryd.ntmps36
    go_wp2
    go_loopw [4, 23] (fun ov iv wr => ∃ i : Nat, iv = .int .i64 (i : Int) ∧ i ≤ n ∧ Hid (∀ m c, m < i → ls[m]? = some c → bF p c = 0) ∧ Below w0.heap.size w0 wr ∧ wr.ownsRow w0.heap.size 111 1 ov i ((ls.take i).map sbV)) (fun _ iv _ => (n - intOf iv).toNat)
    case atStart => exact ⟨0, rfl, by omega, (show ∀ m c, m < 0 → _ from fun m c h => by omega), by rw [Hw0.out]; exact Below.refl _ _, by rw [List.take_zero]; exact World.ownsRow_nil _ _ _ _⟩
    case round =>
      clear x0 x1
      obtain ⟨i, rfl, hi, HI, hB, hown⟩ := hrel
      obtain ⟨x0, x1⟩ := HC.out _ hB
      have hbz := hB.size
      by_cases hlt : i < n
      · have hdi : decide ((i : Int) < (n : Int)) = true := by simp; omega
        have hii : (i : Int) < (n : Int) := by omega
        obtain ⟨b, hbi⟩ := HAT.out i hlt
        have HBI : Hid (ls[i]? = some b) := hbi
        have hbl := HLL.out b (List.mem_of_getElem? hbi)
        obtain ⟨a', cap', e, hrows⟩ := HV.out.below (Below.next HB0.out hB)
        obtain ⟨bb, off, u, e2, hcell, hSu⟩ := hrows i b hbi
        obtain ⟨rfl, rfl⟩ : a = a' ∧ cap = cap' := by
          simp only [Value.slice.injEq] at e
          exact ⟨e.1, e.2.2⟩
        subst e2
        have C1 := checkBlock_any p b u wr hSu hbl
        obtain ⟨ua, uc, ue, _⟩ := id hSu
        have HSU : Hid (∀ W, Below wr.heap.size wr W → Sl W u b) := fun W bW => hSu.below bW
        obtain ⟨f, Hf⟩ : ∃ f, Hid (bF p b = f) := ⟨_, rfl⟩
        rw [Hf.out] at C1
        have HC2 : Hid (f = 0 → ∀ W, Below wr.heap.size wr W → ∃ s : Nat, sbV b = .int .u64 (s : Int) ∧ Calls Tryd.prog 75 #[u] W fun e w' => e = .returned (.int .u64 (s : Int)) ∧ w' = W) := fun h0 W bW => by
          obtain ⟨g1, g2⟩ := bF_zero (Hf.out.trans h0)
          obtain ⟨pv, rfl⟩ : ∃ pv : Nat, p = (pv : Int) := ⟨p.toNat, by have := HP.out; omega⟩
          obtain ⟨r1, r2⟩ := toNat_rs (lo := 0) (v := pv) (fun j hj => by have := g1 j hj; omega) g2
          have r3 := rs_iff.1 r1
          refine ⟨_, rfl, setOf_any (b.map Int.toNat) u W (by rw [r2]; exact HSU.out W bW) ?_ fun x hx => ?_⟩
          · have := (rise_pts r3.1 (fun x hx => (r3.2 x hx).2)).le
            have := HP.out
            omega
          · have := r3.2 x hx
            have := HP.out
            omega
        clear hSu hrows e hbi HSU
        by_cases hf : f = 0
        · have hfd : ((f : Int) != 0) = false := by simp [hf]
          have HI2 : Hid (∀ m c, m < i + 1 → ls[m]? = some c → bF p c = 0) := fun m c hm hc => by
            by_cases e : m = i
            · subst e
              rw [HBI.out] at hc
              obtain rfl := Option.some.inj hc
              rw [Hf.out]; exact hf
            · exact HI.out m c (by omega) hc
          have HTi := HTK.out i b HBI.out
          have HTI : Hid ((ls.take (i + 1)).map sbV = (ls.take i).map sbV ++ [sbV b]) := HTi
          clear HTi HI
          subst ue
          go_wp2_with (go_at_call 74; refine C1.mono ?_; rintro e w3 ⟨rfl, hb3⟩; clear C1)
          obtain ⟨s, hs, C2⟩ := HC2.out hf w3 hb3
          have hb3s := hb3.size
          have hown3 := own_keepE hown fun b _ hb => hb3.block b hb
          refine C2.mono ?_
          rintro e w4 ⟨rfl, hw⟩
          replace hw := hw.symm
          subst hw
          clear C2 x0 x1 hcell hown
          have hb03 : Below w0.heap.size w0 w3 := hB.trans (hb3.mono hbz)
          have hbz3 := hb03.size
          go_wp2_with (first
            | (at_builtin; refine wpList_append_own _ rfl _ _ 70 rfl w0.heap.size 111 i3 (.int .u64 0) 1 8 undS hi3 hz0 hz1 hz2 rfl (by decide) _ _ _ rfl (hown3.alloc _) ⟨w3.heap.size, 0, none⟩ 1 1 [.int .u64 (s : Int)] rfl rfl ?c1 ?c2 ?c3 ?c4 ?c5 ?_)
            | go_in)
          case c1 =>
            intro j u hj
            match j, hj with
            | 0, hj => simp at hj; subst hj; simp [Addr.add]
          case c2 => intro u hu; simp at hu; subst hu; rfl
          case c3 => unfold maxLen; omega
          case c4 => omega
          case c5 => simp; omega
          · intro v' w2 hown' hgrow _
            have hb2 : Below w0.heap.size w0 w2 := (hb03.alloc hbz3 _).grown hgrow (by simp; omega) (fun k hk => (hown3.lt k hk).1)
            go_wp2
            go_roundw
            case rel => exact ⟨i + 1, by go_num, by omega, HI2, hb2, by rw [HTI.out, hs, List.map_take]; exact hown'⟩
            case measure => simp [intOf]; omega
        · have hfd : ((f : Int) != 0) = true := by simp; omega
          have hzf := HZ1.out i b HBI.out HI.out (by rw [Hf.out]; exact hf)
          rw [Hf.out] at hzf
          subst hzf
          clear HI HC2
          subst ue
          go_wp2_with (go_at_call 74; refine C1.mono ?_; rintro e w3 ⟨rfl, hb3⟩; clear C1)
          refine bodyPost_ret (v := .tuple #[.slice none 0 0, .int .i64 (z : Int)]) (by simp [results, Tryd.results36, go_sem]) rfl ⟨⟨_, rfl, fun _ => rfl, fun h => (hf h).elim⟩, HB0.out.trans ?_⟩
          exact ((hB.trans (hb3.mono hbz)).mono HB0.out.size)
      · have hdi : decide ((i : Int) < (n : Int)) = false := by simp; omega
        obtain rfl : i = n := by omega
        have hzf := HZ0.out fun m c h => HI.out m c (HLE.out m c h) h
        subst hzf
        obtain ⟨ra, rc, er⟩ : ∃ a c, _ = Value.slice a i c := own_formE hown
        subst er
        rw [HALL.out, HW0.out] at hown
        clear HI hlt
        go_wp2
        exact bodyPost_ret (v := .tuple #[.slice ra i rc, .int .i64 0]) (by simp [results, Tryd.results36, go_sem]) rfl ⟨⟨_, rfl, hown⟩, HB0.out.trans (hB.mono HB0.out.size)⟩

theorem open_any (p : Int) (ls : List (List Int)) (v : Value) (w : World) (hv : Rw w v ls) (hl : ls.length ≤ maxLen) (hll : ∀ l ∈ ls, l.length ≤ maxLen) :
    Calls Tryd.prog 36 #[.agg #[.int .i64 p, v]] w fun e w' => (∃ x, e = .returned (.tuple #[x, .int .i64 (dF p ls : Int)]) ∧ (dF p ls ≠ 0 → x = .slice none 0 0) ∧ (dF p ls = 0 → w'.ownsRow (w.heap.size + 1) 111 1 x ls.length (ls.map sbV))) ∧ Below w.heap.size w w' := by
  by_cases h : p < 1 ∨ 40 < p
  · have hz : dF p ls = 1 := by unfold dF; rw [if_pos h]
    rw [hz]
    refine (open_far p v w h).mono ?_
    rintro e w' ⟨rfl, hb⟩
    exact ⟨⟨_, rfl, fun _ => rfl, fun h => by cases h⟩, hb⟩
  · exact open_main p ls v w (by omega) (by omega) hv hl hll
/-- A design that passes, opened. -/
theorem open_good (v : Nat) (B : List (List Nat)) (u : Value) (w : World) (G : GoodD v B) (hu : Rw w u (toZ B)) :
    Calls Tryd.prog 36 #[.agg #[.int .i64 (v : Int), u]] w fun e w' => (∃ x, e = .returned (.tuple #[x, .int .i64 0]) ∧ SRow w' (w.heap.size + 1) x (B.map sb)) ∧ Below w.heap.size w w' := by
  have hz : dF (v : Int) (toZ B) = 0 := good_dF G
  have hlen : (toZ B).length = B.length := by simp [toZ]
  refine (open_any (v : Int) (toZ B) u w hu ?_ ?_).mono ?_
  · rw [hlen]; have := G.few; unfold maxLen; omega
  · intro l hl
    obtain ⟨b, hb, rfl⟩ := List.mem_map.1 hl
    rw [List.length_map]
    have := G.len hb
    unfold maxLen; omega
  · rintro e w' ⟨⟨x, rfl, _, h2⟩, hb⟩
    rw [hz]
    refine ⟨⟨x, rfl, ?_⟩, hb⟩
    have := h2 hz
    unfold SRow
    rw [← sbV_toZ, List.length_map, ← hlen]
    exact this

end Go.Proofs.YtjfjdidibglhaabDoor

/- The walks of Check, size, holding. -/
namespace Go.Proofs.YtjfjdidibglhaabDoor
open Go.RowKit

theorem Check_any (p : Int) (ls : List (List Int)) (v : Value) (w : World) (hv : Rw w v ls) (hl : ls.length ≤ maxLen) (hll : ∀ l ∈ ls, l.length ≤ maxLen) :
    Calls Tryd.prog 66 #[.agg #[.int .i64 p, v]] w fun e w' => e = .returned (.int .i64 (dF p ls : Int)) ∧ Below w.heap.size w w' := by
  obtain ⟨x0, x1⟩ := des_box p v w _ (Below.refl _ _)
  have b0 := balloc w (.cells #[.int .i64 p, v] 44)
  have C1 := open_any p ls v _ (hv.below b0) hl hll
  generalize dF p ls = z at *
  clear hv hl hll
  go_enter Tryd.func66, Tryd.ntmps66
  go_wp2_with (go_at_call 36; refine C1.mono ?_; rintro e w3 ⟨⟨x, rfl, _, _⟩, hb3⟩; clear C1)
  go_ret
  exact ⟨rfl, Below.next b0 hb3⟩

/-- A row of sets that is read. -/
def SS (w : World) (v : Value) (S : List Nat) : Prop := ∃ a cap, v = .slice a S.length cap ∧ ∀ j, j < S.length → ∃ g off, a = some ⟨g, off, none⟩ ∧ w.cell? ⟨g, off + j, none⟩ = some (.int .u64 ((S.getD j 0 : Nat) : Int))
theorem SS.below {w w' : World} {v : Value} {S : List Nat} (h : SS w v S) (hb : Below w.heap.size w w') : SS w' v S := by
  obtain ⟨a, cap, rfl, h⟩ := h
  refine ⟨a, cap, rfl, fun j hj => ?_⟩
  obtain ⟨b, off, e, hc⟩ := h j hj
  exact ⟨b, off, e, (hb.cell (p := ⟨b, off + j, none⟩) (block_lt_of_cell hc)).trans hc⟩
theorem SRow.ss {w : World} {base : Nat} {v : Value} {S : List Nat} (h : SRow w base v S) : SS w v S := by
  obtain ⟨_, ⟨rfl, hn⟩ | ⟨g, cap, cur, rfl, _, hg, _, _, _, ht⟩⟩ := h
  · have : S = [] := List.length_eq_zero_iff.1 hn
    subst this
    exact ⟨none, 0, rfl, fun j hj => by simp at hj⟩
  · refine ⟨_, cap, rfl, fun j hj => ⟨g, 0, rfl, ?_⟩⟩
    rw [cell_of_row w g _ cur 111 (0, 0) hg]
    have h2 : (cur.toList.take (S.length * 1))[j]? = (S.map fun s => Value.int .u64 ((s : Nat) : Int))[j]? := by rw [ht]
    rw [List.getElem?_take, if_pos (by omega)] at h2
    rw [Nat.zero_add, ← Array.getElem?_toList, h2]
    simp [hj]

set_option maxHeartbeats 4000000 in
theorem holding_any (S : List Nat) (s : Nat) (u : Value) (w : World) (hu : SS w u S) (hl : S.length ≤ 200) (hs : s < 2 ^ 64) (hS : ∀ x ∈ S, x < 2 ^ 64) :
    Calls Tryd.prog 77 #[u, .int .u64 (s : Int)] w fun e w' => e = .returned (.int .i64 ((S.countP fun b => decide (an s b = 0) : Nat) : Int)) ∧ w' = w := by
  obtain ⟨a, cap, rfl, hc⟩ := hu
  have HC : Hid (∀ j, j < S.length → ∃ g off, a = some ⟨g, off, none⟩ ∧ w.cell? ⟨g, off + j, none⟩ = some (.int .u64 ((S.getD j 0 : Nat) : Int))) := hc
  have HT : Hid (∀ j, j < S.length → (S.take (j + 1)).countP (fun b => decide (an s b = 0)) = (S.take j).countP (fun b => decide (an s b = 0)) + if decide (an s (S.getD j 0) = 0) = true then 1 else 0) := fun j hj => by
    rw [List.take_succ_eq_append_getElem hj, List.countP_append, List.getD_eq_getElem?_getD, List.getElem?_eq_getElem hj, List.countP_singleton]
    rfl
  have HA : Hid ((S.take S.length).countP (fun b => decide (an s b = 0)) = S.countP fun b => decide (an s b = 0)) := by show _ = _; rw [List.take_of_length_le (Nat.le_refl _)]
  have HW : Hid (∀ j, j < S.length → ∀ W, Calls Tryd.prog 110 #[.int .u64 (s : Int), .int .u64 ((S.getD j 0 : Nat) : Int)] W fun e w' => e = .returned (.bool (decide (an s (S.getD j 0) = 0))) ∧ w' = W) := fun j hj W => within_any s _ _ hs (hS _ (getD_in hj)) rfl W
  have HN : Hid (∀ j, j ≤ S.length → (S.take j).countP (fun b => decide (an s b = 0)) ≤ 200) := fun j hj => by
    refine Nat.le_trans List.countP_le_length ?_
    rw [List.length_take]; omega
  generalize hn : S.length = n at *
  clear hc hS hs
  go_enter Tryd.func77, Tryd.ntmps77
  go_wp2
  go_loopw [5, 10] (fun cv iv wr => ∃ (j : Nat), iv = .int .i64 (j : Int) ∧ cv = .int .i64 (((S.take j).countP (fun b => decide (an s b = 0)) : Nat) : Int) ∧ j ≤ n ∧ wr = w) (fun _ iv _ => (n - intOf iv).toNat)
  case atStart => exact ⟨0, rfl, rfl, by omega, rfl⟩
  case round =>
    obtain ⟨j, rfl, rfl, hj, rfl⟩ := hrel
    by_cases hlt : j < n
    · have hd : decide ((j : Int) < (n : Int)) = true := by simp; omega
      have hji : (j : Int) < (n : Int) := by omega
      obtain ⟨g, off, rfl, hcj⟩ := HC.out j hlt
      have C1 := HW.out j hlt wr
      have hT := HT.out j hlt
      have hN := HN.out j hj
      obtain ⟨y, Hy⟩ : ∃ y, Hid (S.getD j 0 = y) := ⟨_, rfl⟩
      rw [Hy.out] at hcj C1 hT
      obtain ⟨q, Hq⟩ : ∃ q, Hid (decide (an s y = 0) = q) := ⟨_, rfl⟩
      rw [Hq.out] at C1 hT
      obtain ⟨c0, Hc0⟩ : ∃ c, Hid ((S.take j).countP (fun b => decide (an s b = 0)) = c) := ⟨_, rfl⟩
      obtain ⟨c1, Hc1⟩ : ∃ c, Hid ((S.take (j + 1)).countP (fun b => decide (an s b = 0)) = c) := ⟨_, rfl⟩
      rw [Hc0.out] at hT hN ⊢
      rw [Hc1.out] at hT
      cases q with
      | true =>
        rw [if_pos rfl] at hT
        go_wp2_with (go_at_call 110; refine C1.mono ?_; rintro e w' ⟨rfl, hw⟩; replace hw := hw.symm; subst hw)
        go_roundw
        case rel => exact ⟨j + 1, by go_num, by rw [Hc1.out, hT]; go_num, by omega, by trivial⟩
        case measure => simp [intOf]; omega
      | false =>
        rw [if_neg (by decide)] at hT
        go_wp2_with (go_at_call 110; refine C1.mono ?_; rintro e w' ⟨rfl, hw⟩; replace hw := hw.symm; subst hw)
        go_roundw
        case rel => exact ⟨j + 1, by go_num, by rw [Hc1.out, hT]; rfl, by omega, by trivial⟩
        case measure => simp [intOf]; omega
    · have hd : decide ((j : Int) < (n : Int)) = false := by simp; omega
      obtain rfl : j = n := by omega
      rw [HA.out]
      clear HT HW HN
      go_wp2
      go_ret
      exact ⟨rfl, rfl⟩

end Go.Proofs.YtjfjdidibglhaabDoor

namespace Go.Proofs.YtjfjdidibglhaabDoor
open Go.RowKit

theorem sizes_none (w : World) (a : Option Addr) (c : Nat) :
    Calls Tryd.prog 37 #[.slice a 0 c] w fun e w' => e = .returned (.tuple #[.int .i64 0, .bool false]) ∧ w' = w := by
  go_enter Tryd.func37, Tryd.ntmps37
  go_wp2
  exact bodyPost_ret (v := .tuple #[.int .i64 0, .bool false]) (by simp [results, Tryd.results37, go_sem]) rfl ⟨rfl, rfl⟩

set_option maxHeartbeats 4000000 in
theorem sizes_main (S : List Nat) (u : Value) (w : World) (hu : SS w u S) (hl : S.length ≤ 200) (hS : ∀ x ∈ S, x < 2 ^ 64) (hne : 0 < S.length) :
    Calls Tryd.prog 37 #[u] w fun e w' => ((e = .returned (.tuple #[.int .i64 (pc (S.getD 0 0) : Int), .bool true]) ∧ ∀ x ∈ S, pc x = pc (S.getD 0 0)) ∨ (e = .returned (.tuple #[.int .i64 0, .bool false]) ∧ ¬ ∃ k, ∀ x ∈ S, pc x = k)) ∧ w' = w := by
  obtain ⟨a, cap, rfl, hc⟩ := hu
  have HC : Hid (∀ j, j < S.length → ∃ g off, a = some ⟨g, off, none⟩ ∧ w.cell? ⟨g, off + j, none⟩ = some (.int .u64 ((S.getD j 0 : Nat) : Int))) := hc
  have HW : Hid (∀ j, j < S.length → ∀ W, Calls Tryd.prog 76 #[.int .u64 ((S.getD j 0 : Nat) : Int)] W fun e w' => e = .returned (.int .i64 (pc (S.getD j 0) : Int)) ∧ w' = W) := fun j hj W => size_any _ (hS _ (getD_in hj)) W
  have HY : Hid ((∀ m, m < S.length → pc (S.getD m 0) = pc (S.getD 0 0)) → ∀ x ∈ S, pc x = pc (S.getD 0 0)) := fun h x hx => by
    obtain ⟨m, hm, rfl⟩ := List.mem_iff_getElem.1 hx
    have := h m hm
    rwa [List.getD_eq_getElem?_getD, List.getElem?_eq_getElem hm] at this
  have HNo : Hid (∀ m, m < S.length → pc (S.getD m 0) ≠ pc (S.getD 0 0) → ¬ ∃ k, ∀ x ∈ S, pc x = k) := fun m hm h => by
    rintro ⟨k, hk⟩
    exact h ((hk _ (getD_in hm)).trans (hk _ (getD_in hne)).symm)
  have HP : Hid (∀ m, pc (S.getD m 0) ≤ 64) := fun m => pc_le _
  obtain ⟨g0, off0, rfl, hc0⟩ := HC.out 0 hne
  have C0 := HW.out 0 hne w
  obtain ⟨k0, Hk0⟩ : ∃ k, Hid (pc (S.getD 0 0) = k) := ⟨_, rfl⟩
  have hk64 := HP.out 0
  rw [Hk0.out] at C0 HY HNo hk64 ⊢
  obtain ⟨y0, Hy0⟩ : ∃ y, Hid (S.getD 0 0 = y) := ⟨_, rfl⟩
  rw [Hy0.out] at hc0 C0
  rw [Nat.add_zero] at hc0
  generalize hn : S.length = n at *
  have hn0 : ((n : Int) == 0) = false := by simp; omega
  have hn1 : (0 : Int) < (n : Int) := by omega
  clear hc hS
  go_enter Tryd.func37, Tryd.ntmps37
  go_wp2_with (go_at_call 76; refine C0.mono ?_; rintro e w' ⟨rfl, hw⟩; replace hw := hw.symm; subst hw; clear C0)
  go_loopw [16] (fun iv wr => ∃ (j : Nat), iv = .int .i64 (j : Int) ∧ j ≤ n ∧ Hid (∀ m, m < j → pc (S.getD m 0) = k0) ∧ wr = w) (fun iv _ => (n - intOf iv).toNat)
  case atStart => exact ⟨0, rfl, by omega, (show ∀ m, m < 0 → _ from fun m h => by omega), rfl⟩
  case round =>
    obtain ⟨j, rfl, hj, HJ, rfl⟩ := hrel
    by_cases hlt : j < n
    · have hd : decide ((j : Int) < (n : Int)) = true := by simp; omega
      have hji : (j : Int) < (n : Int) := by omega
      obtain ⟨g, off, e2, hcj⟩ := HC.out j hlt
      obtain ⟨rfl, rfl⟩ : g0 = g ∧ off0 = off := by
        simp only [Option.some.injEq, Addr.mk.injEq] at e2
        exact ⟨e2.1, e2.2.1⟩
      have C1 := HW.out j hlt wr
      have hp := HP.out j
      obtain ⟨y, Hy⟩ : ∃ y, Hid (S.getD j 0 = y) := ⟨_, rfl⟩
      rw [Hy.out] at hcj C1 hp
      obtain ⟨k1, Hk1⟩ : ∃ k, Hid (pc y = k) := ⟨_, rfl⟩
      rw [Hk1.out] at C1 hp
      by_cases he : k1 = k0
      · have hd2 : ((k1 : Int) != (k0 : Int)) = false := by simp [he]
        have HJ2 : Hid (∀ m, m < j + 1 → pc (S.getD m 0) = k0) := fun m hm => by
          by_cases e : m = j
          · subst e; rw [Hy.out, Hk1.out]; exact he
          · exact HJ.out m (by omega)
        clear he HJ e2
        go_wp2_with (go_at_call 76; refine C1.mono ?_; rintro e w' ⟨rfl, hw⟩; replace hw := hw.symm; subst hw; clear C1)
        go_roundw
        case rel => exact ⟨j + 1, by go_num, by omega, HJ2, by trivial⟩
        case measure => simp [intOf]; omega
      · have hd2 : ((k1 : Int) != (k0 : Int)) = true := by simp; omega
        have hno := HNo.out j hlt (by rw [Hy.out, Hk1.out]; exact he)
        have HNO : Hid (¬ ∃ k, ∀ x ∈ S, pc x = k) := hno
        clear he HJ e2 hno
        go_wp2_with (go_at_call 76; refine C1.mono ?_; rintro e w' ⟨rfl, hw⟩; replace hw := hw.symm; subst hw; clear C1)
        exact bodyPost_ret (v := .tuple #[.int .i64 0, .bool false]) (by simp [results, Tryd.results37, go_sem]) rfl ⟨.inr ⟨rfl, HNO.out⟩, rfl⟩
    · have hd : decide ((j : Int) < (n : Int)) = false := by simp; omega
      obtain rfl : j = n := by omega
      have hy := HY.out HJ.out
      have HYS : Hid (∀ x ∈ S, pc x = k0) := hy
      clear hy HJ
      go_wp2
      exact bodyPost_ret (v := .tuple #[.int .i64 (k0 : Int), .bool true]) (by simp [results, Tryd.results37, go_sem]) rfl ⟨.inl ⟨rfl, HYS.out⟩, rfl⟩

end Go.Proofs.YtjfjdidibglhaabDoor
