/- Tellers; the walks of asked, of balanced. -/
import Derived.Test.YtamdpcajfgbagaaDoorPBase
import Derived.Test.YtamdpcajfgbagaaDoorHdF
import Derived.Shelf.Abstract
namespace Go.Proofs.YtamdpcajfgbagaaDoor
open Go.RowKit

/-- The function tells the number in each place. -/
def TellAt (g : Nat) (lb : Array Value) (m n : Nat) (t : Nat → Nat → Int) (w : World) : Prop :=
  ∀ W : World, Below w.heap.size w W → ∀ r c : Nat, r < m → c < n → Calls Tryd.prog g (#[.int .i64 (r : Int), .int .i64 (c : Int)] ++ lb) W fun e w' => e = .returned (.int .i64 (t r c)) ∧ Below W.heap.size W w'
def Teller (v : Value) (m n : Nat) (t : Nat → Nat → Int) (w : World) : Prop :=
  ∃ g lb, v = .func (.func g) #[] lb ∧ (∀ args w, (callFunc g args).run Tryd.prog w = .ok (.enter g args) w) ∧ TellAt g lb m n t w
theorem Teller.below {v : Value} {m n : Nat} {t : Nat → Nat → Int} {w W : World} (h : Teller v m n t w) (hb : Below w.heap.size w W) : Teller v m n t W := by
  obtain ⟨g, lb, rfl, e, h⟩ := h
  exact ⟨g, lb, rfl, e, fun W' b r c hr hc => h W' (Below.next hb b) r c hr hc⟩

theorem e29 : ∀ args w, (callFunc 32 args).run Tryd.prog w = .ok (.enter 32 args) w := enters_of Tryd.func32 (by kernel_rfl) rfl
set_option maxHeartbeats 1000000 in
theorem asked1_any (n : Nat) (L : List Int) (v : Value) (w W : World) (b : Nat) (hv : Sl w v L) (hl : L.length = n * n) (hn : n ≤ 8 * 3)
    (hbx : w.heap[b]? = some (.cells #[.int .i64 (n : Int), v] 24 (0, 0))) (hB : Below w.heap.size w W) (r c : Nat) (hr : r < n) (hc : c < n) :
    Calls Tryd.prog 32 #[.int .i64 (r : Int), .int .i64 (c : Int), .pointer (some ⟨b, 0, none⟩)] W fun e w' => e = .returned (.int .i64 (mx n L r c)) ∧ Below W.heap.size W w' := by
  have hlt := cell_ltH hr hc
  obtain ⟨a, off, cap, rfl, ha, hcell⟩ := (hv.below hB).form hl (by omega)
  have hbl : b < w.heap.size := (Array.getElem?_eq_some_iff.1 hbx).1
  have hbx' := (hB.block b hbl).trans hbx
  have h1 : W.cell? ⟨b, 0, none⟩ = some (.int .i64 (n : Int)) := by rw [cell_of_row _ _ _ _ _ _ hbx']; rfl
  have h2 : W.cell? ⟨b, 1, none⟩ = some (.slice (some ⟨a, off, none⟩) (n * n) cap) := by rw [cell_of_row _ _ _ _ _ _ hbx']; rfl
  have h3 := hcell _ hlt
  have h4 : L.getD (r * n + c) 0 = mx n L r c := rfl
  rw [h4] at h3
  have hmn : n * n ≤ 999 := Nat.le_trans (Nat.mul_le_mul hn hn) (by decide)
  have hrn : r * n ≤ 999 := by omega
  obtain ⟨q, hq⟩ : ∃ q, q = r * n := ⟨_, rfl⟩
  obtain ⟨k, hk⟩ : ∃ k, k = q + c := ⟨_, rfl⟩
  have hmul : (r : Int) * (n : Int) = (q : Int) := by rw [hq]; simp
  have hadd : (q : Int) + (c : Int) = (k : Int) := by rw [hk]; simp
  rw [← hq, ← hk] at h3 hlt
  have hq99 : q ≤ 999 := by omega
  have hk99 : k ≤ 999 := by omega
  have hkz : (k : Int) < ((n * n : Nat) : Int) := by omega
  generalize mx n L r c = x at *
  generalize n * n = z at *
  clear hcell hbx hbx' hv h4 hq hk hrn
  go_enter Tryd.func32, Tryd.ntmps32
  go_wp2
  go_ret
  exact ⟨rfl, Below.refl _ _⟩
set_option maxHeartbeats 1000000 in
theorem asked_any (n : Nat) (L : List Int) (v : Value) (w : World) (hv : Sl w v L) (hl : L.length = n * n) (hn : n ≤ 8 * 3) :
    Calls Tryd.prog 23 #[.agg #[.int .i64 (n : Int), v]] w fun e w' => (∃ y, e = .returned y ∧ Teller y n n (mx n L) w') ∧ Below w.heap.size w w' := by
  go_enter Tryd.func23, Tryd.ntmps23
  go_wp2
  go_ret
  have hb := balloc w (.cells #[.int .i64 (n : Int), v] 24)
  refine ⟨⟨_, rfl, _, _, rfl, e29, fun W b r c hr hc => ?_⟩, hb⟩
  exact asked1_any n L v _ W w.heap.size (hv.below hb) hl hn (heap_alloc_new w _) b r c hr hc

theorem sg_prod {a b : Int} (ha : Sg a) (hb : Sg b) : a * b = 1 ∨ a * b = -1 := ha.mul hb
set_option maxHeartbeats 4000000 in
theorem balanced_any (n : Nat) (t : Nat → Nat → Int) (v : Value) (w : World) (b : Bool) (hn : n ≤ 8 * 3) (ht : ∀ r c, r < n → c < n → Sg (t r c)) (hT : Teller v n n t w) (hb : balB n t = b) :
    Calls Tryd.prog 24 #[.int .i64 (n : Int), v] w fun e w' => e = .returned (.bool b) ∧ Below w.heap.size w w' := by
  obtain ⟨g, lb, rfl, eg, hT⟩ := hT
  have HT : Hid (TellAt g lb n n t w) := hT
  have HB : Hid (balB n t = b) := hb
  have HX : Hid (∀ r c, r < n → c < n → Sg (t r c)) := ht
  clear hT hb ht
  go_enter Tryd.func24, Tryd.ntmps24
  go_wp2
  go_loopw [10] (fun i wr => ∃ (r : Nat), i = .int .i64 (r : Int) ∧ r ≤ n ∧ Hid (∀ i k, i < r → k < i → rp n t i k = 0) ∧ Below w.heap.size w wr) (fun i _ => (n - intOf i).toNat)
  case atStart => exact ⟨0, rfl, by omega, (fun i k h => by omega : ∀ i k, i < 0 → k < i → rp n t i k = 0), Below.refl _ _⟩
  case round =>
    obtain ⟨r, rfl, hr, HR, hB⟩ := hrel
    by_cases hlt : r < n
    · have hdr : decide ((r : Int) < (n : Int)) = true := by simp; omega
      go_wp2
      go_loopw [14] (fun i wr => ∃ (q : Nat), i = .int .i64 (q : Int) ∧ q ≤ r ∧ Hid (∀ k, k < q → rp n t r k = 0) ∧ Below w.heap.size w wr) (fun i _ => (r - intOf i).toNat)
      case atStart => exact ⟨0, rfl, by omega, (fun k h => by omega : ∀ k, k < 0 → rp n t r k = 0), hB⟩
      case round =>
        clear hB
        obtain ⟨q, rfl, hq, HQ, hB⟩ := hrel
        by_cases hlq : q < r
        · have hdq : decide ((q : Int) < (r : Int)) = true := by simp; omega
          go_wp2
          go_loopw [7, 18] (fun o i wr => ∃ (c : Nat) (X : Int), i = .int .i64 (c : Int) ∧ c ≤ n ∧ o = .int .i64 X ∧ Hid ((sm c fun j => t r j * t q j) = X) ∧ -(c : Int) ≤ X ∧ X ≤ c ∧ Below w.heap.size w wr) (fun _ i _ => (n - intOf i).toNat)
          case atStart => exact ⟨0, 0, rfl, by omega, rfl, (rfl : (sm 0 fun j => t r j * t q j) = 0), by omega, by omega, hB⟩
          case round =>
            clear hB
            obtain ⟨c, X, rfl, hc, rfl, HS, hX1, hX2, hB⟩ := hrel
            by_cases hlc : c < n
            · have hdc : decide ((c : Int) < (n : Int)) = true := by simp; omega
              have hqn : q < n := by omega
              have C1 := HT.out _ hB r c hlt hlc
              have C2 := fun W (b : Below w.heap.size w W) => HT.out W b q c hqn hlc
              have hp := sg_prod (HX.out r c hlt hlc) (HX.out q c hqn hlc)
              have HS2 : Hid ((sm (c + 1) fun j => t r j * t q j) = X + t r c * t q c) := by show _ = _; rw [sm, HS.out]
              obtain ⟨x, Hx⟩ : ∃ x, Hid (t r c = x) := ⟨_, rfl⟩
              obtain ⟨y, Hy⟩ : ∃ y, Hid (t q c = y) := ⟨_, rfl⟩
              rw [Hx.out] at C1 hp HS2
              rw [Hy.out] at C2 hp HS2
              obtain ⟨z, Hz⟩ : ∃ z, Hid (x * y = z) := ⟨_, rfl⟩
              have hz := Hz.out
              rw [hz] at hp HS2
              have hz1 : -1 ≤ z ∧ z ≤ 1 := by omega
              obtain ⟨hz2, hz3⟩ := hz1
              clear hp HS
              go_wp2_with (first
                | (go_at_fn g; refine C1.mono ?_; rintro e w3 ⟨rfl, b3⟩; clear C1; have D2 := C2 _ (Below.next hB b3); clear C2)
                | (go_at_fn g; refine D2.mono ?_; rintro e w4 ⟨rfl, b4⟩; clear D2))
              go_roundw
              case rel => exact ⟨c + 1, X + z, by go_num, by omega, by go_num, HS2, by omega, by omega, Below.next (Below.next hB b3) b4⟩
              case measure => simp [intOf]; omega
            · have hdc : decide ((c : Int) < (n : Int)) = false := by simp; omega
              obtain rfl : c = n := by omega
              by_cases hX0 : X = 0
              · have hXn : (X != 0) = false := by simp [hX0]
                have HQ2 : Hid (∀ k, k < q + 1 → rp c t r k = 0) := fun k hk => by
                  by_cases e : k = q
                  · subst e; exact HS.out.trans hX0
                  · exact HQ.out k (by omega)
                clear hX0
                go_wp2
                go_roundw
                case rel => exact ⟨q + 1, by go_num, by omega, HQ2, hB⟩
                case measure => simp [intOf]; omega
              · have hXn : (X != 0) = true := by simp [hX0]
                obtain rfl : b = false := HB.out.symm.trans (balB_no hlt hlq (by unfold rp; rw [HS.out]; exact hX0))
                go_wp2
                go_ret
                exact ⟨rfl, hB⟩
        · have hdq : decide ((q : Int) < (r : Int)) = false := by simp; omega
          obtain rfl : q = r := by omega
          have HR2 : Hid (∀ i k, i < q + 1 → k < i → rp n t i k = 0) := fun i k hi hk => by
            by_cases e : i = q
            · subst e; exact HQ.out k hk
            · exact HR.out i k (by omega) hk
          go_wp2
          go_roundw
          case rel => exact ⟨q + 1, by go_num, by omega, HR2, hB⟩
          case measure => simp [intOf]; omega
    · have hdr : decide ((r : Int) < (n : Int)) = false := by simp; omega
      obtain rfl : r = n := by omega
      obtain rfl : b = true := HB.out.symm.trans (balB_iff.2 HR.out)
      go_wp2
      go_ret
      exact ⟨rfl, hB⟩
end Go.Proofs.YtamdpcajfgbagaaDoor
