/- The walk of the document's At. -/
import Derived.Test.YtncnaaohihmjnaaDoorQ5
namespace Go.Proofs.YtncnaaohihmjnaaDoor
open Go.RowKit

set_option maxHeartbeats 1000000 in
theorem At_any (n : Nat) (L : List Int) (v : Value) (w : World) (hv : Sl w v L) (G : GoodS n L) (r c : Nat) (hr : r < n) (hc : c < n) :
    Calls Tryd.prog 8 #[.agg #[.int .i64 (n : Int), v], .int .i64 (r : Int), .int .i64 (c : Int)] w fun e w' => e = .returned (.int .i64 (sq n L r c : Int)) ∧ Below w.heap.size w w' := by
  have hlt := cell_lt hr hc
  have hn := G.le
  obtain ⟨a, off, cap, rfl, ha, hcell⟩ := hv.form G.len (by omega)
  have hb0 := balloc w (.cells #[.int .i64 (n : Int), .slice (some ⟨a, off, none⟩) (n * n) cap] 24)
  obtain ⟨h1, h2, _⟩ := one_box n (.slice (some ⟨a, off, none⟩) (n * n) cap) w _ (Below.refl _ _)
  have h3 := (hb0.cell (p := ⟨a, off + (r * n + c), none⟩) ha).trans (hcell _ hlt)
  have h4 : L.getD (r * n + c) 0 = (sq n L r c : Int) := G.val hr hc
  rw [h4] at h3
  have hmn : n * n ≤ 99 := Nat.le_trans (Nat.mul_le_mul hn hn) (by decide)
  have hrn : r * n ≤ 99 := by omega
  obtain ⟨q, hq⟩ : ∃ q, q = r * n := ⟨_, rfl⟩
  obtain ⟨k, hk⟩ : ∃ k, k = q + c := ⟨_, rfl⟩
  have hmul : (r : Int) * (n : Int) = (q : Int) := by rw [hq]; simp
  have hadd : (q : Int) + (c : Int) = (k : Int) := by rw [hk]; simp
  rw [← hq, ← hk] at h3 hlt
  have hq99 : q ≤ 99 := by omega
  have hk99 : k ≤ 99 := by omega
  have hkz : (k : Int) < ((n * n : Nat) : Int) := by omega
  generalize sq n L r c = x at *
  generalize n * n = z at *
  clear hcell hv h4 hq hk hrn G
  go_enter Tryd.func8, Tryd.ntmps8
  go_wp2
  go_ret
  exact ⟨rfl, hb0⟩
end Go.Proofs.YtncnaaohihmjnaaDoor
