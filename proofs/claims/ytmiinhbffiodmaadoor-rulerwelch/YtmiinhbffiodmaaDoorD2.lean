/- The walks of powers, lessOne and Welch. -/
import Derived.Test.YtmiinhbffiodmaaDoorD1
import Derived.Test.YtmiinhbffiodmaaDoorP27
import Derived.Test.YtmiinhbffiodmaaDoorR4
import Derived.Test.YtmiinhbffiodmaaDoorW16
namespace Go.Proofs.YtmiinhbffiodmaaDoor
open Go.RowKit Go.Maps

set_option maxRecDepth 100000 in
set_option maxHeartbeats 4000000 in
theorem powers_any (p r n : Nat) (w : World) (hp : p = n + 1) (h1 : 1 ≤ n) (h13 : p ≤ 13) (hr : r < p) :
    Calls Tryd.prog 25 #[.int .i64 (p : Int), .int .i64 (r : Int)] w fun e w' => ∃ x, e = .returned x ∧ Sl w' x (pl n fun i => r ^ i % p) ∧ Below w.heap.size w w' := by
  obtain ⟨i3, hi, hz0, hz1, hz2⟩ := info3
  have hpn : (p : Int) - 1 = (n : Int) := by omega
  have hp0 : ¬ (p : Int) = 0 := by omega
  have hp0' : ¬ p = 0 := by omega
  have hn12 : n ≤ 12 := by omega
  have HS : Hid (∀ k, r ^ k % p * r % p = r ^ (k + 1) % p) := fun k => welch_step p r k
  have HL : Hid (∀ k, r ^ k % p < p) := fun k => Nat.mod_lt _ (by omega)
  have H0 : Hid (((r ^ 0 % p : Nat) : Int) = 1) := by
    show ((r ^ 0 % p : Nat) : Int) = 1
    rw [Nat.pow_zero, Nat.mod_eq_of_lt (by omega)]
    rfl
  obtain ⟨q, Hq⟩ : ∃ q : Nat → Nat, Hid ((fun i => r ^ i % p) = q) := ⟨_, rfl⟩
  have HS' : Hid (∀ k, q k * r % p = q (k + 1)) := fun k => by rw [← Hq.out]; exact HS.out k
  have HL' : Hid (∀ k, q k < p) := fun k => by rw [← Hq.out]; exact HL.out k
  have H0' : Hid (((q 0 : Nat) : Int) = 1) := by show ((q 0 : Nat) : Int) = 1; rw [← Hq.out]; exact H0.out
  rw [Hq.out]
  clear hp HS HL H0 Hq
  go_enter Tryd.func25, Tryd.ntmps25
  go_wp2_with (at_make; refine wpList_make_full _ rfl _ _ 22 rfl w.heap.size 3 i3 (.int .i64 0) 1 und22 hi hz0 hz1 .i64 .i64 (n : Int) (n : Int) n rfl rfl rfl rfl ?c1 ?c2 (Nat.le_refl _) ?_)
  case c1 => rw [hz2]; omega
  case c2 => unfold maxLen; omega
  intro w1 how1 hgr1
  have hO1 := own_made' how1
  have hb1 : Below w.heap.size w w1 := ⟨hgr1.os, hgr1.tape, hgr1.output, hgr1.size, fun k hk => hgr1.block k hk (by simp)⟩
  clear how1 hgr1
  go_wp2
  go_loopw [6, 13] (fun pv iv wr => ∃ (k : Nat) (h : Nat → Int), iv = .int .i64 (k : Int) ∧ k ≤ n ∧ pv = .int .i64 ((q k : Nat) : Int) ∧ Own wr w.heap.size n h ∧ Hid (∀ t, t < k → h t = ((q t : Nat) : Int)) ∧ Below w.heap.size w wr) (fun _ iv _ => (n - intOf iv).toNat)
  case atStart => exact ⟨0, _, rfl, by omega, by rw [H0'.out], hO1, (fun t ht => by omega : ∀ t, t < 0 → _), hb1⟩
  case round =>
    clear hO1 hb1
    obtain ⟨k, h, rfl, hk, rfl, hO, HH, hb⟩ := hrel
    by_cases hlt : k < n
    · have hki : (k : Int) < (n : Int) := by omega
      have hdk : decide ((k : Int) < (n : Int)) = true := by simp; omega
      have hcell := hO.cell k hlt
      have hfr := hO.frozen k
      have hst := HS'.out k
      have hql := HL'.out k
      have HNX : Hid (∀ t, t < k + 1 → upd h k ((q k : Nat) : Int) t = ((q t : Nat) : Int)) := fun t ht => by
        unfold upd
        by_cases e : t = k
        · subst e; rw [if_pos rfl]
        · rw [if_neg e]; exact HH.out t (by omega)
      have hO2 := hO.set k ((q k : Nat) : Int)
      obtain ⟨x, Hx⟩ : ∃ x, Hid (q k = x) := ⟨_, rfl⟩
      obtain ⟨y, Hy⟩ : ∃ y, Hid (q (k + 1) = y) := ⟨_, rfl⟩
      rw [Hx.out] at hst hql hO2 ⊢
      rw [Hy.out] at hst
      have hrem : ((x : Int) * (r : Int)).tmod (p : Int) = (y : Int) := by rw [← hst]; rfl
      have hm1 : x * r ≤ 13 * 13 := Nat.mul_le_mul (by omega) (by omega)
      have hm2 : (0 : Int) ≤ (x : Int) * (r : Int) := Int.mul_nonneg (by omega) (by omega)
      have hm3 : (x : Int) * (r : Int) ≤ 13 * 13 := by have : ((x * r : Nat) : Int) ≤ 13 * 13 := by omega
                                                       rwa [Int.natCast_mul] at this
      clear hst hm1 HH
      go_wp2
      go_roundw
      case rel => exact ⟨k + 1, _, by go_num, by omega, by rw [Hy.out], hO2, (by rw [Hx.out] at HNX; exact HNX), hb.setCell (p := ⟨w.heap.size, k, none⟩) (by simp) _⟩
      case measure => simp [intOf]; omega
    · obtain rfl : k = n := by omega
      have hkd : decide ((k : Int) < (k : Int)) = false := by simp
      have hfin := hO.pl k (f := q) HH.out
      have HFIN : Hid (Sl wr (.slice (some ⟨w.heap.size, 0, none⟩) k k) (pl k q)) := hfin
      clear hO HH hfin
      go_wp2
      go_ret
      exact ⟨_, rfl, HFIN.out, hb⟩
set_option maxRecDepth 100000 in
set_option maxHeartbeats 4000000 in
theorem lessOne_any (n : Nat) (f : Nat → Nat) (u : Value) (w : World) (h12 : n ≤ 12) (hu : Sl w u (pl n f)) (hf : ∀ i, i < n → 1 ≤ f i ∧ f i ≤ 100) :
    Calls Tryd.prog 24 #[u] w fun e w' => ∃ cap b, e = .returned (.slice (some ⟨b, 0, none⟩) n cap) ∧ Sl w' (.slice (some ⟨b, 0, none⟩) n cap) (pl n fun i => f i - 1) ∧ Below w.heap.size w w' := by
  obtain ⟨i3, hi, hz0, hz1, hz2⟩ := info3
  obtain ⟨a, ca, rfl, hcv⟩ := hu
  rw [pl_len] at hcv ⊢
  have HV : Hid (∀ j, j < n → ∃ B off, a = some ⟨B, off, none⟩ ∧ w.cell? ⟨B, off + j, none⟩ = some (.int .i64 (f j : Int))) := fun j hj => by
    have := hcv j hj; rw [pl_at f hj] at this; exact this
  have HF : Hid (∀ i, i < n → 1 ≤ f i ∧ f i ≤ 100) := hf
  clear hcv hf
  go_enter Tryd.func24, Tryd.ntmps24
  go_wp2_with (at_make; refine wpList_make_full _ rfl _ _ 22 rfl w.heap.size 3 i3 (.int .i64 0) 1 und22 hi hz0 hz1 .i64 .i64 (n : Int) (n : Int) n rfl rfl rfl rfl ?c1 ?c2 (Nat.le_refl _) ?_)
  case c1 => rw [hz2]; omega
  case c2 => unfold maxLen; omega
  intro w1 how1 hgr1
  have hO1 := own_made' how1
  have hb1 : Below w.heap.size w w1 := ⟨hgr1.os, hgr1.tape, hgr1.output, hgr1.size, fun k hk => hgr1.block k hk (by simp)⟩
  clear how1 hgr1
  go_wp2
  go_loopw [11] (fun iv wr => ∃ (k : Nat) (h : Nat → Int), iv = .int .i64 (k : Int) ∧ k ≤ n ∧ Own wr w.heap.size n h ∧ Hid (∀ t, t < k → h t = ((f t - 1 : Nat) : Int)) ∧ Below w.heap.size w wr) (fun iv _ => (n - intOf iv).toNat)
  case atStart => exact ⟨0, _, rfl, by omega, hO1, (fun t ht => by omega : ∀ t, t < 0 → _), hb1⟩
  case round =>
    clear hO1 hb1
    obtain ⟨k, h, rfl, hk, hO, HH, hb⟩ := hrel
    by_cases hlt : k < n
    · have hki : (k : Int) < (n : Int) := by omega
      have hdk : decide ((k : Int) < (n : Int)) = true := by simp; omega
      obtain ⟨B, off, rfl, hc1⟩ := HV.out k hlt
      have hfk := HF.out k hlt
      have hc1w := (hb.cell (p := ⟨B, off + k, none⟩) (by simpa using block_lt_of_cell hc1)).trans hc1
      have hcell := hO.cell k hlt
      have hfr := hO.frozen k
      obtain ⟨y, Hy⟩ : ∃ y : Nat, Hid (f k - 1 = y) := ⟨_, rfl⟩
      have hxy : ((f k : Nat) : Int) - 1 = (y : Int) := by have := Hy.out; omega
      have HNX : Hid (∀ t, t < k + 1 → upd h k (y : Int) t = ((f t - 1 : Nat) : Int)) := fun t ht => by
        unfold upd
        by_cases e : t = k
        · subst e; rw [if_pos rfl, Hy.out]
        · rw [if_neg e]; exact HH.out t (by omega)
      have hO2 := hO.set k (y : Int)
      obtain ⟨x, Hx⟩ : ∃ x, Hid (f k = x) := ⟨_, rfl⟩
      rw [Hx.out] at hc1w hxy hfk
      clear HH hc1
      go_wp2
      go_roundw
      case rel => exact ⟨k + 1, _, by go_num, by omega, hO2, HNX, hb.setCell (p := ⟨w.heap.size, k, none⟩) (by simp) _⟩
      case measure => simp [intOf]; omega
    · obtain rfl : k = n := by omega
      have hkd : decide ((k : Int) < (k : Int)) = false := by simp
      have hfin := hO.pl k (f := fun i => f i - 1) HH.out
      have HFIN : Hid (Sl wr (.slice (some ⟨w.heap.size, 0, none⟩) k k) (pl k fun i => f i - 1)) := hfin
      clear hO HH hfin
      go_wp2
      go_ret
      exact ⟨k, w.heap.size, rfl, HFIN.out, hb⟩

end Go.Proofs.YtmiinhbffiodmaaDoor
