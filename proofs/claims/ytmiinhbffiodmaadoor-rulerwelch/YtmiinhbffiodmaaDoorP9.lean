/- The walks of Inverse, checkBoth, Compose. -/
import Derived.Test.YtmiinhbffiodmaaDoorP28
import Derived.Test.YtmiinhbffiodmaaDoorP27
namespace Go.Proofs.YtmiinhbffiodmaaDoor
open Go.RowKit

theorem Inverse_bad (l : List Int) (v : Value) (w : World) (hl : Sl w v l) (hll : l.length ≤ maxLen) (z : Int) (hz : pF l = z) (h0 : z ≠ 0) :
    Calls Tryd.prog 16 #[v] w fun e w' => e = .returned (.tuple #[.slice none 0 0, .int .i64 z]) ∧ Below w.heap.size w w' := by
  have C := Check_any l v w hl hll
  rw [hz] at C
  have hd : (z != 0) = true := by simpa using h0
  clear hz h0
  obtain ⟨a, cap, rfl, _⟩ := hl
  go_enter Tryd.func16, Tryd.ntmps16
  go_wp2_with (first
    | (go_at_call 20; refine C.mono ?_; rintro e w1 ⟨rfl, hb⟩))
  exact bodyPost_ret (v := .tuple #[.slice none 0 0, .int .i64 z]) (by simp [results, Tryd.results16, go_sem]) rfl ⟨rfl, hb⟩

set_option maxHeartbeats 400000 in
theorem Inverse_ok (n : Nat) (f : Nat → Nat) (v : Value) (w : World) (hn : n ≤ 12) (hv : Sl w v (pl n f)) (P : Pm n f) :
    Calls Tryd.prog 16 #[v] w fun e w' => ∃ x, e = .returned (.tuple #[x, .int .i64 0]) ∧ Sl w' x (pl n (iv f)) ∧ Below w.heap.size w w' := by
  obtain ⟨i3, hi, hz0, hz1, hz2⟩ := info3
  have C := Check_any _ v w hv (by rw [pl_len]; unfold maxLen; omega)
  rw [pF_pl P hn] at C
  obtain ⟨a, ca, rfl, hcv⟩ := hv
  rw [pl_len] at hcv C ⊢
  have HV : Hid (∀ j, j < n → ∃ B off, a = some ⟨B, off, none⟩ ∧ w.cell? ⟨B, off + j, none⟩ = some (.int .i64 (f j : Int))) := fun j hj => by
    have := hcv j hj; rw [pl_at f hj] at this; exact this
  have HP : Hid (Pm n f) := P
  clear hcv P
  go_enter Tryd.func16, Tryd.ntmps16
  go_wp2_with (first
    | (go_at_call 20; refine C.mono ?_; rintro e w0 ⟨rfl, hb0⟩)
    | (at_make; refine wpList_make_full _ rfl _ _ 22 rfl w0.heap.size 3 i3 (.int .i64 0) 1 und22 hi hz0 hz1 .i64 .i64 (n : Int) (n : Int) n rfl rfl rfl rfl ?c1 ?c2 (Nat.le_refl _) ?_))
  case c1 => rw [hz2]; omega
  case c2 => unfold maxLen; omega
  intro w1 how1 hgr1
  have hO1 := own_made' how1
  have hb1 : Below w0.heap.size w0 w1 := ⟨hgr1.os, hgr1.tape, hgr1.output, hgr1.size, fun k hk => hgr1.block k hk (by simp)⟩
  clear how1 hgr1
  have hb2 := Below.next hb0 hb1
  have hsz := hb0.size
  go_wp2
  go_loopw [18] (fun i wr => ∃ (k : Nat) (h : Nat → Int), i = .int .i64 k ∧ k ≤ n ∧ Own wr w0.heap.size n h ∧ Hid (∀ t, t < k → h (f t) = (t : Int)) ∧ Below w.heap.size w wr) (fun i _ => (n - intOf i).toNat)
  case atStart => exact ⟨0, _, rfl, by omega, hO1, (fun t ht => by omega : ∀ t, t < 0 → _), hb2⟩
  case round =>
    clear hO1 hb1 hb2 hb0
    obtain ⟨k, h, rfl, hk, hO, HH, hb⟩ := hrel
    by_cases hlt : k < n
    · have hki : (k : Int) < n := by omega
      have hfk := HP.out.lt k hlt
      obtain ⟨x, Hx⟩ : ∃ x, Hid (f k = x) := ⟨_, rfl⟩
      obtain ⟨B, off, rfl, hc1⟩ := HV.out k hlt
      rw [Hx.out] at hc1 hfk
      have hxi : (x : Int) < n := by omega
      have hc1w := (hb.cell (p := ⟨B, off + k, none⟩) (by simpa using block_lt_of_cell hc1)).trans hc1
      have hcell := hO.cell x hfk
      have hfr := hO.frozen x
      go_wp2
      go_roundw
      case rel =>
        refine ⟨k + 1, upd h x k, by go_num, by omega, hO.set x k, ?_, hb.setCell (p := ⟨w0.heap.size, x, none⟩) (by simpa using hsz) _⟩
        rw [← Hx.out]
        exact undo_step HP.out hlt HH.out
      case measure => simp [intOf]; omega
    · obtain rfl : k = n := by omega
      have hkd : decide ((k : Int) < (k : Int)) = false := by simp
      go_wp2
      exact bodyPost_ret (v := .tuple #[.slice (some ⟨w0.heap.size, 0, none⟩) k k, .int .i64 0]) (by simp [results, Tryd.results16, go_sem]) rfl ⟨_, rfl, hO.pl _ (HP.out.iv_of HH.out), hb⟩

/-- What is wrong with two. -/
def p2F (l m : List Int) : Int := if pF l ≠ 0 then pF l else if pF m ≠ 0 then pF m else if l.length ≠ m.length then 2 else 0
theorem p2F_ok {l m : List Int} (h : p2F l m = 0) : ∃ n f g, n ≤ 12 ∧ Pm n f ∧ Pm n g ∧ l = pl n f ∧ m = pl n g := by
  unfold p2F at h
  by_cases h1 : pF l = 0
  · rw [if_neg (by simpa using h1)] at h
    by_cases h2 : pF m = 0
    · rw [if_neg (by simpa using h2)] at h
      by_cases h3 : l.length = m.length
      · obtain ⟨n, f, hn, P, rfl⟩ := pF_ok h1
        obtain ⟨n', g, hn', Q, rfl⟩ := pF_ok h2
        rw [pl_len, pl_len] at h3
        subst h3
        exact ⟨n, f, g, hn, P, Q, rfl, rfl⟩
      · rw [if_pos h3] at h; omega
    · rw [if_pos h2] at h; exact absurd h h2
  · rw [if_pos h1] at h; exact absurd h h1
theorem p2F_pl {n : Nat} {f g : Nat → Nat} (P : Pm n f) (Q : Pm n g) (hn : n ≤ 12) : p2F (pl n f) (pl n g) = 0 := by
  unfold p2F
  rw [pF_pl P hn, pF_pl Q hn]; simp

end Go.Proofs.YtmiinhbffiodmaaDoor
