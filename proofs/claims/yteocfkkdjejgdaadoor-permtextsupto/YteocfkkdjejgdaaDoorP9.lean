/- The walks of Inverse, checkBoth, Compose. -/
import Derived.Test.YteocfkkdjejgdaaDoorP28
import Derived.Test.YteocfkkdjejgdaaDoorP27
namespace Go.Proofs.YteocfkkdjejgdaaDoor
open Go.RowKit

/-- What is wrong with two. -/
def p2F (l m : List Int) : Int := if pF l ≠ 0 then pF l else if pF m ≠ 0 then pF m else if l.length ≠ m.length then 2 else 0
theorem p2F_ok {l m : List Int} (h : p2F l m = 0) : ∃ n f g, n ≤ 12 ∧ Pm n f ∧ Pm n g ∧ l = pl n f ∧ m = pl n g := by
  unfold p2F at h
  by_cases h1 : pF l = 0
  · rw [if_neg (by simpa using h1)] at h
    by_cases h2 : pF m = 0
    · rw [if_neg (by simpa using h2)] at h
      by_cases h3 : l.length = m.length
      · obtain ⟨n, f, hn, P, rfl⟩ := pF_ok h1
        obtain ⟨n', g, hn', Q, rfl⟩ := pF_ok h2
        rw [pl_len, pl_len] at h3
        subst h3
        exact ⟨n, f, g, hn, P, Q, rfl, rfl⟩
      · rw [if_pos h3] at h; omega
    · rw [if_pos h2] at h; exact absurd h h2
  · rw [if_pos h1] at h; exact absurd h h1
theorem p2F_pl {n : Nat} {f g : Nat → Nat} (P : Pm n f) (Q : Pm n g) (hn : n ≤ 12) : p2F (pl n f) (pl n g) = 0 := by
  unfold p2F
  rw [pF_pl P hn, pF_pl Q hn]; simp

set_option maxHeartbeats 400000 in
theorem checkBoth_any (l m : List Int) (v u : Value) (w : World) (hl : Sl w v l) (hm : Sl w u m) (hll : l.length ≤ maxLen) (hml : m.length ≤ maxLen) :
    Calls Tryd.prog 33 #[v, u] w fun e w' => e = .returned (.int .i64 (p2F l m)) ∧ Below w.heap.size w w' := by
  have C1 := Check_any l v w hl hll
  have C2 := fun w1 (hb : Below w.heap.size w w1) => Check_any m u w1 (hm.below hb) hml
  obtain ⟨z, Hz⟩ : ∃ z : Int, Hid (p2F l m = z) := ⟨_, rfl⟩
  obtain ⟨x, Hx⟩ : ∃ x : Int, Hid (pF l = x) := ⟨_, rfl⟩
  obtain ⟨y, Hy⟩ : ∃ y : Int, Hid (pF m = y) := ⟨_, rfl⟩
  rw [Hx.out] at C1
  rw [Hy.out] at C2
  rw [Hz.out]
  obtain ⟨a, ca, rfl, _⟩ := hl
  obtain ⟨b, cb, rfl, _⟩ := hm
  have HZ : Hid (z = if x ≠ 0 then x else if y ≠ 0 then y else if l.length ≠ m.length then 2 else 0) := by
    show z = _
    rw [← Hz.out, ← Hx.out, ← Hy.out]; rfl
  by_cases hx : x = 0
  · have hdx : (x != 0) = false := by simpa using hx
    by_cases hy : y = 0
    · have hdy : (y != 0) = false := by simpa using hy
      by_cases hlm : l.length = m.length
      · have hd : ((l.length : Int) != (m.length : Int)) = false := by simp; exact_mod_cast hlm
        have hz : z = 0 := by rw [HZ.out, if_neg (by simpa using hx), if_neg (by simpa using hy), if_neg (by simpa using hlm)]
        subst hz
        clear hlm
        go_enter Tryd.func33, Tryd.ntmps33
        go_wp2_with (first
          | (go_at_call 14; refine C1.mono ?_; rintro e w1 ⟨rfl, hb⟩; clear C1)
          | (go_at_call 14; refine (C2 _ hb).mono ?_; rintro e w2 ⟨rfl, hb2⟩))
        go_ret
        exact ⟨rfl, Below.next hb hb2⟩
      · have hd : ((l.length : Int) != (m.length : Int)) = true := by simp; omega
        have hz : z = 2 := by rw [HZ.out, if_neg (by simpa using hx), if_neg (by simpa using hy), if_pos (by simpa using hlm)]
        subst hz
        clear hlm
        go_enter Tryd.func33, Tryd.ntmps33
        go_wp2_with (first
          | (go_at_call 14; refine C1.mono ?_; rintro e w1 ⟨rfl, hb⟩; clear C1)
          | (go_at_call 14; refine (C2 _ hb).mono ?_; rintro e w2 ⟨rfl, hb2⟩))
        go_ret
        exact ⟨rfl, Below.next hb hb2⟩
    · have hdy : (y != 0) = true := by simpa using hy
      have hz : z = y := by rw [HZ.out, if_neg (by simpa using hx), if_pos hy]
      subst hz
      go_enter Tryd.func33, Tryd.ntmps33
      go_wp2_with (first
        | (go_at_call 14; refine C1.mono ?_; rintro e w1 ⟨rfl, hb⟩; clear C1)
        | (go_at_call 14; refine (C2 _ hb).mono ?_; rintro e w2 ⟨rfl, hb2⟩))
      go_ret
      exact ⟨rfl, Below.next hb hb2⟩
  · have hdx : (x != 0) = true := by simpa using hx
    have hz : z = x := by rw [HZ.out, if_pos hx]
    subst hz
    go_enter Tryd.func33, Tryd.ntmps33
    go_wp2_with (first
      | (go_at_call 14; refine C1.mono ?_; rintro e w1 ⟨rfl, hb⟩; clear C1))
    go_ret
    exact ⟨rfl, hb⟩

theorem Compose_bad (l m : List Int) (v u : Value) (w : World) (hl : Sl w v l) (hm : Sl w u m) (hll : l.length ≤ maxLen) (hml : m.length ≤ maxLen) (z : Int) (hz : p2F l m = z) (h0 : z ≠ 0) :
    Calls Tryd.prog 19 #[v, u] w fun e w' => e = .returned (.tuple #[.slice none 0 0, .int .i64 z]) ∧ Below w.heap.size w w' := by
  have C := checkBoth_any l m v u w hl hm hll hml
  rw [hz] at C
  have hd : (z != 0) = true := by simpa using h0
  clear hz h0
  obtain ⟨a, ca, rfl, _⟩ := hl
  obtain ⟨b, cb, rfl, _⟩ := hm
  go_enter Tryd.func19, Tryd.ntmps19
  go_wp2_with (first
    | (go_at_call 33; refine C.mono ?_; rintro e w1 ⟨rfl, hb⟩))
  exact bodyPost_ret (v := .tuple #[.slice none 0 0, .int .i64 z]) (by simp [results, Tryd.results19, go_sem]) rfl ⟨rfl, hb⟩

set_option maxHeartbeats 400000 in
theorem Compose_ok (n : Nat) (f g : Nat → Nat) (v u : Value) (w : World) (hn : n ≤ 12) (hv : Sl w v (pl n f)) (hu : Sl w u (pl n g)) (P : Pm n f) (Q : Pm n g) :
    Calls Tryd.prog 19 #[v, u] w fun e w' => ∃ x, e = .returned (.tuple #[x, .int .i64 0]) ∧ Sl w' x (pl n fun i => g (f i)) ∧ Below w.heap.size w w' := by
  obtain ⟨i3, hi, hz0, hz1, hz2⟩ := info3
  have C := checkBoth_any _ _ v u w hv hu (by rw [pl_len]; unfold maxLen; omega) (by rw [pl_len]; unfold maxLen; omega)
  rw [p2F_pl P Q hn] at C
  obtain ⟨a, ca, rfl, hcv⟩ := hv
  obtain ⟨b, cb, rfl, hcu⟩ := hu
  rw [pl_len] at hcv hcu C ⊢
  rw [pl_len] at C ⊢
  have HV : Hid (∀ j, j < n → ∃ B off, a = some ⟨B, off, none⟩ ∧ w.cell? ⟨B, off + j, none⟩ = some (.int .i64 (f j : Int))) := fun j hj => by
    have := hcv j hj; rw [pl_at f hj] at this; exact this
  have HU : Hid (∀ j, j < n → ∃ B off, b = some ⟨B, off, none⟩ ∧ w.cell? ⟨B, off + j, none⟩ = some (.int .i64 (g j : Int))) := fun j hj => by
    have := hcu j hj; rw [pl_at g hj] at this; exact this
  have HF : Hid (∀ i, i < n → f i < n) := P.lt
  clear hcv hcu P Q
  go_enter Tryd.func19, Tryd.ntmps19
  go_wp2_with (first
    | (go_at_call 33; refine C.mono ?_; rintro e w0 ⟨rfl, hb0⟩)
    | (at_make; refine wpList_make_full _ rfl _ _ 22 rfl w0.heap.size 3 i3 (.int .i64 0) 1 und22 hi hz0 hz1 .i64 .i64 (n : Int) (n : Int) n rfl rfl rfl rfl ?c1 ?c2 (Nat.le_refl _) ?_))
  case c1 => rw [hz2]; omega
  case c2 => unfold maxLen; omega
  intro w1 how1 hgr1
  have hO1 := own_made' how1
  have hb1 : Below w0.heap.size w0 w1 := ⟨hgr1.os, hgr1.tape, hgr1.output, hgr1.size, fun k hk => hgr1.block k hk (by simp)⟩
  clear how1 hgr1
  have hb2 := Below.next hb0 hb1
  have hsz := hb0.size
  go_wp2
  go_loopw [21] (fun i wr => ∃ (k : Nat) (h : Nat → Int), i = .int .i64 k ∧ k ≤ n ∧ Own wr w0.heap.size n h ∧ Hid (∀ t, t < k → h t = (g (f t) : Int)) ∧ Below w.heap.size w wr) (fun i _ => (n - intOf i).toNat)
  case atStart => exact ⟨0, _, rfl, by omega, hO1, (fun t ht => by omega : ∀ t, t < 0 → _), hb2⟩
  case round =>
    clear hO1 hb1 hb2 hb0
    obtain ⟨k, h, rfl, hk, hO, HH, hb⟩ := hrel
    by_cases hlt : k < n
    · have hki : (k : Int) < n := by omega
      have hfk := HF.out k hlt
      obtain ⟨x, Hx⟩ : ∃ x, Hid (f k = x) := ⟨_, rfl⟩
      obtain ⟨y, Hy⟩ : ∃ y, Hid (g x = y) := ⟨_, rfl⟩
      obtain ⟨B, off, rfl, hc1⟩ := HV.out k hlt
      rw [Hx.out] at hc1 hfk
      obtain ⟨B', off', rfl, hc2⟩ := HU.out x hfk
      rw [Hy.out] at hc2
      have hxi : (x : Int) < n := by omega
      have hc1w := (hb.cell (p := ⟨B, off + k, none⟩) (by simpa using block_lt_of_cell hc1)).trans hc1
      have hc2w := (hb.cell (p := ⟨B', off' + x, none⟩) (by simpa using block_lt_of_cell hc2)).trans hc2
      have hcell := hO.cell k hlt
      have hfr := hO.frozen k
      go_wp2
      go_roundw
      case rel =>
        refine ⟨k + 1, upd h k y, by go_num, by omega, hO.set k y, (fun t ht => ?_ : ∀ t, t < k + 1 → _), hb.setCell (p := ⟨w0.heap.size, k, none⟩) (by simpa using hsz) _⟩
        unfold upd
        by_cases e : t = k
        · subst e; rw [if_pos rfl, Hx.out, Hy.out]
        · rw [if_neg e]; exact HH.out t (by omega)
      case measure => simp [intOf]; omega
    · obtain rfl : k = n := by omega
      have hkd : decide ((k : Int) < (k : Int)) = false := by simp
      go_wp2
      exact bodyPost_ret (v := .tuple #[.slice (some ⟨w0.heap.size, 0, none⟩) k k, .int .i64 0]) (by simp [results, Tryd.results19, go_sem]) rfl ⟨_, rfl, hO.pl _ (fun j hj => HH.out j hj), hb⟩

end Go.Proofs.YteocfkkdjejgdaaDoor
