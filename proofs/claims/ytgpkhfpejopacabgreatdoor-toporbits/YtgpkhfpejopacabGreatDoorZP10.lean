/- The walks of Order, Sign, Alike. -/
import Derived.Test.YtgpkhfpejopacabGreatDoorZP28
import Derived.Test.YtgpkhfpejopacabGreatDoorZPCyc
import Derived.Test.YtgpkhfpejopacabGreatDoorZP30
import Derived.Laws.StructEq
import Derived.ChangeKeysEq
/- The walks of Inverse, checkBoth, Compose. -/
namespace Go.Proofs.YtgpkhfpejopacabGreatDoor.Gc
open Go.RowKit

set_option maxRecDepth 100000 in
set_option maxHeartbeats 400000 in
theorem Inverse_ok (n : Nat) (f : Nat → Nat) (v : Value) (w : World) (hn : n ≤ 12) (hv : Sl w v (pl n f)) (P : Pm n f) :
    Calls Tryz.prog 17 #[v] w fun e w' => ∃ x, e = .returned (.tuple #[x, .int .i64 0]) ∧ Sl w' x (pl n (iv f)) ∧ Below w.heap.size w w' := by
  obtain ⟨i3, hi, hz0, hz1, hz2⟩ := info3
  have C := Check_any _ v w hv (by rw [pl_len]; unfold maxLen; omega)
  rw [pF_pl P hn] at C
  obtain ⟨a, ca, rfl, hcv⟩ := hv
  rw [pl_len] at hcv C ⊢
  have HV : Hid (∀ j, j < n → ∃ B off, a = some ⟨B, off, none⟩ ∧ w.cell? ⟨B, off + j, none⟩ = some (.int .i64 (f j : Int))) := fun j hj => by
    have := hcv j hj; rw [pl_at f hj] at this; exact this
  have HP : Hid (Pm n f) := P
  clear hcv P
  go_enter Tryz.func17, Tryz.ntmps17
  go_wp2_with (first
    | (go_at_call 52; refine C.mono ?_; rintro e w0 ⟨rfl, hb0⟩)
    | (at_make; refine wpList_make_full _ rfl _ _ 29 rfl w0.heap.size 3 i3 (.int .i64 0) 1 und22 hi hz0 hz1 .i64 .i64 (n : Int) (n : Int) n rfl rfl rfl rfl ?c1 ?c2 (Nat.le_refl _) ?_))
  case c1 => rw [hz2]; omega
  case c2 => unfold maxLen; omega
  intro w1 how1 hgr1
  have hO1 := own_made' how1
  have hb1 : Below w0.heap.size w0 w1 := ⟨hgr1.os, hgr1.tape, hgr1.output, hgr1.size, fun k hk => hgr1.block k hk (by simp)⟩
  clear how1 hgr1
  have hb2 := Below.next hb0 hb1
  have hsz := hb0.size
  go_wp2
  go_loopw [18] (fun i wr => ∃ (k : Nat) (h : Nat → Int), i = .int .i64 k ∧ k ≤ n ∧ Own wr w0.heap.size n h ∧ Hid (∀ t, t < k → h (f t) = (t : Int)) ∧ Below w.heap.size w wr) (fun i _ => (n - intOf i).toNat)
  case atStart => exact ⟨0, _, rfl, by omega, hO1, (fun t ht => by omega : ∀ t, t < 0 → _), hb2⟩
  case round =>
    clear hO1 hb1 hb2 hb0
    obtain ⟨k, h, rfl, hk, hO, HH, hb⟩ := hrel
    by_cases hlt : k < n
    · have hki : (k : Int) < n := by omega
      have hfk := HP.out.lt k hlt
      obtain ⟨x, Hx⟩ : ∃ x, Hid (f k = x) := ⟨_, rfl⟩
      obtain ⟨B, off, rfl, hc1⟩ := HV.out k hlt
      rw [Hx.out] at hc1 hfk
      have hxi : (x : Int) < n := by omega
      have hc1w := (hb.cell (p := ⟨B, off + k, none⟩) (by simpa using block_lt_of_cell hc1)).trans hc1
      have hcell := hO.cell x hfk
      have hfr := hO.frozen x
      go_wp2
      go_roundw
      case rel =>
        refine ⟨k + 1, upd h x k, by go_num, by omega, hO.set x k, ?_, hb.setCell (p := ⟨w0.heap.size, x, none⟩) (by simpa using hsz) _⟩
        rw [← Hx.out]
        exact undo_step HP.out hlt HH.out
      case measure => simp [intOf]; omega
    · obtain rfl : k = n := by omega
      have hkd : decide ((k : Int) < (k : Int)) = false := by simp
      go_wp2
      exact bodyPost_ret (v := .tuple #[.slice (some ⟨w0.heap.size, 0, none⟩) k k, .int .i64 0]) (by simp [results, Tryz.results17, go_sem]) rfl ⟨_, rfl, hO.pl _ (HP.out.iv_of HH.out), hb⟩

/-- What is wrong with two. -/
def p2F (l m : List Int) : Int := if pF l ≠ 0 then pF l else if pF m ≠ 0 then pF m else if l.length ≠ m.length then 2 else 0
theorem p2F_pl {n : Nat} {f g : Nat → Nat} (P : Pm n f) (Q : Pm n g) (hn : n ≤ 12) : p2F (pl n f) (pl n g) = 0 := by
  unfold p2F
  rw [pF_pl P hn, pF_pl Q hn]; simp

set_option maxRecDepth 100000 in
set_option maxHeartbeats 400000 in
theorem checkBoth_any (l m : List Int) (v u : Value) (w : World) (hl : Sl w v l) (hm : Sl w u m) (hll : l.length ≤ maxLen) (hml : m.length ≤ maxLen) :
    Calls Tryz.prog 53 #[v, u] w fun e w' => e = .returned (.int .i64 (p2F l m)) ∧ Below w.heap.size w w' := by
  have C1 := Check_any l v w hl hll
  have C2 := fun w1 (hb : Below w.heap.size w w1) => Check_any m u w1 (hm.below hb) hml
  obtain ⟨z, Hz⟩ : ∃ z : Int, Hid (p2F l m = z) := ⟨_, rfl⟩
  obtain ⟨x, Hx⟩ : ∃ x : Int, Hid (pF l = x) := ⟨_, rfl⟩
  obtain ⟨y, Hy⟩ : ∃ y : Int, Hid (pF m = y) := ⟨_, rfl⟩
  rw [Hx.out] at C1
  rw [Hy.out] at C2
  rw [Hz.out]
  obtain ⟨a, ca, rfl, _⟩ := hl
  obtain ⟨b, cb, rfl, _⟩ := hm
  have HZ : Hid (z = if x ≠ 0 then x else if y ≠ 0 then y else if l.length ≠ m.length then 2 else 0) := by
    show z = _
    rw [← Hz.out, ← Hx.out, ← Hy.out]; rfl
  by_cases hx : x = 0
  · have hdx : (x != 0) = false := by simpa using hx
    by_cases hy : y = 0
    · have hdy : (y != 0) = false := by simpa using hy
      by_cases hlm : l.length = m.length
      · have hd : ((l.length : Int) != (m.length : Int)) = false := by simp; exact_mod_cast hlm
        have hz : z = 0 := by rw [HZ.out, if_neg (by simpa using hx), if_neg (by simpa using hy), if_neg (by simpa using hlm)]
        subst hz
        clear hlm
        go_enter Tryz.func53, Tryz.ntmps53
        go_wp2_with (first
          | (go_at_call 52; refine C1.mono ?_; rintro e w1 ⟨rfl, hb⟩; clear C1)
          | (go_at_call 52; refine (C2 _ hb).mono ?_; rintro e w2 ⟨rfl, hb2⟩))
        go_ret
        exact ⟨rfl, Below.next hb hb2⟩
      · have hd : ((l.length : Int) != (m.length : Int)) = true := by simp; omega
        have hz : z = 2 := by rw [HZ.out, if_neg (by simpa using hx), if_neg (by simpa using hy), if_pos (by simpa using hlm)]
        subst hz
        clear hlm
        go_enter Tryz.func53, Tryz.ntmps53
        go_wp2_with (first
          | (go_at_call 52; refine C1.mono ?_; rintro e w1 ⟨rfl, hb⟩; clear C1)
          | (go_at_call 52; refine (C2 _ hb).mono ?_; rintro e w2 ⟨rfl, hb2⟩))
        go_ret
        exact ⟨rfl, Below.next hb hb2⟩
    · have hdy : (y != 0) = true := by simpa using hy
      have hz : z = y := by rw [HZ.out, if_neg (by simpa using hx), if_pos hy]
      subst hz
      go_enter Tryz.func53, Tryz.ntmps53
      go_wp2_with (first
        | (go_at_call 52; refine C1.mono ?_; rintro e w1 ⟨rfl, hb⟩; clear C1)
        | (go_at_call 52; refine (C2 _ hb).mono ?_; rintro e w2 ⟨rfl, hb2⟩))
      go_ret
      exact ⟨rfl, Below.next hb hb2⟩
  · have hdx : (x != 0) = true := by simpa using hx
    have hz : z = x := by rw [HZ.out, if_pos hx]
    subst hz
    go_enter Tryz.func53, Tryz.ntmps53
    go_wp2_with (first
      | (go_at_call 52; refine C1.mono ?_; rintro e w1 ⟨rfl, hb⟩; clear C1))
    go_ret
    exact ⟨rfl, hb⟩

set_option maxRecDepth 100000 in
set_option maxHeartbeats 400000 in
theorem Compose_ok (n : Nat) (f g : Nat → Nat) (v u : Value) (w : World) (hn : n ≤ 12) (hv : Sl w v (pl n f)) (hu : Sl w u (pl n g)) (P : Pm n f) (Q : Pm n g) :
    Calls Tryz.prog 18 #[v, u] w fun e w' => ∃ x, e = .returned (.tuple #[x, .int .i64 0]) ∧ Sl w' x (pl n fun i => g (f i)) ∧ Below w.heap.size w w' := by
  obtain ⟨i3, hi, hz0, hz1, hz2⟩ := info3
  have C := checkBoth_any _ _ v u w hv hu (by rw [pl_len]; unfold maxLen; omega) (by rw [pl_len]; unfold maxLen; omega)
  rw [p2F_pl P Q hn] at C
  obtain ⟨a, ca, rfl, hcv⟩ := hv
  obtain ⟨b, cb, rfl, hcu⟩ := hu
  rw [pl_len] at hcv hcu C ⊢
  rw [pl_len] at C ⊢
  have HV : Hid (∀ j, j < n → ∃ B off, a = some ⟨B, off, none⟩ ∧ w.cell? ⟨B, off + j, none⟩ = some (.int .i64 (f j : Int))) := fun j hj => by
    have := hcv j hj; rw [pl_at f hj] at this; exact this
  have HU : Hid (∀ j, j < n → ∃ B off, b = some ⟨B, off, none⟩ ∧ w.cell? ⟨B, off + j, none⟩ = some (.int .i64 (g j : Int))) := fun j hj => by
    have := hcu j hj; rw [pl_at g hj] at this; exact this
  have HF : Hid (∀ i, i < n → f i < n) := P.lt
  clear hcv hcu P Q
  go_enter Tryz.func18, Tryz.ntmps18
  go_wp2_with (first
    | (go_at_call 53; refine C.mono ?_; rintro e w0 ⟨rfl, hb0⟩)
    | (at_make; refine wpList_make_full _ rfl _ _ 29 rfl w0.heap.size 3 i3 (.int .i64 0) 1 und22 hi hz0 hz1 .i64 .i64 (n : Int) (n : Int) n rfl rfl rfl rfl ?c1 ?c2 (Nat.le_refl _) ?_))
  case c1 => rw [hz2]; omega
  case c2 => unfold maxLen; omega
  intro w1 how1 hgr1
  have hO1 := own_made' how1
  have hb1 : Below w0.heap.size w0 w1 := ⟨hgr1.os, hgr1.tape, hgr1.output, hgr1.size, fun k hk => hgr1.block k hk (by simp)⟩
  clear how1 hgr1
  have hb2 := Below.next hb0 hb1
  have hsz := hb0.size
  go_wp2
  go_loopw [21] (fun i wr => ∃ (k : Nat) (h : Nat → Int), i = .int .i64 k ∧ k ≤ n ∧ Own wr w0.heap.size n h ∧ Hid (∀ t, t < k → h t = (g (f t) : Int)) ∧ Below w.heap.size w wr) (fun i _ => (n - intOf i).toNat)
  case atStart => exact ⟨0, _, rfl, by omega, hO1, (fun t ht => by omega : ∀ t, t < 0 → _), hb2⟩
  case round =>
    clear hO1 hb1 hb2 hb0
    obtain ⟨k, h, rfl, hk, hO, HH, hb⟩ := hrel
    by_cases hlt : k < n
    · have hki : (k : Int) < n := by omega
      have hfk := HF.out k hlt
      obtain ⟨x, Hx⟩ : ∃ x, Hid (f k = x) := ⟨_, rfl⟩
      obtain ⟨y, Hy⟩ : ∃ y, Hid (g x = y) := ⟨_, rfl⟩
      obtain ⟨B, off, rfl, hc1⟩ := HV.out k hlt
      rw [Hx.out] at hc1 hfk
      obtain ⟨B', off', rfl, hc2⟩ := HU.out x hfk
      rw [Hy.out] at hc2
      have hxi : (x : Int) < n := by omega
      have hc1w := (hb.cell (p := ⟨B, off + k, none⟩) (by simpa using block_lt_of_cell hc1)).trans hc1
      have hc2w := (hb.cell (p := ⟨B', off' + x, none⟩) (by simpa using block_lt_of_cell hc2)).trans hc2
      have hcell := hO.cell k hlt
      have hfr := hO.frozen k
      go_wp2
      go_roundw
      case rel =>
        refine ⟨k + 1, upd h k y, by go_num, by omega, hO.set k y, (fun t ht => ?_ : ∀ t, t < k + 1 → _), hb.setCell (p := ⟨w0.heap.size, k, none⟩) (by simpa using hsz) _⟩
        unfold upd
        by_cases e : t = k
        · subst e; rw [if_pos rfl, Hx.out, Hy.out]
        · rw [if_neg e]; exact HH.out t (by omega)
      case measure => simp [intOf]; omega
    · obtain rfl : k = n := by omega
      have hkd : decide ((k : Int) < (k : Int)) = false := by simp
      go_wp2
      exact bodyPost_ret (v := .tuple #[.slice (some ⟨w0.heap.size, 0, none⟩) k k, .int .i64 0]) (by simp [results, Tryz.results18, go_sem]) rfl ⟨_, rfl, hO.pl _ (fun j hj => HH.out j hj), hb⟩

end Go.Proofs.YtgpkhfpejopacabGreatDoor.Gc

/- The walks of divisor, order, sign. -/
namespace Go.Proofs.YtgpkhfpejopacabGreatDoor.Gc
open Go.RowKit

end Go.Proofs.YtgpkhfpejopacabGreatDoor.Gc

namespace Go.Proofs.YtgpkhfpejopacabGreatDoor.Gc
open Go.RowKit

set_option maxRecDepth 100000 in
theorem part3 (f : Nat → Int) (i : Nat) (h : i < 13) (w : World) : (part 3 (krow f) (i * Tryz.prog.cellsOf 3)).run Tryz.prog w = .ok (.int .i64 (f i)) w := by
  have h1 : Tryz.prog.cellsOf 3 = 1 := by kernel_rfl
  have h2 : (isAgg 3).run Tryz.prog w = .ok false w := by kernel_rfl
  unfold part
  rw [h1, Nat.mul_one]
  simp only [Sem.run_bind, h2, Result.andThen_ok, Bool.false_eq_true, if_false, krow_at f i h]
  rfl
set_option maxRecDepth 100000 in
theorem eqItems3 (f g : Nat → Int) (w : World) : ∀ is : List Nat, (∀ i ∈ is, i < 13) → (Op.eqItems 9999 3 (Tryz.prog.cellsOf 3) (krow f) (krow g) is).run Tryz.prog w = .ok (is.all fun i => f i == g i) w
  | [], _ => rfl
  | i :: is, h => by
    have h3 := run_equalIn_int w 9998 3 .i64 .i64 (f i) (g i) und3
    unfold Op.eqItems
    simp only [Sem.run_bind, part3 f i (h i (by simp)), part3 g i (h i (by simp)), Result.andThen_ok]
    rw [show (9999 : Nat) = 9998 + 1 from rfl, h3]
    simp only [Result.andThen_ok, List.all_cons]
    cases hb : f i == g i with
    | false => rfl
    | true => exact eqItems3 f g w is (fun j hj => h j (by simp [hj]))
set_option maxRecDepth 100000 in
theorem eq46 (f g : Nat → Int) (w : World) : (Op.equalIn 10000 101 (.agg (krow f)) (.agg (krow g))).run Tryz.prog w = .ok ((List.range 13).all fun i => f i == g i) w := by
  obtain ⟨i3, hi, _⟩ := info3
  rw [show (10000 : Nat) = 9999 + 1 from rfl, run_equalIn_array w 9999 (krow f) (krow g) und46 hi]
  exact eqItems3 f g w _ (fun i hi => List.mem_range.1 hi)
theorem kn_zero {n : Nat} {f : Nat → Nat} (P : Pm n f) : (lens n f).count 0 = 0 := by
  rw [List.count_eq_zero]
  intro h
  have := P.lens_mem h
  omega
theorem Pm.ord {n : Nat} {f : Nat → Nat} (P : Pm n f) (hn : n ≤ 12) {o : Nat} (h1 : o ∣ 27720) (h2 : ∀ N, o ∣ N ↔ ∀ L, L < 13 → 0 < (lens n f).count L → L ∣ N) : OrdIs n f o := by
  refine ⟨Nat.pos_of_dvd_of_pos h1 (by omega), fun N => ?_⟩
  rw [h2, ← P.all_dvd]
  constructor
  · intro h L hL
    have := P.lens_mem hL
    exact h L (by omega) (List.count_pos_iff.2 hL)
  · intro h L _ hc
    exact h L (List.count_pos_iff.1 hc)

/-- As many cycles of each length. -/
noncomputable def alikeB (n : Nat) (f g : Nat → Nat) : Bool := (List.range 13).all fun i => ((lens n f).count i : Int) == ((lens n g).count i : Int)
theorem alikeB_iff {n : Nat} {f g : Nat → Nat} : alikeB n f g = true ↔ ∀ L, L < 13 → (lens n f).count L = (lens n g).count L := by
  unfold alikeB
  rw [List.all_eq_true]
  constructor
  · intro h L hL
    have := h L (List.mem_range.2 hL)
    simp only [beq_iff_eq] at this
    omega
  · intro h L hL
    rw [h L (List.mem_range.1 hL)]; simp
set_option maxRecDepth 100000 in
theorem Alike_ok (n : Nat) (f g : Nat → Nat) (v u : Value) (w : World) (hn : n ≤ 12) (hv : Sl w v (pl n f)) (hu : Sl w u (pl n g)) (P : Pm n f) (Q : Pm n g) :
    Calls Tryz.prog 19 #[v, u] w fun e w' => e = .returned (.tuple #[.bool (alikeB n f g), .int .i64 0]) ∧ Below w.heap.size w w' := by
  have C := checkBoth_any _ _ v u w hv hu (by rw [pl_len]; unfold maxLen; omega) (by rw [pl_len]; unfold maxLen; omega)
  rw [p2F_pl P Q hn] at C
  have C2 := fun W (h : Below w.heap.size w W) => kindOf_any n f v W hn (hv.below h) P
  have C3 := fun W (h : Below w.heap.size w W) => kindOf_any n g u W hn (hu.below h) Q
  have hE := fun w => eq46 (fun L => ((lens n f).count L : Int)) (fun L => ((lens n g).count L : Int)) w
  obtain ⟨x, Hx⟩ : ∃ x, Hid (alikeB n f g = x) := ⟨_, rfl⟩
  rw [show ((List.range 13).all fun i => ((lens n f).count i : Int) == ((lens n g).count i : Int)) = x from Hx.out] at hE
  rw [Hx.out]
  obtain ⟨kf, Hkf⟩ : ∃ kf, Hid (krow (fun L => ((lens n f).count L : Int)) = kf) := ⟨_, rfl⟩
  obtain ⟨kg, Hkg⟩ : ∃ kg, Hid (krow (fun L => ((lens n g).count L : Int)) = kg) := ⟨_, rfl⟩
  rw [Hkf.out] at C2 hE
  rw [Hkg.out] at C3 hE
  obtain ⟨a, ca, rfl, _⟩ := hv
  obtain ⟨b, cb, rfl, _⟩ := hu
  rw [pl_len] at C C2 C3 ⊢
  rw [pl_len] at C ⊢
  have hG : Tryz.prog.eqGuardType Tryz.prog.depth 101 = false := by kernel_rfl
  go_enter Tryz.func19, Tryz.ntmps19
  go_wp2_with (first
    | (go_at_call 53; refine C.mono ?_; rintro e w1 ⟨rfl, hb1⟩)
    | (go_at_call 54; refine (C2 _ hb1).mono ?_; rintro e w2 ⟨rfl, hb2⟩; clear C2)
    | (go_at_call 54; refine (C3 _ (Below.next hb1 hb2)).mono ?_; rintro e w3 ⟨rfl, hb3⟩))
  exact bodyPost_ret (v := .tuple #[.bool x, .int .i64 0]) (by simp [results, Tryz.results19, go_sem]) rfl ⟨rfl, Below.next (Below.next hb1 hb2) hb3⟩

end Go.Proofs.YtgpkhfpejopacabGreatDoor.Gc
