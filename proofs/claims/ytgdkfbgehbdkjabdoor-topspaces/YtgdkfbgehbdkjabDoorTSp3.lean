/- The law TopSpaces. -/
import Derived.Test.YtgdkfbgehbdkjabDoorYB6
import Derived.Deep.RegionHeld3
import Derived.Test.YtgdkfbgehbdkjabDoorSpB
import Derived.Test.YtgdkfbgehbdkjabDoorTSp0
import Derived.Test.YtgdkfbgehbdkjabDoorDLi
import Derived.Test.YtgdkfbgehbdkjabDoorK3
import Derived.Test.YtgdkfbgehbdkjabDoorS12
import Derived.Test.YtgdkfbgehbdkjabDoorDPart
import Derived.Test.YtgdkfbgehbdkjabDoorC3
import Derived.Test.YtgdkfbgehbdkjabDoorTSf
/- What TopSpaces keeps. -/
/- The document's Open, Shut, lead and added, walked. -/
/- The document's RoomFault, RowFault and RowsFault, walked. -/
/- The walks of has, Basis, Normal, Join, Meet and Has. -/
namespace Go.Proofs.YtgdkfbgehbdkjabDoor
open Go.RowKit

theorem ls_one {w : World} {x : Value} {rs : List (List Int)} (h : Rw w x rs) (h1 : rs.length ≤ maxLen) (h2 : ∀ r ∈ rs, r.length ≤ maxLen) : LsR (w.alloc (.cells #[x] 31)) (.slice (some ⟨w.heap.size, 0, none⟩) 1 1) [x] [rs] := by
  refine ⟨w.heap.size, 1, rfl, rfl, fun i y ss hy hs => ?_⟩
  have hi : i = 0 := by have := (List.getElem?_eq_some_iff.1 hy).1; simpa using this
  subst hi
  simp only [List.getElem?_cons_zero, Option.some.injEq] at hy hs
  subst hy hs
  exact ⟨by rw [cell_of_row _ _ _ _ _ _ (heap_alloc_new w _)]; rfl, h.below (balloc w _), h1, h2⟩
theorem ls_two {w : World} {x y : Value} {rs ss : List (List Int)} (h : Rw w x rs) (h1 : rs.length ≤ maxLen) (h2 : ∀ r ∈ rs, r.length ≤ maxLen) (k : Rw w y ss) (k1 : ss.length ≤ maxLen) (k2 : ∀ r ∈ ss, r.length ≤ maxLen) : LsR (w.alloc (.cells #[x, y] 31)) (.slice (some ⟨w.heap.size, 0, none⟩) 2 2) [x, y] [rs, ss] := by
  refine ⟨w.heap.size, 2, rfl, rfl, fun i z ts hz ht => ?_⟩
  have hi : i < 2 := by have := (List.getElem?_eq_some_iff.1 hz).1; simpa using this
  have hn := heap_alloc_new w (.cells #[x, y] 31)
  match i, hi with
  | 0, _ =>
    simp only [List.getElem?_cons_zero, Option.some.injEq] at hz ht
    subst hz ht
    exact ⟨by rw [cell_of_row _ _ _ _ _ _ hn]; rfl, h.below (balloc w _), h1, h2⟩
  | 1, _ =>
    simp only [List.getElem?_cons_succ, List.getElem?_cons_zero, Option.some.injEq] at hz ht
    subst hz ht
    exact ⟨by rw [cell_of_row _ _ _ _ _ _ hn]; rfl, k.below (balloc w _), k1, k2⟩
theorem toZ_app (A B : List (List Nat)) : [toZ A, toZ B].flatten = toZ (A ++ B) := by simp [toZ]
theorem toZ_max {q n : Nat} {A : List (List Nat)} (h : Rws q n A) (hn : n ≤ 6) : ∀ r ∈ toZ A, r.length ≤ maxLen := fun r hr => by
  obtain ⟨s, hs, rfl⟩ := List.mem_map.1 hr
  rw [List.length_map, (h s hs).len]
  unfold maxLen; omega
theorem len_max {m : Nat} (h : m ≤ 99) : m ≤ maxLen := by unfold maxLen; omega
theorem sl_rw {w : World} {x : Value} {r : List Int} (h : Sl w x r) : Rw (w.alloc (.cells #[x] 22)) (.slice (some ⟨w.heap.size, 0, none⟩) 1 1) [r] := by
  refine ⟨_, 1, rfl, fun i l hl => ?_⟩
  have hi : i = 0 := by have := (List.getElem?_eq_some_iff.1 hl).1; simpa using this
  subst hi
  simp only [List.getElem?_cons_zero, Option.some.injEq] at hl
  subst hl
  exact ⟨w.heap.size, 0, x, rfl, by rw [cell_of_row _ _ _ _ _ _ (heap_alloc_new w _)]; rfl, h.below (balloc w _)⟩
theorem rw_formS {w : World} {x : Value} {A : List (List Nat)} (h : Rw w x (toZ A)) : ∃ a c, x = .slice a A.length c := by
  obtain ⟨a, c, e, _⟩ := h
  rw [toZ_len] at e
  exact ⟨a, c, e⟩
theorem rw_formH {w : World} {x : Value} {A : List (List Nat)} (h : Rw w x (toZ A)) : ∃ a m c, x = .slice a m c ∧ Hid (A.length = m) := by
  obtain ⟨a, c, e⟩ := rw_formS h
  exact ⟨a, _, c, e, rfl⟩
end Go.Proofs.YtgdkfbgehbdkjabDoor

/- The walks of Basis, Normal, Join, Meet and Has. -/
namespace Go.Proofs.YtgdkfbgehbdkjabDoor
open Go.RowKit

/-- What open answers in each later world. -/
def OpC (p k n : Int) (v : Value) (vs : List Value) (rss : List (List (List Int))) (w : World) (z : Int) (rv : Value) : Prop := ∀ W u, Below w.heap.size w W → LsR W u vs rss → Calls Tryd.prog 31 #[.agg #[.int .i64 p, .int .i64 k, v], .int .i64 n, u] W fun e w' => OpA z rv e ∧ Below W.heap.size W w'
theorem opc_fault {p k n z : Int} {l : List Int} {v : Value} {w : World} (hT : Fd.Tab w) (hl : Fd.Sl w v l) (hll : l.length ≤ maxLen) (hz : Fd.FaultIs p k l z) (h0 : z ≠ 0) (vs : List Value) (rss : List (List (List Int))) (rv : Value) : OpC p k n v vs rss w z rv :=
  fun W u b _ => open_fault p k n z l v u rv W (hT.below b) (hl.below b) hll hz h0
theorem opc_far {P K : Nat} {n : Int} {l : List Int} {v : Value} {w : World} (hF : Fld P K l v w) (hn : ¬ (1 ≤ n ∧ n ≤ 6)) (vs : List Value) (rss : List (List (List Int))) (rv : Value) : OpC P K n v vs rss w 1 rv :=
  fun W u b _ => open_farS P K n l v u rv W (hF.below b) hn
theorem opc_full {P K n : Nat} {l : List Int} {v : Value} {w : World} (hF : Fld P K l v w) (h1 : 1 ≤ n) (h6 : n ≤ 6) (hf : 4096 < (P ^ K) ^ n) (vs : List Value) (rss : List (List (List Int))) (rv : Value) : OpC P K n v vs rss w 3 rv :=
  fun W u b _ => open_full P K n l v u rv W (hF.below b) h1 h6 hf
theorem opc_rows {P K n : Nat} {l : List Int} {v : Value} {w : World} (hF : Fld P K l v w) (h1 : 1 ≤ n) (h6 : n ≤ 6) (hf : (P ^ K) ^ n ≤ 4096) (vs : List Value) (rss : List (List (List Int))) (hm : rss.length ≤ 2) {z : Nat} (hz : lsE (P ^ K) n rss = z) : OpC P K n v vs rss w z (rmV P K v n) :=
  fun W u b hu => open_rows P K n l v u vs rss W (hF.below b) h1 h6 hf hu hm z hz
/-- Rows as they come. -/
structure RwC (w : World) (u : Value) (rs : List (List Int)) : Prop where
  rw : Rw w u rs
  len : rs.length ≤ maxLen
  all : ∀ r ∈ rs, r.length ≤ maxLen
theorem RwC.below {w w' : World} {u : Value} {rs : List (List Int)} (h : RwC w u rs) (b : Below w.heap.size w w') : RwC w' u rs := ⟨h.rw.below b, h.len, h.all⟩
theorem RwC.form {w : World} {u : Value} {rs : List (List Int)} (h : RwC w u rs) : ∃ a m c, u = .slice a m c ∧ Hid (rs.length = m) := by
  obtain ⟨a, c, e, _⟩ := h.rw
  exact ⟨a, _, c, e, rfl⟩
theorem rm_inj {rp rk rn p k n : Int} {ra fa : Option Addr} {rm rc fn fc : Nat} (h : Value.agg #[.int .i64 rp, .int .i64 rk, .slice ra rm rc, .int .i64 rn] = Value.agg #[.int .i64 p, .int .i64 k, .slice fa fn fc, .int .i64 n]) : rp = p ∧ rk = k ∧ (ra = fa ∧ rm = fn ∧ rc = fc) ∧ rn = n := by
  simpa using h
/-- A basis, and no error. -/
def BaR (m q : Nat) (ad mu : Nat → Nat → Nat) (n : Nat) (V : List Nat → Prop) (e : Ending) (w' : World) : Prop := ∃ x ls, e = .returned (.tuple #[x, .int .i64 0]) ∧ BasIs q ad mu n V ls ∧ ls.length ≤ m ∧ RwT w' x ls
set_option maxRecDepth 100000 in
set_option maxHeartbeats 16000000 in
theorem Basis_ok (P K n : Nat) (l : List Int) (v u : Value) (A : List (List Nat)) (w : World) (hF : Fld P K l v w) (hu : Rw w u (toZ A)) (hA : Rws (P ^ K) n A) (hAl : A.length ≤ 12) (h1 : 1 ≤ n) (hn : n ≤ 6) (hO : OpC P K n v [u] [toZ A] w 0 (rmV P K v n)) :
    Calls Tryd.prog 14 #[.agg #[.int .i64 (P : Int), .int .i64 (K : Int), v], .int .i64 (n : Int), u] w fun e w' => BaR A.length (P ^ K) (adF P K) (muF P K l) n (Spn (P ^ K) (adF P K) (muF P K l) n A) e w' ∧ Below w.heap.size w w' := by
  have hfq := hF.fqr
  have HBas : Hid (∀ (W : World) (y : Value) (Y : List (List Nat)), Below w.heap.size w W → Rw W y (toZ Y) → Rws (P ^ K) n Y → Y.length ≤ 24 → Calls Tryd.prog 32 #[rmV P K v n, y] W fun e w' => BaA (P ^ K) (adF P K) (muF P K l) n Y e w' ∧ Below W.heap.size W w') := fun W y Y b hy hY hl => basis_any P K n l v y Y W (hF.below b) hy hY h1 hn hl
  have HA : Hid (Rws (P ^ K) n A) := hA
  obtain ⟨fa, fn, fc, rfl⟩ : ∃ fa fn fc, v = .slice fa fn fc := by obtain ⟨a, c, e, _⟩ := hF.sl; exact ⟨a, _, c, e⟩
  have b1 := balloc w (.cells #[.int .i64 (P : Int), .int .i64 (K : Int), .slice fa fn fc] 24)
  obtain ⟨x0, x1, x2⟩ := fl_box (P : Int) (K : Int) (.slice fa fn fc) w _ (Below.refl _ _)
  have hL := ls_one (hu.below b1) (by rw [toZ_len]; exact len_max (by omega)) (toZ_max hA hn)
  have b2 := Below.next b1 (balloc (w.alloc (.cells #[.int .i64 (P : Int), .int .i64 (K : Int), .slice fa fn fc] 24)) (.cells #[u] 31))
  have hs1 : (w.alloc (.cells #[.int .i64 (P : Int), .int .i64 (K : Int), .slice fa fn fc] 24)).heap.size = w.heap.size + 1 := by simp
  rw [hs1] at hL
  have C := hO _ _ b2 hL
  have Hu : Hid (∀ W, Below w.heap.size w W → Rw W u (toZ A)) := fun W b => hu.below b
  obtain ⟨ua, um, uc, rfl, Hum⟩ := rw_formH hu
  obtain ⟨W1, HW1⟩ : ∃ W1, Hid ((w.alloc (.cells #[.int .i64 (P : Int), .int .i64 (K : Int), .slice fa fn fc] 24)).alloc (.cells #[.slice ua um uc] 31) = W1) := ⟨_, rfl⟩
  rw [HW1.out] at b2 C
  clear hL hO hfq hF hu
  go_enter Tryd.func14, Tryd.ntmps14
  go_wp2_with (first
    | (go_at_call 31; rw [HW1.out]; refine C.mono ?_; rintro e w1 ⟨⟨rp, rk, rn, ra, rm, rc, rfl, hrv⟩, b3⟩; obtain ⟨rfl, rfl, ⟨rfl, rfl, rfl⟩, rfl⟩ : rp = (P : Int) ∧ rk = (K : Int) ∧ (ra = fa ∧ rm = fn ∧ rc = fc) ∧ rn = (n : Int) := rm_inj (hrv rfl); have r2 : RmB (w1.alloc (.cells #[.int .i64 (P : Int), .int .i64 (K : Int), .slice ra rm rc, .int .i64 (n : Int)] 74)) w1.heap.size (P : Int) (K : Int) (.slice ra rm rc) (n : Int) := heap_alloc_new w1 _; have b5 : Below w.heap.size w (w1.alloc (.cells #[.int .i64 (P : Int), .int .i64 (K : Int), .slice ra rm rc, .int .i64 (n : Int)] 74)) := Below.next (Below.next b2 b3) (balloc w1 _); obtain ⟨c0, c1, c2, c3⟩ := r2.cells; clear C hrv)
    | (go_at_call 32; refine (HBas.out _ _ A b5 (Hu.out _ b5) HA.out (by omega)).mono ?_; rintro e w3 ⟨⟨y, Y, rfl, hY, hl, hy⟩, b6⟩))
  go_ret2
  exact ⟨⟨_, _, rfl, hY, hl, hy⟩, Below.next b5 b6⟩
theorem rwE_vc {q n : Nat} {r : List Nat} (h : Vc q n r) : rwE q n (r.map Int.ofNat) = 0 := rwE_in (by rw [List.length_map, h.len]) fun j hj => by
  have hj' : j < r.length := by simpa using hj
  have := h.lt _ (List.getElem_mem hj')
  simp [hj']
  omega
end Go.Proofs.YtgdkfbgehbdkjabDoor

/- What the program answers of any field, any number and any rows. -/
namespace Go.Proofs.YtgdkfbgehbdkjabDoor
open Go.RowKit

theorem rs_zero {q n : Nat} {S : List (List Nat)} (h : Rws q n S) (hl : S.length ≤ 12) : rsE q n (toZ S) = 0 := by
  unfold rsE
  rw [if_neg (by rw [toZ_len]; omega)]
  refine rlE_all fun j s hs => ?_
  obtain ⟨r, hr, rfl⟩ := List.mem_map.1 (List.mem_of_getElem? hs)
  exact rwE_vc (h r hr)
theorem lsE_one {q n : Nat} (rs : List (List Int)) : lsE q n [rs] = rsE q n rs := by
  unfold lsE
  split
  · rfl
  · rename_i h
    have : rsE q n rs = 0 := Classical.byContradiction fun k => h k
    rw [this]; rfl
/-- A basis of rows that are rows. -/
theorem Basis_yes {P K n : Nat} {l : List Int} {v : Value} {w : World} (hF : Fld P K l v w) (h1 : 1 ≤ n) (h6 : n ≤ 6) (hf : (P ^ K) ^ n ≤ 4096) {u : Value} {S : List (List Nat)} (hu : Rw w u (toZ S)) (hS : Rws (P ^ K) n S) (hl : S.length ≤ 12) :
    Calls Tryd.prog 14 #[.agg #[.int .i64 (P : Int), .int .i64 (K : Int), v], .int .i64 (n : Int), u] w fun e w' => BaR S.length (P ^ K) (adF P K) (muF P K l) n (Spn (P ^ K) (adF P K) (muF P K l) n S) e w' ∧ Below w.heap.size w w' := by
  have hO := opc_rows hF h1 h6 hf [u] [toZ S] (by simp) (lsE_one _)
  rw [rs_zero hS hl] at hO
  exact Basis_ok P K n l v u S w hF hu hS hl h1 h6 hO
end Go.Proofs.YtgdkfbgehbdkjabDoor

namespace Go.Proofs.YtgdkfbgehbdkjabDoor.Fd
open Go.RowKit
end Go.Proofs.YtgdkfbgehbdkjabDoor.Fd
namespace Go.Proofs.YtgdkfbgehbdkjabDoor
open Go.RowKit

theorem Fld.size {P K : Nat} {l : List Int} {v : Value} {w : World} (hF : Fld P K l v w) {q : Nat} (hq : Hid (P ^ K = q)) (W : World) : Calls Tryd.prog 11 #[.agg #[.int .i64 (P : Int), .int .i64 (K : Int), v]] W fun e w' => e = .returned (.int .i64 (q : Int)) ∧ Below W.heap.size W w' := by
  have h := Fd.size_any P K v W
  rw [hF.good.ord, hq.out] at h
  exact h
end Go.Proofs.YtgdkfbgehbdkjabDoor

namespace Go.Proofs.YtgdkfbgehbdkjabDoor
open Go.RowKit

theorem opn_at (q : Nat) : ∀ (n c i : Nat), i < n → (opn q n c).getD i 0 = c / q ^ (n - 1 - i) % q
  | 0, _, _, h => by omega
  | n + 1, c, i, h => by
    have hl := opn_len q n (c / q)
    rw [opn]
    by_cases e : i < n
    · have h1 : (opn q n (c / q) ++ [c % q]).getD i 0 = (opn q n (c / q)).getD i 0 := by
        simp [List.getD_eq_getElem?_getD, List.getElem?_append_left (show i < (opn q n (c / q)).length by omega)]
      rw [h1, opn_at q n (c / q) i e, Nat.div_div_eq_div_mul, show n + 1 - 1 - i = (n - 1 - i) + 1 by omega, Nat.pow_succ, Nat.mul_comm q]
    · obtain rfl : i = n := by omega
      have h1 : (opn q i (c / q) ++ [c % q]).getD i 0 = c % q := by
        simp [List.getD_eq_getElem?_getD, hl]
      rw [h1, show i + 1 - 1 - i = 0 by omega, Nat.pow_zero, Nat.div_one]
set_option maxRecDepth 100000 in
set_option maxHeartbeats 8000000 in
theorem Open_any (P K n c : Nat) (l : List Int) (v : Value) (w : World) (hF : Fld P K l v w) (hn : n ≤ 6) (hc : c < 4096) :
    Calls Tryd.prog 13 #[.agg #[.int .i64 (P : Int), .int .i64 (K : Int), v], .int .i64 (n : Int), .int .i64 (c : Int)] w fun e w' => ∃ g, e = .returned (.slice (some ⟨g, 0, none⟩) n n) ∧ w.heap.size ≤ g ∧ OwnN w' g n (fun i => (opn (P ^ K) n c).getD i 0) ∧ Below w.heap.size w w' := by
  have hbx := balloc w (.cells #[.int .i64 (P : Int), .int .i64 (K : Int), v] 24)
  have HX := fl_box (P : Int) (K : Int) v w
  obtain ⟨q, Hq⟩ : ∃ q, Hid (P ^ K = q) := ⟨_, rfl⟩
  have CS := fun W => hF.size Hq W
  have hq64 : q ≤ 64 := by rw [← Hq.out]; exact hF.good.le64
  have hq1 : 1 < q := by rw [← Hq.out]; exact hF.fqr.one
  rw [Hq.out]
  have CD := fun W => Fd.digits_any c q n W hc (by omega) hq64 (by omega)
  have hmk := run_makeN n (by omega)
  have HOp : Hid (∀ i, i < n → Fd.digF c q (n - 1 - i) = (((opn q n c).getD i 0 : Nat) : Int)) := fun i hi => by
    rw [opn_at q n c i hi]
    unfold Fd.digF
    rfl
  have HDg : Hid (∀ j, j < n → (Fd.digL c q n).getD j 0 = Fd.digF c q j) := fun j hj => Fd.digL_at _ _ _ _ hj
  have HDl : Hid ((Fd.digL c q n).length = n) := Fd.digL_length _ _ _
  obtain ⟨f, Hf⟩ : ∃ f : Nat → Nat, Hid (∀ i, (opn q n c).getD i 0 = f i) := ⟨fun i => (opn q n c).getD i 0, fun i => rfl⟩
  simp only [Hf.out] at HOp ⊢
  have HOL : Hid (∀ i, i < n → f i < q) := fun i _ => by rw [← Hf.out]; exact (opn_vc (by omega) n c).at (by omega) i
  obtain ⟨fa, fn, fc, rfl⟩ : ∃ fa fn fc, v = .slice fa fn fc := by obtain ⟨a, c, e, _⟩ := hF.sl; exact ⟨a, _, c, e⟩
  obtain ⟨x0, x1, x2⟩ := HX _ (Below.refl _ _)
  clear hF HX Hf
  go_enter Tryd.func13, Tryd.ntmps13
  go_wp2_with (first
    | (go_at_call 11; refine (CS _).mono ?_; rintro e w1 ⟨rfl, b1⟩; clear CS; have D := CD w1; clear CD)
    | (go_at_call 30; refine D.mono ?_; rintro e w2 ⟨dv, rfl, hd, b2⟩; clear D; have hds : Sl w2 dv (Fd.digL c q n) := Sl.owned (by rw [HDl.out]; exact hd); obtain ⟨da, dc, rfl⟩ : ∃ a c, dv = .slice a n c := (by obtain ⟨a, c, e, _⟩ := hds; rw [HDl.out] at e; exact ⟨a, c, e⟩)))
  have hB2 := Below.next (Below.next hbx b1) b2
  have b3 := balloc w2 (.cells (madeCells #[.int .i64 0] n) 3)
  have hm0 := own_new w2 n
  obtain ⟨w3, Hw3⟩ : ∃ w3, Hid (w2.alloc (.cells (madeCells #[.int .i64 0] n) 3) = w3) := ⟨_, rfl⟩
  rw [Hw3.out] at b3 hm0 ⊢
  have HDs : Hid (∀ j, j < n → ∃ b off, da = some ⟨b, off, none⟩ ∧ b < w2.heap.size ∧ ∀ W, Below w2.heap.size w2 W → W.cell? ⟨b, off + j, none⟩ = some (.int .i64 (Fd.digF c q j))) := fun j hj => by
    obtain ⟨a', c', e', h⟩ := hds
    obtain ⟨rfl, rfl⟩ : da = a' ∧ dc = c' := by
      simp only [Value.slice.injEq] at e'
      exact ⟨e'.1, e'.2.2⟩
    obtain ⟨b, off, e, hc⟩ := h j (by rw [HDl.out]; exact hj)
    rw [HDg.out j hj] at hc
    have hlt : b < w2.heap.size := by simpa using block_lt_of_cell hc
    exact ⟨b, off, e, hlt, fun W bW => (bW.cell (p := ⟨b, off + j, none⟩) hlt).trans hc⟩
  clear hds hd hmk
  go_loopw [10] (fun jv wr => ∃ j : Nat, jv = .int .i64 (j : Int) ∧ j ≤ n ∧ OwnN wr w2.heap.size n (fun i => if i < j then f i else 0) ∧ Below w2.heap.size w2 wr) (fun jv _ => (n - intOf jv).toNat)
  case atStart => exact ⟨0, rfl, by omega, hm0, b3⟩
  case round =>
    clear hm0 b3
    obtain ⟨j, rfl, hj, hm, hB⟩ := hrel
    by_cases hlt : j < n
    · have hji : (j : Int) < (n : Int) := by omega
      have hdj : decide ((j : Int) < (n : Int)) = true := by simp; omega
      obtain ⟨t, Ht⟩ : ∃ t, Hid (n - 1 - j = t) := ⟨_, rfl⟩
      have hti : (n : Int) - 1 - (j : Int) = (t : Int) := by have := Ht.out; omega
      have htn : t < n := by have := Ht.out; omega
      have htni : (t : Int) < (n : Int) := by omega
      obtain ⟨b, off, rfl, hbl, hcell⟩ := HDs.out t htn
      have c1 := hcell wr hB
      have e1 := HOp.out j hlt
      rw [Ht.out] at e1
      rw [e1] at c1
      have c2 := hm.cell hlt
      have f2 := hm.frozen j
      have hset := hm.set (f' := fun i => if i < j + 1 then f i else 0) j (f j) (fun i hi => by
        show (if i = j then f j else if i < j then f i else 0) = if i < j + 1 then f i else 0
        by_cases e : i = j
        · rw [if_pos e, if_pos (by omega), e]
        · rw [if_neg e]
          by_cases h : i < j
          · rw [if_pos h, if_pos (by omega)]
          · rw [if_neg h, if_neg (by omega)])
      have hB4 := hB.setCell (p := ⟨w2.heap.size, j, none⟩) (Nat.le_refl _) (.int .i64 (f j : Int))
      obtain ⟨x, Hx⟩ : ∃ x : Nat, Hid (f j = x) := ⟨_, rfl⟩
      obtain ⟨y, Hy⟩ : ∃ y : Nat, Hid ((if j < j then f j else 0) = y) := ⟨_, rfl⟩
      rw [Hx.out] at c1 hset hB4
      rw [Hy.out] at c2
      clear hm hcell e1 Hy
      go_wp2
      go_roundw
      case rel => exact ⟨j + 1, by go_num, by omega, hset, hB4⟩
      case measure => simp [intOf]; omega
    · have hdj : decide ((j : Int) < (n : Int)) = false := by simp; omega
      obtain rfl : n = j := by omega
      have HF : Hid (OwnN wr w2.heap.size n f) := by
        obtain ⟨cur, h1, h2, h3⟩ := hm
        exact ⟨cur, h1, h2, fun i hi => (h3 i hi).trans (by simp only [if_pos hi])⟩
      have hws := hB2.size
      have hBB := Below.next hB2 hB
      clear hm
      go_wp2
      go_ret
      exact ⟨_, rfl, hws, HF.out, hBB⟩
theorem shu_take {q : Nat} {r : List Nat} {i : Nat} (h : i < r.length) : shu q (r.take (i + 1)) = shu q (r.take i) * q + r.getD i 0 := by
  have : r.take (i + 1) = r.take i ++ [r.getD i 0] := by
    rw [List.take_add_one, List.getElem?_eq_getElem h, Option.toList_some, List.getD_eq_getElem?_getD, List.getElem?_eq_getElem h]
    rfl
  rw [this, shu_snoc]
end Go.Proofs.YtgdkfbgehbdkjabDoor

/- Lists of lists of rows; the walk of put. -/
namespace Go.Proofs.YtgdkfbgehbdkjabDoor
open Go.RowKit Go.Maps

set_option maxRecDepth 100000 in
theorem und42 : Tryd.prog.underlying 42 = some (.slice 31) := by kernel_rfl
set_option maxRecDepth 100000 in
theorem info31 : ∃ i, Tryd.prog.info? 31 = some i ∧ i.zero = some (.slice none 0 0) ∧ i.size = 1 ∧ i.bytes = 24 := by
  have h1 : (Tryd.prog.info? 31).map (·.zero) = some (some (.slice none 0 0)) := by kernel_rfl
  have h2 : (Tryd.prog.info? 31).map (·.size) = some 1 := by kernel_rfl
  have h3 : (Tryd.prog.info? 31).map (·.bytes) = some 24 := by kernel_rfl
  cases h : Tryd.prog.info? 31 with
  | none => rw [h] at h1; cases h1
  | some i =>
    rw [h] at h1 h2 h3
    exact ⟨i, rfl, by simpa using h1, by simpa using h2, by simpa using h3⟩
theorem K31.grown {w w' : World} {row : Option Nat} (hg : w.grownBy w' row) (h : ∀ g, row = some g → ∃ c, w.heap[g]? = some (.cells c 31 (0, 0))) : K31 w w' := fun b c k e n => by
  refine hg.block b (Array.getElem?_eq_some_iff.1 e).1 fun hr => ?_
  obtain ⟨c', h'⟩ := h b hr.symm
  rw [e] at h'
  simp at h'
  exact n h'.2
/-- A list of lists of rows of one's own. -/
structure L3 (w : World) (base : Nat) (v : Value) (us : List Value) (Ls : List (List (List Nat))) : Prop where
  own : w.ownsRow base 31 1 v Ls.length us
  rd : ∀ (i : Nat) x ls, us[i]? = some x → Ls[i]? = some ls → RwT w x ls
theorem L3.nil (w : World) (base : Nat) : L3 w base (.slice none 0 0) [] [] := ⟨World.ownsRow_nil w base 31 1, fun i x ls h => by simp at h⟩
theorem L3.typ {w : World} {base : Nat} {v : Value} {us : List Value} {Ls : List (List (List Nat))} (h : L3 w base v us Ls) : ∀ g, v.ownBlock = some g → ∃ c, w.heap[g]? = some (.cells c 31 (0, 0)) := fun g hg => by
  rcases h.own.2 with ⟨rfl, _⟩ | ⟨g', cap, cur, rfl, _, hc, _⟩
  · cases hg
  · obtain rfl : g' = g := by simpa [Value.ownBlock] using hg
    exact ⟨cur, hc⟩
theorem L3.grown {w w' : World} {base : Nat} {v : Value} {us : List Value} {Ls : List (List (List Nat))} {row : Option Nat} (h : L3 w base v us Ls) (hg : w.grownBy w' row) (hk : K31 w w') (hne : v.ownBlock = none ∨ v.ownBlock ≠ row) : L3 w' base v us Ls :=
  ⟨h.own.kept hg hne, fun i x ls h1 h2 => (h.rd i x ls h1 h2).k31 hk⟩
theorem L3.below {w w' : World} {base : Nat} {v : Value} {us : List Value} {Ls : List (List (List Nat))} (h : L3 w base v us Ls) (b : Below w.heap.size w w') : L3 w' base v us Ls :=
  h.grown (grown_of_belowF b) (K31.of b) (by cases v.ownBlock <;> simp)
/-- Few rows, and short ones. -/
def Smm (ls : List (List Nat)) : Prop := ls.length ≤ 6 ∧ ∀ r ∈ ls, r.length ≤ 6
theorem Smm.max {ls : List (List Nat)} (h : Smm ls) : (toZ ls).length ≤ maxLen ∧ ∀ l ∈ toZ ls, l.length ≤ maxLen := by
  unfold maxLen
  refine ⟨by rw [toZ_len]; have := h.1; omega, fun l hl => ?_⟩
  obtain ⟨r, hr, rfl⟩ := List.mem_map.1 hl
  rw [List.length_map]
  have := h.2 r hr
  omega
theorem toZ_inj {A B : List (List Nat)} (h : toZ A = toZ B) : A = B := by
  unfold toZ at h
  refine List.map_inj_right (fun a b hab => ?_) |>.1 h
  exact List.map_inj_right (fun x y hxy => Int.ofNat.inj hxy) |>.1 hab
theorem cell_new1 (w : World) (u : Value) (t : TypeId) : ∀ j v, [u][j]? = some v → (w.alloc (.cells #[u] t)).cell? ((⟨w.heap.size, 0, none⟩ : Addr).add j) = some v :=
  World.news_of_block (cs := #[u]) (heap_alloc_new w (.cells #[u] t))
/-- What put answers. -/
def PuA (w : World) (base : Nat) (v : Value) (Ls : List (List (List Nat))) (b : List (List Nat)) (e : Ending) (w' : World) : Prop := ∃ va n vc us', e = .returned (.slice va n vc) ∧ L3 w' base (.slice va n vc) us' (putL Ls b) ∧ w.grownBy w' v.ownBlock ∧ ((Value.slice va n vc).ownBlock = v.ownBlock ∨ ∃ g, (Value.slice va n vc).ownBlock = some g ∧ w.heap.size ≤ g)
set_option maxRecDepth 100000 in
set_option maxHeartbeats 16000000 in
theorem put_any (v x : Value) (us : List Value) (Ls : List (List (List Nat))) (b : List (List Nat)) (base : Nat) (w : World) (hL : L3 w base v us Ls) (hbs : base ≤ w.heap.size) (hx : RwT w x b) (hn : Ls.length ≤ 1000) (hs : ∀ ls ∈ Ls, Smm ls) (hb : Smm b) :
    Calls Tryd.prog 15 #[v, x] w fun e w' => PuA w base v Ls b e w' := by
  obtain ⟨n, Hn⟩ : ∃ n, Hid (Ls.length = n) := ⟨_, rfl⟩
  have hul : us.length = n := by have := hL.own.1; rw [Nat.mul_one] at this; exact this.trans Hn.out
  obtain ⟨va, vc, rfl⟩ : ∃ va vc, v = .slice va n vc := by
    rcases hL.own.2 with ⟨rfl, h0⟩ | ⟨g, cap, cur, rfl, _⟩
    · exact ⟨none, 0, by rw [← Hn.out, h0]⟩
    · exact ⟨_, cap, by rw [Hn.out]⟩
  obtain ⟨xa, xn, xc, rfl⟩ : ∃ xa xn xc, x = .slice xa xn xc := by obtain ⟨a, c, e, _⟩ := hx.rw; exact ⟨a, _, c, e⟩
  have HAt : Hid (∀ i, i < n → ∃ g u ls, va = some ⟨g, 0, none⟩ ∧ us[i]? = some u ∧ Ls[i]? = some ls ∧ ∀ W, Below w.heap.size w W → W.cell? ⟨g, i, none⟩ = some u) := fun i hi => by
    have hi' : i < us.length := by omega
    have hl' : i < Ls.length := by have := Hn.out; omega
    rcases hL.own.2 with ⟨_, h0⟩ | ⟨g, cap, cur, e, _, hc, _, _, _, ht⟩
    · omega
    · simp only [Value.slice.injEq] at e
      obtain ⟨u, hu⟩ : ∃ u, us[i]? = some u := ⟨_, List.getElem?_eq_getElem hi'⟩
      refine ⟨g, u, Ls[i], e.1, hu, List.getElem?_eq_getElem hl', fun W bW => ?_⟩
      have hblk := (bW.block g (Array.getElem?_eq_some_iff.1 hc).1).trans hc
      rw [cell_of_row W g i _ _ _ hblk]
      rw [← ht, List.getElem?_take, if_pos (by omega), Array.getElem?_toList] at hu
      exact hu
  have HS : Hid (∀ (i : Nat) ls, Ls[i]? = some ls → Smm ls) := fun i ls h => hs ls (List.mem_of_getElem? h)
  have HBM : Hid (Smm b) := hb
  have HX : Hid (RwT w (.slice xa xn xc) b) := hx
  have HL3 : Hid (L3 w base (.slice va n vc) us Ls) := hL
  have HNO : Hid ((∀ (j : Nat) ls, j < n → Ls[j]? = some ls → ls ≠ b) → putL Ls b = Ls ++ [b]) := fun h => by
    unfold putL
    refine if_neg fun hc => ?_
    obtain ⟨j, hj, e⟩ := List.getElem_of_mem (List.contains_iff_mem.1 hc)
    exact h j _ (by have := Hn.out; omega) (List.getElem?_eq_getElem hj) e
  have HYE : Hid (∀ (i : Nat), Ls[i]? = some b → putL Ls b = Ls) := fun i h => by
    unfold putL
    exact if_pos (List.contains_iff_mem.2 (List.mem_of_getElem? h))
  rw [Hn.out] at hn
  obtain ⟨i31, ji, jz0, jz1, jz2⟩ := info31
  have HI : Hid (Tryd.prog.info? 31 = some i31 ∧ i31.zero = some (.slice none 0 0) ∧ i31.size = 1 ∧ i31.bytes = 24) := ⟨ji, jz0, jz1, jz2⟩
  clear hL hs hb hx hul ji jz0 jz1 jz2
  go_enter Tryd.func15, Tryd.ntmps15
  go_wp2
  go_loopw [5, 6] (fun iv _ wr => ∃ i : Nat, iv = .int .i64 (i : Int) ∧ i ≤ n ∧ Hid (∀ (j : Nat) ls, j < i → Ls[j]? = some ls → ls ≠ b) ∧ Below w.heap.size w wr) (fun iv _ _ => (n - intOf iv).toNat)
  case atStart => exact ⟨0, rfl, by omega, (show ∀ (j : Nat) ls, j < 0 → _ from fun j ls h => by omega), Below.refl _ _⟩
  case round =>
    obtain ⟨i, rfl, hi, HI2, hB⟩ := hrel
    by_cases hlt : i < n
    · have hdi : decide ((i : Int) < (n : Int)) = true := by simp; omega
      have hii : (i : Int) < (n : Int) := by omega
      obtain ⟨g, u, ls, rfl, hu, hls, hc⟩ := HAt.out i hlt
      have hc0 := hc wr hB
      have hR : Rw wr u (toZ ls) := HL3.out.rd i u ls hu hls wr (K31.of hB)
      obtain ⟨ua, un, uc, rfl⟩ : ∃ ua un uc, u = .slice ua un uc := by obtain ⟨a, c, e, _⟩ := hR; exact ⟨a, _, c, e⟩
      have hm1 := (HS.out i ls hls).max
      have hm2 := HBM.out.max
      have C := Lists_any (toZ ls) (toZ b) _ _ wr hR (HX.out wr (K31.of hB)) hm1.1 hm2.1 hm1.2 hm2.2
      have HLS : Hid (Ls[i]? = some ls) := hls
      clear hR hm1 hm2 hu hls hc
      go_wp2_with fail
      refine C.mono ?_
      rintro e w1 ⟨q, rfl, hq, b1⟩
      have HQ : Hid (q = true ↔ toZ ls = toZ b) := hq
      clear C hq
      have hB1 := Below.next hB b1
      cases q with
      | true =>
        have HEQ : Hid (ls = b) := toZ_inj (HQ.out.1 rfl)
        go_wp2
        go_ret
        refine ⟨_, _, _, us, rfl, ?_, (grown_of_belowF hB1).but _, .inl rfl⟩
        have h := HLS.out
        rw [HEQ.out] at h
        rw [HYE.out i h]
        exact HL3.out.below hB1
      | false =>
        have HNE : Hid (ls ≠ b) := fun e => by have := HQ.out.2 (by rw [e]); cases this
        have HI3 : Hid (∀ (j : Nat) ms, j < i + 1 → Ls[j]? = some ms → ms ≠ b) := fun j ms hj hm => by
          by_cases e : j = i
          · subst e
            have := HLS.out.symm.trans hm
            rw [← Option.some.inj this]
            exact HNE.out
          · exact HI2.out j ms (by omega) hm
        clear HI2 HLS HNE HQ
        go_wp2
        go_roundw
        case rel => exact ⟨i + 1, by go_num, by omega, HI3, hB1⟩
        case measure => simp [intOf]; omega
    · have hdi : decide ((i : Int) < (n : Int)) = false := by simp; omega
      have hii : ¬ (i : Int) < (n : Int) := by omega
      have HE : Hid (putL Ls b = Ls ++ [b]) := HNO.out fun j ls hj => HI2.out j ls (by omega)
      have hl1 := HL3.out.below hB
      have hv1 := hl1.own
      rw [Hn.out] at hv1
      have HRD : Hid (∀ (i : Nat) x ls, us[i]? = some x → Ls[i]? = some ls → RwT wr x ls) := hl1.rd
      have HTY : Hid (∀ g, (Value.slice va n vc).ownBlock = some g → ∃ c, wr.heap[g]? = some (.cells c 31 (0, 0))) := hl1.typ
      have HXw : Hid (RwT wr (.slice xa xn xc) b) := HX.out.below hB
      clear hl1 HI2
      go_wp2_with (at_builtin; go_loud (refine wpList_append_lies _ rfl _ _ 42 rfl base 31 i31 (.slice none 0 0) 1 24 und42 HI.out.1 HI.out.2.1 HI.out.2.2.1 HI.out.2.2.2 rfl (by decide) _ n _ rfl (hv1.alloc _) ⟨wr.heap.size, 0, none⟩ 1 1 [.slice xa xn xc] rfl rfl (cell_new1 wr _ 31) (fun u hu => by rw [List.mem_singleton] at hu; subst hu; rfl) (by omega) (by unfold maxLen; omega) (by omega) (by have := hB.size; simp; omega) (wr.heap.size + 1) (by simp) ?_))
      · intro g6 cap6 w6 hown6 hgrow6 hor6 hlt6
        have hal := balloc wr (.cells #[.slice xa xn xc] 31)
        have hg6 : wr.grownBy w6 (Value.slice va n vc).ownBlock := ((grown_of_belowF hal).but _).trans hgrow6
        have hk6 : K31 wr w6 := K31.grown hg6 HTY.out
        have hgw : w.grownBy w6 (Value.slice va n vc).ownBlock := ((grown_of_belowF hB).but _).trans hg6
        have hlen : (Ls ++ [b]).length = n + 1 := by rw [List.length_append, Hn.out]; rfl
        have hL6 : L3 w6 base (.slice (some ⟨g6, 0, none⟩) (n + 1) cap6) (us ++ [.slice xa xn xc]) (putL Ls b) := by
          rw [HE.out]
          refine ⟨by rw [hlen]; exact hown6, fun i x ls h1 h2 => ?_⟩
          have hul : us.length = Ls.length := by have := hv1.1; rw [Hn.out]; omega
          by_cases hi : i < Ls.length
          · rw [List.getElem?_append_left hi] at h2
            rw [List.getElem?_append_left (by omega)] at h1
            exact (HRD.out i x ls h1 h2).k31 hk6
          · rw [List.getElem?_append_right (by omega)] at h1 h2
            rw [hul] at h1
            cases hj : i - Ls.length with
            | zero =>
              rw [hj] at h1 h2
              simp at h1 h2
              subst h1 h2
              exact HXw.out.k31 hk6
            | succ j => rw [hj] at h1; simp at h1
        have HP : Hid (PuA w base (.slice va n vc) Ls b (.returned (.slice (some ⟨g6, 0, none⟩) (n + 1) cap6)) w6) := by
          refine ⟨_, _, _, _, rfl, hL6, hgw, ?_⟩
          rcases hor6 with h | h
          · exact .inl (by rw [h]; rfl)
          · exact .inr ⟨g6, rfl, by have := hB.size; omega⟩
        clear hown6 hgrow6 hor6 hL6 hgw hk6 hg6 hv1
        go_wp2
        go_ret
        exact HP.out

end Go.Proofs.YtgdkfbgehbdkjabDoor

namespace Go.Proofs.YtgdkfbgehbdkjabDoor
open Go.RowKit Go.Maps

theorem OwnN.k31 {w W : World} {g n : Nat} {f : Nat → Nat} (h : OwnN w g n f) (k : K31 w W) : OwnN W g n f := by
  obtain ⟨cur, h1, h2⟩ := h
  exact ⟨cur, (k g _ _ h1 (by decide)).trans h1, h2⟩
/-- A list as Open lays it. -/
def OpR (q n c g : Nat) (w : World) : Prop := OwnN w g n (fun i => (opn q n c).getD i 0)
theorem OpR.sl {q n c g : Nat} {w : World} (h : OpR q n c g w) (hn : n ≤ 6) : Sl w (.slice (some ⟨g, 0, none⟩) n n) ((opn q n c).map Int.ofNat) := by
  have k := (OwnN.orow h (Nat.zero_le g) (by omega)).sl
  rwa [ofF_getD _ (opn_len q n c)] at k
theorem rw_two {w : World} {x y : Value} {r s : List Int} (h : Sl w x r) (k : Sl w y s) : Rw (w.alloc (.cells #[x, y] 22)) (.slice (some ⟨w.heap.size, 0, none⟩) 2 2) [r, s] := by
  refine ⟨_, 2, rfl, fun i l hl => ?_⟩
  have hi : i < 2 := by have := (List.getElem?_eq_some_iff.1 hl).1; simpa using this
  have hn := heap_alloc_new w (.cells #[x, y] 22)
  match i, hi with
  | 0, _ =>
    simp only [List.getElem?_cons_zero, Option.some.injEq] at hl
    subst hl
    exact ⟨w.heap.size, 0, x, rfl, by rw [cell_of_row _ _ _ _ _ _ hn]; rfl, h.below (balloc w _)⟩
  | 1, _ =>
    simp only [List.getElem?_cons_succ, List.getElem?_cons_zero, Option.some.injEq] at hl
    subst hl
    exact ⟨w.heap.size, 0, y, rfl, by rw [cell_of_row _ _ _ _ _ _ hn]; rfl, k.below (balloc w _)⟩
/-- Lines and planes, as far as they are made. -/
structure StI (q : Nat) (ad mu : Nat → Nat → Nat) (n base c d : Nat) (lv pv : Value) (W : World) (us vs : List Value) (Ls Ms : List (List (List Nat))) : Prop where
  l3 : L3 W base lv us Ls
  p3 : L3 W base pv vs Ms
  inv : Inv q ad mu n c d Ls Ms
  few : Ls.length + Ms.length ≤ 30 * c + d
  apart : lv.ownBlock = none ∨ lv.ownBlock ≠ pv.ownBlock
def Sta (q : Nat) (ad mu : Nat → Nat → Nat) (n base c d : Nat) (lv pv : Value) (W : World) : Prop := ∃ us vs Ls Ms, StI q ad mu n base c d lv pv W us vs Ls Ms
section
variable {q n base c d : Nat} {ad mu : Nat → Nat → Nat} {ng : Nat → Nat} {lv pv : Value} {W W' : World}
theorem Sta.start : Sta q ad mu n base 1 0 (.slice none 0 0) (.slice none 0 0) W := ⟨[], [], [], [], L3.nil W base, L3.nil W base, Inv.start, by simp, .inl rfl⟩
theorem Sta.below (h : Sta q ad mu n base c d lv pv W) (b : Below W.heap.size W W') : Sta q ad mu n base c d lv pv W' := by
  obtain ⟨us, vs, Ls, Ms, h⟩ := h
  exact ⟨us, vs, Ls, Ms, h.l3.below b, h.p3.below b, h.inv, h.few, h.apart⟩
theorem Sta.next (h : Sta q ad mu n base c (c + 1) lv pv W) (hc : c ≤ 28) : Sta q ad mu n base (c + 1) 0 lv pv W := by
  obtain ⟨us, vs, Ls, Ms, h⟩ := h
  exact ⟨us, vs, Ls, Ms, h.l3, h.p3, h.inv.next, by have := h.few; omega, h.apart⟩
theorem smm_of {V : List Nat → Prop} {b : List (List Nat)} (hb : BasIs q ad mu n V b) (hn : n ≤ 6) : Smm b := by
  refine ⟨by have := rref_le hb.rref; omega, fun r hr => ?_⟩
  rw [(hb.rref.rws r hr).len]; exact hn
theorem Inv.smm {L M : List (List (List Nat))} (hI : Inv q ad mu n c d L M) (hn : n ≤ 6) : (∀ b ∈ L, Smm b) ∧ ∀ b ∈ M, Smm b := by
  refine ⟨fun b hb => ?_, fun b hb => ?_⟩
  · obtain ⟨_, _, _, _, h⟩ := (hI.ml b).1 hb; exact smm_of h hn
  · obtain ⟨_, _, _, _, h⟩ := (hI.mp b).1 hb; exact smm_of h hn
/-- What put answers the law. -/
def PuS (base : Nat) (S : Value → World → Prop) (W : World) (e : Ending) (w' : World) : Prop := ∃ va m vc, e = .returned (.slice va m vc) ∧ S (.slice va m vc) w' ∧ K31 W w' ∧ Below base W w'
theorem Sta.put1 (h : FqR q ad mu ng) (hS : Sta q ad mu n base c d lv pv W) (hn : n ≤ 6) (hc1 : 1 ≤ c) (hc : c ≤ 28) (hd : d ≤ c) (hbs : base ≤ W.heap.size) {x : Value} {b : List (List Nat)} (hx : RwT W x b) (hb : BasIs q ad mu n (Spn q ad mu n [opn q n c, opn q n d]) b) (h1 : b.length = 1) :
    Calls Tryd.prog 15 #[lv, x] W fun e w' => PuS base (fun y w' => Sta q ad mu n base c (d + 1) y pv w') W e w' := by
  obtain ⟨us, vs, Ls, Ms, S⟩ := hS
  have hsm := S.inv.smm hn
  have hfew := S.few
  refine (put_any lv x us Ls b base W S.l3 hbs hx (by omega) hsm.1 (smm_of hb hn)).mono ?_
  rintro e w' ⟨va, m, vc, us', rfl, hL, hg, hor⟩
  have hk : K31 W w' := K31.grown hg S.l3.typ
  have hne : pv.ownBlock = none ∨ pv.ownBlock ≠ lv.ownBlock := by
    rcases S.apart with k | k
    · rw [k]; cases pv.ownBlock <;> simp
    · exact .inr (Ne.symm k)
  refine ⟨va, m, vc, rfl, ⟨us', vs, putL Ls b, Ms, hL, S.p3.grown hg hk hne, S.inv.line h hc1 hd hb h1, by have := putL_len Ls b; omega, ?_⟩, hk, (Below.refl base W).grown hg hbs fun k hk => (S.l3.own.lt k hk).1⟩
  rcases hor with k | ⟨g, k, hgs⟩
  · rw [k]; exact S.apart
  · right
    rw [k]
    intro e
    have := (S.p3.own.lt g e.symm).2
    omega
theorem Sta.put2 (h : FqR q ad mu ng) (hS : Sta q ad mu n base c d lv pv W) (hn : n ≤ 6) (hc1 : 1 ≤ c) (hc : c ≤ 28) (hd : d ≤ c) (hbs : base ≤ W.heap.size) {x : Value} {b : List (List Nat)} (hx : RwT W x b) (hb : BasIs q ad mu n (Spn q ad mu n [opn q n c, opn q n d]) b) (h1 : b.length = 2) :
    Calls Tryd.prog 15 #[pv, x] W fun e w' => PuS base (fun y w' => Sta q ad mu n base c (d + 1) lv y w') W e w' := by
  obtain ⟨us, vs, Ls, Ms, S⟩ := hS
  have hsm := S.inv.smm hn
  have hfew := S.few
  refine (put_any pv x vs Ms b base W S.p3 hbs hx (by omega) hsm.2 (smm_of hb hn)).mono ?_
  rintro e w' ⟨va, m, vc, vs', rfl, hL, hg, hor⟩
  have hk : K31 W w' := K31.grown hg S.p3.typ
  refine ⟨va, m, vc, rfl, ⟨us, vs', Ls, putL Ms b, S.l3.grown hg hk S.apart, hL, S.inv.plane h hc1 hd hb h1, by have := putL_len Ms b; omega, ?_⟩, hk, (Below.refl base W).grown hg hbs fun k hk => (S.p3.own.lt k hk).1⟩
  rcases hor with k | ⟨g, k, hgs⟩
  · rw [k]; exact S.apart
  · rw [k]
    right
    intro e
    have := (S.l3.own.lt g e).2
    omega
theorem L3.form {us : List Value} {Ls : List (List (List Nat))} (h : L3 W base lv us Ls) : ∃ a k, lv = .slice a Ls.length k := by
  rcases h.own.2 with ⟨rfl, h0⟩ | ⟨g, cap, cur, rfl, _⟩
  · exact ⟨none, 0, by rw [h0]⟩
  · exact ⟨_, cap, rfl⟩
theorem Sta.fin (h : FqR q ad mu ng) (hS : Sta q ad mu n base (q ^ n) 0 lv pv W) (h8 : (q, n) ∈ l8) : ∃ la lc pa pc, lv = .slice la (gs q n 1) lc ∧ pv = .slice pa (gs q n 2) pc := by
  obtain ⟨us, vs, Ls, Ms, S⟩ := hS
  obtain ⟨e1, e2⟩ := S.inv.count h h8
  obtain ⟨la, lc, k1⟩ := S.l3.form
  obtain ⟨pa, pc, k2⟩ := S.p3.form
  rw [e1] at k1
  rw [e2] at k2
  exact ⟨la, lc, pa, pc, k1, k2⟩
end
theorem gs_8 : (l8.all fun x => decide (gs x.1 x.2 1 ≤ 1000) && decide (gs x.1 x.2 2 ≤ 1000)) = true := by decide +kernel
theorem gs_le8 {q n : Nat} (h : (q, n) ∈ l8) : gs q n 1 ≤ 1000 ∧ gs q n 2 ≤ 1000 := by
  have k := List.all_eq_true.1 gs_8 _ h
  rw [Bool.and_eq_true, decide_eq_true_eq, decide_eq_true_eq] at k
  exact k
theorem pow_le8 {q n : Nat} (h : (q, n) ∈ l8) : q ^ n ≤ 27 := by
  have k := List.all_eq_true.1 (show (l8.all fun x => decide (x.1 ^ x.2 ≤ 27)) = true by decide +kernel) _ h
  rw [decide_eq_true_eq] at k
  exact k
theorem l8_of {q n : Nat} (h1 : 1 ≤ n) (h3 : n ≤ 3) (q2 : 2 ≤ q) (q4 : q ≤ 4) (h : ¬ (n = 3 ∧ 3 < q)) : (q, n) ∈ l8 := by
  have hq : q = 2 ∨ q = 3 ∨ q = 4 := by omega
  have hn : n = 1 ∨ n = 2 ∨ n = 3 := by omega
  rcases hq with rfl | rfl | rfl <;> rcases hn with rfl | rfl | rfl
  · decide
  · decide
  · decide
  · decide
  · decide
  · decide
  · decide
  · decide
  · exact absurd ⟨rfl, by decide⟩ h

end Go.Proofs.YtgdkfbgehbdkjabDoor

/- The walk of the fact that both ask first. -/
/- The one closed fact that both ask first. -/
namespace Go.Proofs.YtgdkfbgehbdkjabDoor
open Go.RowKit

theorem ra {n : Nat} {f : Nat → Bool} (h : (List.range n).all f = true) {i : Nat} (hi : i < n) : f i = true := List.all_eq_true.1 h i (List.mem_range.2 hi)
def plpB (v : Nat) (B : List (List Nat)) : Bool := ((List.range B.length).all fun i => (List.range i).all fun j => mt (B.getD i []) (B.getD j []) == 1) && (List.range v).all fun x => (List.range x).all fun y => nb B [y, x] == 1
theorem plp_of {v : Nat} {B : List (List Nat)} {s : List Nat} (h : plpB v B = true) (hv : 4 ≤ v) (hs : s.Pairwise (· < ·) ∧ ∀ x ∈ s, 0 ≤ x ∧ x < v) (h4 : s.length = 4) (hl : liB B s = false) : PlP v B := by
  unfold plpB at h
  rw [Bool.and_eq_true] at h
  refine ⟨fun i j b c hji hb hc => ?_, fun x y hy hx => beq_iff_eq.1 (ra (ra h.2 hx) hy), hv, s, rs_iff.2 hs, h4, hl⟩
  have := beq_iff_eq.1 (ra (ra h.1 (List.getElem?_eq_some_iff.1 hb).1) hji)
  rw [List.getD_eq_getElem?_getD, hb, List.getD_eq_getElem?_getD, hc] at this
  exact this
theorem root_two {R : Nat} (h : Fd.RootIs 2 3 (Fd.monL (Fd.digL 3 2 3)) R) : R = 2 := by
  have h2 : Fd.IsOrd 2 3 (Fd.monL (Fd.digL 3 2 3)) 2 (2 ^ 3 - 1) := by
    refine ⟨by decide, by decide +kernel, fun j h1 h2 => ?_⟩
    have : j = 1 ∨ j = 2 ∨ j = 3 ∨ j = 4 ∨ j = 5 ∨ j = 6 := by omega
    rcases this with rfl | rfl | rfl | rfl | rfl | rfl <;> decide +kernel
  have h1 : ¬ Fd.IsOrd 2 3 (Fd.monL (Fd.digL 3 2 3)) 1 (2 ^ 3 - 1) := fun h => h.2.2 1 (by decide) (by decide) (by decide +kernel)
  rcases h with ⟨a, b, c, d⟩ | ⟨rfl, h⟩
  · have : ¬ 2 < R := fun hh => d 2 (by omega) hh h2
    have : R ≠ 1 := fun e => h1 (e ▸ c)
    omega
  · exact absurd h2 (h 2 (by decide) (by decide))
theorem rep7 : rep 2 3 = 7 := by decide +kernel
theorem sg_fano : sgL 2 3 (Fd.monL (Fd.digL 3 2 3)) 2 7 = [1, 2, 4] := by decide +kernel
def fano : List (List Nat) := dvT 7 [1, 2, 4] 7
theorem good_fano : GoodD 7 fano := ⟨by decide, by decide, by decide +kernel, fun b hb => rs_iff.2 ((by decide +kernel : ∀ b ∈ fano, b.Pairwise (· < ·) ∧ ∀ x ∈ b, 0 ≤ x ∧ x < 7) b hb)⟩
theorem dF_fano : dF ((7 : Nat) : Int) (toZ fano) = 0 := by decide +kernel
theorem prp_fano : PrP 7 fano 3 := by
  obtain ⟨k, hk⟩ := (plp_of (v := 7) (B := fano) (s := [0, 1, 2, 5]) (by decide +kernel) (by decide) (by decide) rfl (by decide +kernel)).prp good_fano.bls
  have e : k = 3 := (hk.size (fano.getD 0 []) (by decide +kernel)).symm.trans (by decide +kernel)
  rw [← e]; exact hk
end Go.Proofs.YtgdkfbgehbdkjabDoor

namespace Go.Proofs.YtgdkfbgehbdkjabDoor
open Go.RowKit

theorem fbxT (a b c : Value) (w : World) : ∀ W, Below (w.alloc (.cells #[a, b, c] 24)).heap.size (w.alloc (.cells #[a, b, c] 24)) W → W.cell? ⟨w.heap.size, 0, none⟩ = some a ∧ W.cell? ⟨w.heap.size, 1, none⟩ = some b ∧ W.cell? ⟨w.heap.size, 2, none⟩ = some c := fun W hW => by
  have h := (hW.block w.heap.size (by simp)).trans (heap_alloc_new w _)
  exact ⟨by rw [cell_of_row W _ 0 _ _ _ h]; rfl, by rw [cell_of_row W _ 1 _ _ _ h]; rfl, by rw [cell_of_row W _ 2 _ _ _ h]; rfl⟩
set_option maxRecDepth 100000 in
set_option maxHeartbeats 8000000 in
theorem one_any (w : World) (hT : Tab w) (hF : Fd.Tab w) :
    Calls Tryd.prog 5 #[] w fun e w' => e = .returned (.bool true) ∧ Below w.heap.size w w' := by
  have C1 : Calls Tryd.prog 16 #[.int .i64 2, .int .i64 3] w fun e w' => ∃ a n c, e = .returned (.tuple #[.agg #[.int .i64 2, .int .i64 3, .slice a n c], .int .i64 0]) ∧ Hid (Sl w' (.slice a n c) (Fd.digL 3 2 3)) ∧ Below w.heap.size w w' := by
    refine (Fd.least_any 2 3 w hF).mono ?_
    rintro e w' ⟨q, d, v, l, z, rfl, hS, hL, b⟩
    obtain ⟨rfl, rfl, rfl, rfl⟩ := Fd.fact_least hL
    obtain ⟨a, c, rfl, _⟩ := id hS
    exact ⟨a, _, c, rfl, hS, b⟩
  have H2 : Hid (∀ (W : World) (v : Value), Below w.heap.size w W → Sl W v (Fd.digL 3 2 3) → Calls Tryd.prog 6 #[.agg #[.int .i64 2, .int .i64 3, v]] W fun e w' => ∃ xa xn xc, e = .returned (.tuple #[.int .i64 7, .slice xa xn xc, .int .i64 0]) ∧ Hid (Sl w' (.slice xa xn xc) (([1, 2, 4] : List Nat).map Int.ofNat)) ∧ Below W.heap.size W w') := fun W v hW hS => by
    have := Singer_ok 2 3 _ v W (hF.below hW) hS (by rw [Fd.digL_length]; decide) Fd.fact_good (by decide) (by rw [rep7]; decide)
    rw [rep7] at this
    refine this.mono ?_
    rintro e w' ⟨R, x, rfl, hR, hO, b⟩
    obtain rfl := root_two hR
    rw [sg_fano] at hO
    have hs := hO.sl
    obtain ⟨a, c, rfl, _⟩ := id hs
    exact ⟨a, _, c, rfl, hs, b⟩
  have H3 : Hid (∀ (W : World) (u : Value), Sl W u (([1, 2, 4] : List Nat).map Int.ofNat) → Calls Tryd.prog 8 #[.int .i64 7, u] W fun e w' => ∃ xa xn xc, e = .returned (.tuple #[.agg #[.int .i64 7, .slice xa xn xc], .int .i64 0]) ∧ Hid (Rw w' (.slice xa xn xc) (toZ fano)) ∧ Below W.heap.size W w') := fun W u hu => by
    refine (Dev_main 7 [1, 2, 4] u W ⟨by decide, by decide, by decide, by decide⟩ (by decide) hu).mono ?_
    rintro e w' ⟨y, rfl, hO, b⟩
    have hr := hO.rw
    obtain ⟨a, c, rfl⟩ := hO.cap
    exact ⟨a, _, c, rfl, hr, b⟩
  have H4 : Hid (∀ (W : World) (u : Value), Below w.heap.size w W → Rw W u (toZ fano) → Calls Tryd.prog 10 #[.agg #[.int .i64 7, u]] W fun e w' => e = .returned (.tuple #[.int .i64 2, .int .i64 0]) ∧ Below W.heap.size W w') := fun W u hW hu =>
    PCheck_yes 7 3 fano u W (hT.next hW) good_fano dF_fano hu prp_fano
  have HFB : Hid (∀ (W W' : World) (u : Value), Below (W.alloc (.cells #[.int .i64 2, .int .i64 3, u] 24)).heap.size (W.alloc (.cells #[.int .i64 2, .int .i64 3, u] 24)) W' → W'.cell? ⟨W.heap.size, 0, none⟩ = some (.int .i64 2) ∧ W'.cell? ⟨W.heap.size, 1, none⟩ = some (.int .i64 3) ∧ W'.cell? ⟨W.heap.size, 2, none⟩ = some u) := fun W W' u h => fbxT _ _ _ W W' h
  have HDB : Hid (∀ (W W' : World) (u : Value), Below (W.alloc (.cells #[.int .i64 7, u] 33)).heap.size (W.alloc (.cells #[.int .i64 7, u] 33)) W' → W'.cell? ⟨W.heap.size, 0, none⟩ = some (.int .i64 7) ∧ W'.cell? ⟨W.heap.size, 1, none⟩ = some u) := fun W W' u h => des_box 7 _ W W' h
  go_enter Tryd.func5, Tryd.ntmps5
  go_wp2_with (first
    | (go_at_call 16; refine C1.mono ?_; rintro e w1 ⟨a, n, c, rfl, HS1, b1⟩; clear C1; have c1 := balloc w1 (.cells #[.int .i64 2, .int .i64 3, .slice a n c] 24); obtain ⟨x0, x1, x2⟩ := HFB.out w1 (w1.alloc (.cells #[.int .i64 2, .int .i64 3, .slice a n c] 24)) (.slice a n c) (Below.refl _ _); replace b1 := Below.next b1 c1; have C2 := H2.out (w1.alloc (.cells #[.int .i64 2, .int .i64 3, .slice a n c] 24)) _ b1 (HS1.out.below c1))
    | (go_at_call 6; refine C2.mono ?_; rintro e w2 ⟨ya, yn, yc, rfl, HS2, b2⟩; clear C2; replace b2 := Below.next b1 b2; have C3 := H3.out w2 _ HS2.out)
    | (go_at_call 8; refine C3.mono ?_; rintro e w3 ⟨xa, xn, xc, rfl, HR2, b3⟩; clear C3; have c2 := balloc w3 (.cells #[.int .i64 7, .slice xa xn xc] 33); obtain ⟨d0, d1⟩ := HDB.out w3 (w3.alloc (.cells #[.int .i64 7, .slice xa xn xc] 33)) (.slice xa xn xc) (Below.refl _ _); replace b3 := Below.next (Below.next b2 b3) c2; have C4 := H4.out (w3.alloc (.cells #[.int .i64 7, .slice xa xn xc] 33)) _ b3 (HR2.out.below c2))
    | (go_at_call 10; refine C4.mono ?_; rintro e w4 ⟨rfl, b4⟩; clear C4; obtain ⟨f0, f1⟩ := HDB.out w3 w4 (.slice xa xn xc) b4; replace b4 := Below.next b3 b4))
  go_ret
  exact ⟨rfl, b4⟩

end Go.Proofs.YtgdkfbgehbdkjabDoor

namespace Go.Proofs.YtgdkfbgehbdkjabDoor
open Go.RowKit Go.Maps

set_option maxRecDepth 100000 in
set_option maxHeartbeats 16000000 in
theorem Sp_early (p k n o z : Int) (v : Value) (w : World) (hT : Tab w) (hF : Fd.Tab w) (hv : ∃ a m c, v = .slice a m c) (hc : n < 1 ∨ 3 < n ∨ o < 2 ∨ 4 < o ∨ (n = 3 ∧ 3 < o) ∨ z ≠ 0)
    (H11 : Hid (∀ W, Calls Tryd.prog 11 #[.agg #[.int .i64 p, .int .i64 k, v]] W fun e w' => e = .returned (.int .i64 o) ∧ Below W.heap.size W w'))
    (H12 : Hid (∀ W, Below w.heap.size w W → Calls Tryd.prog 12 #[.agg #[.int .i64 p, .int .i64 k, v]] W fun e w' => e = .returned (.int .i64 z) ∧ Below W.heap.size W w')) :
    Calls Tryd.prog 4 #[.agg #[.int .i64 p, .int .i64 k, v], .int .i64 n] w fun e w' => e = .returned (.bool true) ∧ Below w.heap.size w w' := by
  obtain ⟨a, m, c, rfl⟩ := hv
  have b0 := balloc w (.cells #[.int .i64 p, .int .i64 k, .slice a m c] 24)
  have C5 := one_any _ (hT.next b0) (hF.below b0)
  have HB : Hid (∀ W', Below (w.alloc (.cells #[.int .i64 p, .int .i64 k, .slice a m c] 24)).heap.size (w.alloc (.cells #[.int .i64 p, .int .i64 k, .slice a m c] 24)) W' → W'.cell? ⟨w.heap.size, 0, none⟩ = some (.int .i64 p) ∧ W'.cell? ⟨w.heap.size, 1, none⟩ = some (.int .i64 k) ∧ W'.cell? ⟨w.heap.size, 2, none⟩ = some (.slice a m c)) := fun W' h => fbxT _ _ _ w W' h
  clear hT hF
  by_cases h0 : n < 1
  · have d0 : decide (n < 1) = true := decide_eq_true h0
    clear hc
    go_enter Tryd.func4, Tryd.ntmps4
    go_wp2_with (first
    | (go_at_call 5; refine C5.mono ?_; rintro e w1 ⟨rfl, b1⟩; clear C5; obtain ⟨x0, x1, x2⟩ := HB.out w1 b1; have C11 := H11.out w1)
    | (go_at_call 11; refine C11.mono ?_; rintro e w2 ⟨rfl, b2⟩; clear C11; replace b2 := Below.next b1 b2; clear x0 x1 x2; obtain ⟨x0, x1, x2⟩ := HB.out w2 b2; have C12 := H12.out w2 (Below.next b0 b2))
    | (go_at_call 12; refine C12.mono ?_; rintro e w3 ⟨rfl, b3⟩; clear C12; replace b3 := Below.next b2 b3))
    go_ret
    exact ⟨rfl, Below.next b0 b2⟩
  have d0 : decide (n < 1) = false := decide_eq_false h0
  by_cases h1 : 3 < n
  · have d1 : decide (3 < n) = true := decide_eq_true h1
    clear hc
    go_enter Tryd.func4, Tryd.ntmps4
    go_wp2_with (first
    | (go_at_call 5; refine C5.mono ?_; rintro e w1 ⟨rfl, b1⟩; clear C5; obtain ⟨x0, x1, x2⟩ := HB.out w1 b1; have C11 := H11.out w1)
    | (go_at_call 11; refine C11.mono ?_; rintro e w2 ⟨rfl, b2⟩; clear C11; replace b2 := Below.next b1 b2; clear x0 x1 x2; obtain ⟨x0, x1, x2⟩ := HB.out w2 b2; have C12 := H12.out w2 (Below.next b0 b2))
    | (go_at_call 12; refine C12.mono ?_; rintro e w3 ⟨rfl, b3⟩; clear C12; replace b3 := Below.next b2 b3))
    go_ret
    exact ⟨rfl, Below.next b0 b2⟩
  have d1 : decide (3 < n) = false := decide_eq_false h1
  by_cases h2 : o < 2
  · have d2 : decide (o < 2) = true := decide_eq_true h2
    clear hc
    go_enter Tryd.func4, Tryd.ntmps4
    go_wp2_with (first
    | (go_at_call 5; refine C5.mono ?_; rintro e w1 ⟨rfl, b1⟩; clear C5; obtain ⟨x0, x1, x2⟩ := HB.out w1 b1; have C11 := H11.out w1)
    | (go_at_call 11; refine C11.mono ?_; rintro e w2 ⟨rfl, b2⟩; clear C11; replace b2 := Below.next b1 b2; clear x0 x1 x2; obtain ⟨x0, x1, x2⟩ := HB.out w2 b2; have C12 := H12.out w2 (Below.next b0 b2))
    | (go_at_call 12; refine C12.mono ?_; rintro e w3 ⟨rfl, b3⟩; clear C12; replace b3 := Below.next b2 b3))
    go_ret
    exact ⟨rfl, Below.next b0 b2⟩
  have d2 : decide (o < 2) = false := decide_eq_false h2
  by_cases h3 : 4 < o
  · have d3 : decide (4 < o) = true := decide_eq_true h3
    clear hc
    go_enter Tryd.func4, Tryd.ntmps4
    go_wp2_with (first
    | (go_at_call 5; refine C5.mono ?_; rintro e w1 ⟨rfl, b1⟩; clear C5; obtain ⟨x0, x1, x2⟩ := HB.out w1 b1; have C11 := H11.out w1)
    | (go_at_call 11; refine C11.mono ?_; rintro e w2 ⟨rfl, b2⟩; clear C11; replace b2 := Below.next b1 b2; clear x0 x1 x2; obtain ⟨x0, x1, x2⟩ := HB.out w2 b2; have C12 := H12.out w2 (Below.next b0 b2))
    | (go_at_call 12; refine C12.mono ?_; rintro e w3 ⟨rfl, b3⟩; clear C12; replace b3 := Below.next b2 b3))
    go_ret
    exact ⟨rfl, Below.next b0 b2⟩
  have d3 : decide (4 < o) = false := decide_eq_false h3
  by_cases h4 : n = 3
  · subst h4
    by_cases h5 : 3 < o
    · have d5 : decide (3 < o) = true := decide_eq_true h5
      clear hc
      go_enter Tryd.func4, Tryd.ntmps4
      go_wp2_with (first
    | (go_at_call 5; refine C5.mono ?_; rintro e w1 ⟨rfl, b1⟩; clear C5; obtain ⟨x0, x1, x2⟩ := HB.out w1 b1; have C11 := H11.out w1)
    | (go_at_call 11; refine C11.mono ?_; rintro e w2 ⟨rfl, b2⟩; clear C11; replace b2 := Below.next b1 b2; clear x0 x1 x2; obtain ⟨x0, x1, x2⟩ := HB.out w2 b2; have C12 := H12.out w2 (Below.next b0 b2))
    | (go_at_call 12; refine C12.mono ?_; rintro e w3 ⟨rfl, b3⟩; clear C12; replace b3 := Below.next b2 b3))
      go_ret
      exact ⟨rfl, Below.next b0 b2⟩
    · have d5 : decide (3 < o) = false := decide_eq_false h5
      have hz : z ≠ 0 := by omega
      have hz2 : (z != 0) = true := by simpa using hz
      clear hc
      go_enter Tryd.func4, Tryd.ntmps4
      go_wp2_with (first
    | (go_at_call 5; refine C5.mono ?_; rintro e w1 ⟨rfl, b1⟩; clear C5; obtain ⟨x0, x1, x2⟩ := HB.out w1 b1; have C11 := H11.out w1)
    | (go_at_call 11; refine C11.mono ?_; rintro e w2 ⟨rfl, b2⟩; clear C11; replace b2 := Below.next b1 b2; clear x0 x1 x2; obtain ⟨x0, x1, x2⟩ := HB.out w2 b2; have C12 := H12.out w2 (Below.next b0 b2))
    | (go_at_call 12; refine C12.mono ?_; rintro e w3 ⟨rfl, b3⟩; clear C12; replace b3 := Below.next b2 b3))
      go_ret
      exact ⟨rfl, Below.next b0 b3⟩
  · have d4 : (n == 3) = false := by simpa using h4
    have hz : z ≠ 0 := by omega
    have hz2 : (z != 0) = true := by simpa using hz
    clear hc
    go_enter Tryd.func4, Tryd.ntmps4
    go_wp2_with (first
    | (go_at_call 5; refine C5.mono ?_; rintro e w1 ⟨rfl, b1⟩; clear C5; obtain ⟨x0, x1, x2⟩ := HB.out w1 b1; have C11 := H11.out w1)
    | (go_at_call 11; refine C11.mono ?_; rintro e w2 ⟨rfl, b2⟩; clear C11; replace b2 := Below.next b1 b2; clear x0 x1 x2; obtain ⟨x0, x1, x2⟩ := HB.out w2 b2; have C12 := H12.out w2 (Below.next b0 b2))
    | (go_at_call 12; refine C12.mono ?_; rintro e w3 ⟨rfl, b3⟩; clear C12; replace b3 := Below.next b2 b3))
    go_ret
    exact ⟨rfl, Below.next b0 b3⟩

set_option maxRecDepth 100000 in
set_option maxHeartbeats 40000000 in
theorem Sp_ok (P K n : Nat) (l : List Int) (v : Value) (w : World) (hT : Tab w) (hFl : Fld P K l v w) (h1 : 1 ≤ n) (h3 : n ≤ 3) (q2 : 2 ≤ P ^ K) (q4 : P ^ K ≤ 4) (h33 : ¬ (n = 3 ∧ 3 < P ^ K)) :
    Calls Tryd.prog 4 #[.agg #[.int .i64 (P : Int), .int .i64 (K : Int), v], .int .i64 (n : Int)] w fun e w' => e = .returned (.bool true) ∧ Below w.heap.size w w' := by
  have h8 := l8_of h1 h3 q2 q4 h33
  have hfq := hFl.fqr
  have H12 : Hid (∀ W, Below w.heap.size w W → Calls Tryd.prog 12 #[.agg #[.int .i64 (P : Int), .int .i64 (K : Int), v]] W fun e w' => e = .returned (.int .i64 0) ∧ Below W.heap.size W w') := fun W hW => CheckF P K 0 l v W (hFl.tab.below hW) (hFl.sl.below hW) hFl.len hFl.good.fault
  obtain ⟨q, Hq⟩ : ∃ q, Hid (P ^ K = q) := ⟨_, rfl⟩
  have H11 : Hid (∀ W, Calls Tryd.prog 11 #[.agg #[.int .i64 (P : Int), .int .i64 (K : Int), v]] W fun e w' => e = .returned (.int .i64 (q : Int)) ∧ Below W.heap.size W w') := fun W => hFl.size Hq W
  have hpow : (P ^ K) ^ n ≤ 27 := pow_le8 h8
  obtain ⟨ad, Had⟩ : ∃ ad, Hid (adF P K = ad) := ⟨_, rfl⟩
  obtain ⟨mu, Hmu⟩ : ∃ mu, Hid (muF P K l = mu) := ⟨_, rfl⟩
  have H13 : Hid (∀ (c : Nat) (W : World), Below w.heap.size w W → c < 4096 → Calls Tryd.prog 13 #[.agg #[.int .i64 (P : Int), .int .i64 (K : Int), v], .int .i64 (n : Int), .int .i64 (c : Int)] W fun e w' => ∃ g, e = .returned (.slice (some ⟨g, 0, none⟩) n n) ∧ Hid (OpR q n c g w') ∧ Below W.heap.size W w') := fun c W hW hc => by
    refine (Open_any P K n c l v W (hFl.below hW) (by omega) hc).mono ?_
    rintro e w' ⟨g, rfl, _, hO, b⟩
    rw [Hq.out] at hO
    exact ⟨g, rfl, hO, b⟩
  have H14 : Hid (∀ (c d : Nat) (W : World) (x y : Value), Below w.heap.size w W → 1 ≤ c → c < q ^ n → Sl W x ((opn q n c).map Int.ofNat) → Sl W y ((opn q n d).map Int.ofNat) → Calls Tryd.prog 14 #[.agg #[.int .i64 (P : Int), .int .i64 (K : Int), v], .int .i64 (n : Int), .slice (some ⟨W.heap.size, 0, none⟩) 2 2] (W.alloc (.cells #[x, y] 22)) fun e w' => ∃ xa m xc b, e = .returned (.tuple #[.slice xa m xc, .int .i64 0]) ∧ (m = 1 ∨ m = 2) ∧ Hid (BasIs q ad mu n (Spn q ad mu n [opn q n c, opn q n d]) b ∧ b.length = m ∧ RwT w' (.slice xa m xc) b) ∧ Below W.heap.size W w') := fun c d W x y hW hc1 hc hx hy => by
    have hal := balloc W (.cells #[x, y] 22)
    have hR : Rws (P ^ K) n [opn q n c, opn q n d] := by
      rw [Hq.out]
      rw [Hq.out] at hfq
      intro r hr
      simp only [List.mem_cons, List.not_mem_nil, or_false] at hr
      rcases hr with rfl | rfl
      · exact opn_vc hfq.pos n _
      · exact opn_vc hfq.pos n _
    refine (Basis_yes (hFl.below (Below.next hW hal)) h1 (by omega) (by omega) (S := [opn q n c, opn q n d]) (rw_two hx hy) hR (by simp)).mono ?_
    rintro e w' ⟨⟨x, b, rfl, hb, hl, hr⟩, hB⟩
    obtain ⟨xa, m, xc, rfl, Hm⟩ := rw_formH hr.rw
    rw [Hq.out, Had.out, Hmu.out] at hb hfq
    have hp := bas_pos hfq hc1 hc d hb
    have hb0 : 1 ≤ b.length := by
      cases b with
      | nil => exact absurd rfl hp
      | cons r b => simp
    have hbm := Hm.out
    simp only [List.length_cons, List.length_nil] at hl
    exact ⟨xa, m, xc, b, rfl, by omega, ⟨hb, hbm, hr⟩, Below.next hal hB⟩
  rw [Hq.out, Had.out, Hmu.out] at hfq
  rw [Hq.out] at q2 q4 h33 hpow h8
  have HFQ : Hid (FqR q ad mu (ngF P K)) := hfq
  have H8 : Hid ((q, n) ∈ l8) := h8
  obtain ⟨x1, Hx1⟩ : ∃ x1, Hid (gs q n 1 = x1) := ⟨_, rfl⟩
  obtain ⟨x2, Hx2⟩ : ∃ x2, Hid (gs q n 2 = x2) := ⟨_, rfl⟩
  have hg8 := gs_le8 h8
  have H7a : Hid (∀ W, Calls Tryd.prog 7 #[.int .i64 (n : Int), .int .i64 1, .int .i64 (q : Int)] W fun e w' => e = .returned (.tuple #[.int .i64 (x1 : Int), .int .i64 0]) ∧ Below W.heap.size W w') := fun W => by
    have h := Gauss_any n 1 q W (by omega) (by omega) q2 (by omega)
    unfold gA gE at h
    rw [if_pos (by omega), if_pos (by omega), Hx1.out] at h
    exact h
  have H7b : Hid (2 ≤ n → ∀ W, Calls Tryd.prog 7 #[.int .i64 (n : Int), .int .i64 2, .int .i64 (q : Int)] W fun e w' => e = .returned (.tuple #[.int .i64 (x2 : Int), .int .i64 0]) ∧ Below W.heap.size W w') := fun hn W => by
    have h := Gauss_any n 2 q W (by omega) hn q2 (by omega)
    unfold gA gE at h
    rw [if_pos (by omega), if_pos (by omega), Hx2.out] at h
    exact h
  have HZ2 : Hid (n < 2 → x2 = 0) := fun hn => by
    rw [← Hx2.out]
    exact gs_gt q n 2 (by omega)
  obtain ⟨al, Hal⟩ : ∃ al, Hid (q ^ n = al) := ⟨_, rfl⟩
  rw [Hal.out] at hpow H14
  obtain ⟨pw, HP0, HP1, HPn, HPl⟩ : ∃ pw : Nat → Nat, Hid (pw 0 = 1) ∧ Hid (∀ i, pw i * q = pw (i + 1)) ∧ Hid (pw n = al) ∧ Hid (∀ i, i ≤ n → pw i ≤ 27) := ⟨fun i => q ^ i, rfl, fun i => rfl, Hal.out, fun i hi => by
    have : q ^ i ≤ q ^ n := Nat.pow_le_pow_right (by omega) hi
    have := Hal.out
    show q ^ i ≤ 27
    omega⟩
  obtain ⟨a, m, c0, rfl⟩ : ∃ a m c, v = .slice a m c := by obtain ⟨a, c, e, _⟩ := hFl.sl; exact ⟨a, _, c, e⟩
  have b0 := balloc w (.cells #[.int .i64 (P : Int), .int .i64 (K : Int), .slice a m c0] 24)
  have C5 := one_any _ (hT.next b0) (hFl.tab.below b0)
  have HB : Hid (∀ W', Below (w.alloc (.cells #[.int .i64 (P : Int), .int .i64 (K : Int), .slice a m c0] 24)).heap.size (w.alloc (.cells #[.int .i64 (P : Int), .int .i64 (K : Int), .slice a m c0] 24)) W' → W'.cell? ⟨w.heap.size, 0, none⟩ = some (.int .i64 (P : Int)) ∧ W'.cell? ⟨w.heap.size, 1, none⟩ = some (.int .i64 (K : Int)) ∧ W'.cell? ⟨w.heap.size, 2, none⟩ = some (.slice a m c0)) := fun W' h => fbxT _ _ _ w W' h
  obtain ⟨w0, Hw0⟩ : ∃ w0, Hid (w.alloc (.cells #[.int .i64 (P : Int), .int .i64 (K : Int), .slice a m c0] 24) = w0) := ⟨_, rfl⟩
  rw [Hw0.out] at HB b0 C5
  have HB0 : Hid (Below w.heap.size w w0) := b0
  have HSZ : Hid (∀ W, Below w0.heap.size w0 W → w0.heap.size ≤ W.heap.size) := fun W b => b.size
  have d0 : decide ((n : Int) < 1) = false := by simp; omega
  have d1 : decide (3 < (n : Int)) = false := by simp; omega
  have d2 : decide ((q : Int) < 2) = false := by simp; omega
  have d3 : decide (4 < (q : Int)) = false := by simp; omega
  have hal1 : 1 ≤ al := by rw [← Hal.out]; exact Nat.pow_pos (by omega)
  clear hT hFl hfq h8 hg8 b0
  have HS1 : Hid (∀ W, Below w0.heap.size w0 W → Sta q ad mu n w0.heap.size 1 0 (.slice none 0 0) (.slice none 0 0) W) := fun W _ => Sta.start
  have key : ∀ (W : World), Hid (Below w0.heap.size w0 W) → True := fun _ _ => trivial
  clear key
  by_cases hn3 : n = 3
  · have hq3 : ¬ 3 < q := fun h => h33 ⟨hn3, h⟩
    have d4 : ((n : Int) == 3) = true := by simp; omega
    have d5 : decide (3 < (q : Int)) = false := by simp; omega
    have HN3 : Hid (n = 3) := hn3
    clear hn3 h33
    go_enter Tryd.func4, Tryd.ntmps4
    go_wp2_with (first
      | (go_at_call 5; rw [Hw0.out]; refine C5.mono ?_; rintro e w1 ⟨rfl, b1⟩; clear C5; obtain ⟨x0, x1', x2'⟩ := HB.out w1 b1; have C11 := H11.out w1)
      | (go_at_call 11; refine C11.mono ?_; rintro e w2 ⟨rfl, b2⟩; clear C11; replace b2 := Below.next b1 b2; clear x0 x1' x2'; obtain ⟨x0, x1', x2'⟩ := HB.out w2 b2; have C12 := H12.out w2 (Below.next HB0.out b2))
      | (go_at_call 12; refine C12.mono ?_; rintro e w3 ⟨rfl, b3⟩; clear C12; replace b3 := Below.next b2 b3; clear x0 x1' x2'))
    clear d0 d1 d2 d3 d4 d5 H11 H12 b1 b2
    go_loopw [8, 9] (fun av iv wr => ∃ i : Nat, iv = .int .i64 (i : Int) ∧ av = .int .i64 (pw i : Int) ∧ i ≤ n ∧ Below w0.heap.size w0 wr) (fun _ iv _ => (n - intOf iv).toNat)
    case atStart => exact ⟨0, rfl, by rw [HP0.out]; rfl, by omega, b3⟩
    case round =>
      clear b3
      obtain ⟨i, rfl, rfl, hi, hB⟩ := hrel
      by_cases hlt : i < n
      · have hdi : decide ((i : Int) < (n : Int)) = true := by simp; omega
        have hii : (i : Int) < (n : Int) := by omega
        have hm : (pw i : Int) * (q : Int) = (pw (i + 1) : Int) := by rw [← HP1.out]; simp
        have hl := HPl.out (i + 1) hlt
        go_wp2
        go_roundw
        case rel => exact ⟨i + 1, by go_num, rfl, by omega, hB⟩
        case measure => simp [intOf]; omega
      · obtain rfl : n = i := by omega
        rw [HPn.out]
        have hdi : decide ((n : Int) < (n : Int)) = false := by simp
        go_wp2
        go_loopw [10, 11, 12] (fun lv pv cv wr => ∃ c : Nat, cv = .int .i64 (c : Int) ∧ 1 ≤ c ∧ c ≤ al ∧ Hid (Sta q ad mu n w0.heap.size c 0 lv pv wr) ∧ Below w0.heap.size w0 wr) (fun _ _ cv _ => (al - intOf cv).toNat)
        case atStart => exact ⟨1, rfl, by omega, hal1, HS1.out _ hB, hB⟩
        case round =>
          clear hB hdi
          obtain ⟨c, rfl, hc1, hc, HS, hB⟩ := hrel
          by_cases hlt2 : c < al
          · have hdc : decide ((c : Int) < (al : Int)) = true := by simp; omega
            have hcc : (c : Int) < (al : Int) := by omega
            obtain ⟨x0, x1', x2'⟩ := HB.out wr hB
            have C13 := H13.out c wr (Below.next HB0.out hB) (by omega)
            have hv0 := HS
            go_wp2_with (go_at_call 13; refine C13.mono ?_; rintro e w4 ⟨g, rfl, HO, b4⟩; clear C13 x0 x1' x2')
            have HS4 : Hid (Sta q ad mu n w0.heap.size c 0 u10 u11 w4) := HS.out.below b4
            replace b4 := Below.next hB b4
            clear HS hv0 hB hdc hcc
            go_loopw [10, 11, 14] (fun lv pv dv wr => ∃ d : Nat, dv = .int .i64 (d : Int) ∧ d ≤ c + 1 ∧ Hid (Sta q ad mu n w0.heap.size c d lv pv wr) ∧ Hid (OpR q n c g wr) ∧ Below w0.heap.size w0 wr) (fun _ _ dv _ => ((c : Int) + 1 - intOf dv).toNat)
            case atStart => exact ⟨0, rfl, by omega, HS4, HO, b4⟩
            case round =>
              clear HS4 HO b4
              obtain ⟨d, rfl, hd, HS, HO, hB⟩ := hrel
              by_cases hlt3 : d ≤ c
              · have hdd : decide ((d : Int) ≤ (c : Int)) = true := by simp; omega
                have hddi : (d : Int) ≤ (c : Int) := by omega
                obtain ⟨x0, x1', x2'⟩ := HB.out wr hB
                have C13 := H13.out d wr (Below.next HB0.out hB) (by omega)
                go_wp2_with (go_at_call 13; refine C13.mono ?_; rintro e w5 ⟨g2, rfl, HO2, b5⟩; clear C13 x0 x1' x2'; obtain ⟨x0, x1', x2'⟩ := HB.out w5 (Below.next hB b5); have C14 := H14.out c d w5 _ _ (Below.next HB0.out (Below.next hB b5)) hc1 hlt2 (OpR.sl (OwnN.k31 HO.out (K31.of b5)) (by omega)) (OpR.sl HO2.out (by omega)))
                refine C14.mono ?_
                rintro e w6 ⟨xa, bm, xc, bb, rfl, hbm, HBs, b6⟩
                have b56 : Below wr.heap.size wr w6 := Below.next b5 b6
                have HO6 : Hid (OpR q n c g w6) := OwnN.k31 HO.out (K31.of b56)
                have HS6 : Hid (Sta q ad mu n w0.heap.size c d u10 u11 w6) := HS.out.below b56
                have hB6 := Below.next hB b56
                have hs6 := HSZ.out w6 hB6
                clear C14 HO HS x0 x1' x2' HO2 b5 b6 b56 hB
                rcases hbm with rfl | rfl
                · have C15 := HS6.out.put1 HFQ.out (by omega) hc1 (by omega) hlt3 hs6 HBs.out.2.2 HBs.out.1 HBs.out.2.1
                  clear HS6 HBs
                  go_wp2_with (go_at_call 15; refine C15.mono ?_; rintro e w7 ⟨va, vm, vc, rfl, HS7, hk7, b7⟩; clear C15)
                  have HS8 : Hid (Sta q ad mu n w0.heap.size c (d + 1) (.slice va vm vc) u11 w7) := HS7
                  have HO8 : Hid (OpR q n c g w7) := OwnN.k31 HO6.out hk7
                  have hB7 := hB6.trans b7
                  clear HS7 hk7 b7 HO6 hB6 hs6
                  go_roundw
                  case rel => exact ⟨d + 1, by go_num, by omega, HS8, HO8, hB7⟩
                  case measure => simp [intOf]; omega
                · have C15 := HS6.out.put2 HFQ.out (by omega) hc1 (by omega) hlt3 hs6 HBs.out.2.2 HBs.out.1 HBs.out.2.1
                  clear HS6 HBs
                  go_wp2_with (go_at_call 15; refine C15.mono ?_; rintro e w7 ⟨va, vm, vc, rfl, HS7, hk7, b7⟩; clear C15)
                  have HS8 : Hid (Sta q ad mu n w0.heap.size c (d + 1) u10 (.slice va vm vc) w7) := HS7
                  have HO8 : Hid (OpR q n c g w7) := OwnN.k31 HO6.out hk7
                  have hB7 := hB6.trans b7
                  clear HS7 hk7 b7 HO6 hB6 hs6
                  go_roundw
                  case rel => exact ⟨d + 1, by go_num, by omega, HS8, HO8, hB7⟩
                  case measure => simp [intOf]; omega
              · have hdd : decide ((d : Int) ≤ (c : Int)) = false := by simp; omega
                have hddi : ¬ (d : Int) ≤ (c : Int) := by omega
                have HS8 : Hid (Sta q ad mu n w0.heap.size (c + 1) 0 u10 u11 wr) := by
                  obtain rfl : d = c + 1 := by omega
                  exact HS.out.next (by omega)
                clear HS HO
                go_wp2
                go_roundw
                case rel => exact ⟨c + 1, by go_num, by omega, by omega, HS8, hB⟩
                case measure => simp [intOf]; omega
          · have hdc : decide ((c : Int) < (al : Int)) = false := by simp; omega
            have hcc : ¬ (c : Int) < (al : Int) := by omega
            obtain ⟨la, lc, pa, pc, e1, e2⟩ : ∃ la lc pa pc, u10 = .slice la x1 lc ∧ u11 = .slice pa x2 pc := by
              have h := HS.out
              have ec : c = q ^ n := by rw [Hal.out]; omega
              rw [ec] at h
              have k := h.fin HFQ.out H8.out
              rw [Hx1.out, Hx2.out] at k
              exact k
            subst e1 e2
            clear HS
            have C7 := H7a.out wr
            by_cases hn2 : n < 2
            · have hz2 := HZ2.out hn2
              have dn2 : decide ((n : Int) < 2) = true := by simp; omega
              have dn2' : (n : Int) < 2 := by omega
              subst hz2
              go_wp2_with (go_at_call 7; refine C7.mono ?_; rintro e w8 ⟨rfl, b8⟩; clear C7)
              go_ret
              exact ⟨rfl, Below.next HB0.out (Below.next hB b8)⟩
            · have dn2 : decide ((n : Int) < 2) = false := by simp; omega
              have dn2' : ¬ (n : Int) < 2 := by omega
              have H7 := H7b.out (by omega)
              have HH : Hid (∀ W, Calls Tryd.prog 7 #[.int .i64 (n : Int), .int .i64 2, .int .i64 (q : Int)] W fun e w' => e = .returned (.tuple #[.int .i64 (x2 : Int), .int .i64 0]) ∧ Below W.heap.size W w') := H7
              clear H7
              go_wp2_with (first
                | (go_at_call 7; refine C7.mono ?_; rintro e w8 ⟨rfl, b8⟩; clear C7; replace b8 := Below.next hB b8; have C7b := HH.out w8)
                | (go_at_call 7; refine C7b.mono ?_; rintro e w9 ⟨rfl, b9⟩; clear C7b; replace b9 := Below.next b8 b9))
              go_ret
              exact ⟨rfl, Below.next HB0.out b9⟩
  · have d4 : ((n : Int) == 3) = false := by simp; omega
    have d5 : True := trivial
    go_enter Tryd.func4, Tryd.ntmps4
    go_wp2_with (first
      | (go_at_call 5; rw [Hw0.out]; refine C5.mono ?_; rintro e w1 ⟨rfl, b1⟩; clear C5; obtain ⟨x0, x1', x2'⟩ := HB.out w1 b1; have C11 := H11.out w1)
      | (go_at_call 11; refine C11.mono ?_; rintro e w2 ⟨rfl, b2⟩; clear C11; replace b2 := Below.next b1 b2; clear x0 x1' x2'; obtain ⟨x0, x1', x2'⟩ := HB.out w2 b2; have C12 := H12.out w2 (Below.next HB0.out b2))
      | (go_at_call 12; refine C12.mono ?_; rintro e w3 ⟨rfl, b3⟩; clear C12; replace b3 := Below.next b2 b3; clear x0 x1' x2'))
    clear d0 d1 d2 d3 d4 d5 H11 H12 b1 b2
    go_loopw [8, 9] (fun av iv wr => ∃ i : Nat, iv = .int .i64 (i : Int) ∧ av = .int .i64 (pw i : Int) ∧ i ≤ n ∧ Below w0.heap.size w0 wr) (fun _ iv _ => (n - intOf iv).toNat)
    case atStart => exact ⟨0, rfl, by rw [HP0.out]; rfl, by omega, b3⟩
    case round =>
      clear b3
      obtain ⟨i, rfl, rfl, hi, hB⟩ := hrel
      by_cases hlt : i < n
      · have hdi : decide ((i : Int) < (n : Int)) = true := by simp; omega
        have hii : (i : Int) < (n : Int) := by omega
        have hm : (pw i : Int) * (q : Int) = (pw (i + 1) : Int) := by rw [← HP1.out]; simp
        have hl := HPl.out (i + 1) hlt
        go_wp2
        go_roundw
        case rel => exact ⟨i + 1, by go_num, rfl, by omega, hB⟩
        case measure => simp [intOf]; omega
      · obtain rfl : n = i := by omega
        rw [HPn.out]
        have hdi : decide ((n : Int) < (n : Int)) = false := by simp
        go_wp2
        go_loopw [10, 11, 12] (fun lv pv cv wr => ∃ c : Nat, cv = .int .i64 (c : Int) ∧ 1 ≤ c ∧ c ≤ al ∧ Hid (Sta q ad mu n w0.heap.size c 0 lv pv wr) ∧ Below w0.heap.size w0 wr) (fun _ _ cv _ => (al - intOf cv).toNat)
        case atStart => exact ⟨1, rfl, by omega, hal1, HS1.out _ hB, hB⟩
        case round =>
          clear hB hdi
          obtain ⟨c, rfl, hc1, hc, HS, hB⟩ := hrel
          by_cases hlt2 : c < al
          · have hdc : decide ((c : Int) < (al : Int)) = true := by simp; omega
            have hcc : (c : Int) < (al : Int) := by omega
            obtain ⟨x0, x1', x2'⟩ := HB.out wr hB
            have C13 := H13.out c wr (Below.next HB0.out hB) (by omega)
            have hv0 := HS
            go_wp2_with (go_at_call 13; refine C13.mono ?_; rintro e w4 ⟨g, rfl, HO, b4⟩; clear C13 x0 x1' x2')
            have HS4 : Hid (Sta q ad mu n w0.heap.size c 0 u10 u11 w4) := HS.out.below b4
            replace b4 := Below.next hB b4
            clear HS hv0 hB hdc hcc
            go_loopw [10, 11, 14] (fun lv pv dv wr => ∃ d : Nat, dv = .int .i64 (d : Int) ∧ d ≤ c + 1 ∧ Hid (Sta q ad mu n w0.heap.size c d lv pv wr) ∧ Hid (OpR q n c g wr) ∧ Below w0.heap.size w0 wr) (fun _ _ dv _ => ((c : Int) + 1 - intOf dv).toNat)
            case atStart => exact ⟨0, rfl, by omega, HS4, HO, b4⟩
            case round =>
              clear HS4 HO b4
              obtain ⟨d, rfl, hd, HS, HO, hB⟩ := hrel
              by_cases hlt3 : d ≤ c
              · have hdd : decide ((d : Int) ≤ (c : Int)) = true := by simp; omega
                have hddi : (d : Int) ≤ (c : Int) := by omega
                obtain ⟨x0, x1', x2'⟩ := HB.out wr hB
                have C13 := H13.out d wr (Below.next HB0.out hB) (by omega)
                go_wp2_with (go_at_call 13; refine C13.mono ?_; rintro e w5 ⟨g2, rfl, HO2, b5⟩; clear C13 x0 x1' x2'; obtain ⟨x0, x1', x2'⟩ := HB.out w5 (Below.next hB b5); have C14 := H14.out c d w5 _ _ (Below.next HB0.out (Below.next hB b5)) hc1 hlt2 (OpR.sl (OwnN.k31 HO.out (K31.of b5)) (by omega)) (OpR.sl HO2.out (by omega)))
                refine C14.mono ?_
                rintro e w6 ⟨xa, bm, xc, bb, rfl, hbm, HBs, b6⟩
                have b56 : Below wr.heap.size wr w6 := Below.next b5 b6
                have HO6 : Hid (OpR q n c g w6) := OwnN.k31 HO.out (K31.of b56)
                have HS6 : Hid (Sta q ad mu n w0.heap.size c d u10 u11 w6) := HS.out.below b56
                have hB6 := Below.next hB b56
                have hs6 := HSZ.out w6 hB6
                clear C14 HO HS x0 x1' x2' HO2 b5 b6 b56 hB
                rcases hbm with rfl | rfl
                · have C15 := HS6.out.put1 HFQ.out (by omega) hc1 (by omega) hlt3 hs6 HBs.out.2.2 HBs.out.1 HBs.out.2.1
                  clear HS6 HBs
                  go_wp2_with (go_at_call 15; refine C15.mono ?_; rintro e w7 ⟨va, vm, vc, rfl, HS7, hk7, b7⟩; clear C15)
                  have HS8 : Hid (Sta q ad mu n w0.heap.size c (d + 1) (.slice va vm vc) u11 w7) := HS7
                  have HO8 : Hid (OpR q n c g w7) := OwnN.k31 HO6.out hk7
                  have hB7 := hB6.trans b7
                  clear HS7 hk7 b7 HO6 hB6 hs6
                  go_roundw
                  case rel => exact ⟨d + 1, by go_num, by omega, HS8, HO8, hB7⟩
                  case measure => simp [intOf]; omega
                · have C15 := HS6.out.put2 HFQ.out (by omega) hc1 (by omega) hlt3 hs6 HBs.out.2.2 HBs.out.1 HBs.out.2.1
                  clear HS6 HBs
                  go_wp2_with (go_at_call 15; refine C15.mono ?_; rintro e w7 ⟨va, vm, vc, rfl, HS7, hk7, b7⟩; clear C15)
                  have HS8 : Hid (Sta q ad mu n w0.heap.size c (d + 1) u10 (.slice va vm vc) w7) := HS7
                  have HO8 : Hid (OpR q n c g w7) := OwnN.k31 HO6.out hk7
                  have hB7 := hB6.trans b7
                  clear HS7 hk7 b7 HO6 hB6 hs6
                  go_roundw
                  case rel => exact ⟨d + 1, by go_num, by omega, HS8, HO8, hB7⟩
                  case measure => simp [intOf]; omega
              · have hdd : decide ((d : Int) ≤ (c : Int)) = false := by simp; omega
                have hddi : ¬ (d : Int) ≤ (c : Int) := by omega
                have HS8 : Hid (Sta q ad mu n w0.heap.size (c + 1) 0 u10 u11 wr) := by
                  obtain rfl : d = c + 1 := by omega
                  exact HS.out.next (by omega)
                clear HS HO
                go_wp2
                go_roundw
                case rel => exact ⟨c + 1, by go_num, by omega, by omega, HS8, hB⟩
                case measure => simp [intOf]; omega
          · have hdc : decide ((c : Int) < (al : Int)) = false := by simp; omega
            have hcc : ¬ (c : Int) < (al : Int) := by omega
            obtain ⟨la, lc, pa, pc, e1, e2⟩ : ∃ la lc pa pc, u10 = .slice la x1 lc ∧ u11 = .slice pa x2 pc := by
              have h := HS.out
              have ec : c = q ^ n := by rw [Hal.out]; omega
              rw [ec] at h
              have k := h.fin HFQ.out H8.out
              rw [Hx1.out, Hx2.out] at k
              exact k
            subst e1 e2
            clear HS
            have C7 := H7a.out wr
            by_cases hn2 : n < 2
            · have hz2 := HZ2.out hn2
              have dn2 : decide ((n : Int) < 2) = true := by simp; omega
              have dn2' : (n : Int) < 2 := by omega
              subst hz2
              go_wp2_with (go_at_call 7; refine C7.mono ?_; rintro e w8 ⟨rfl, b8⟩; clear C7)
              go_ret
              exact ⟨rfl, Below.next HB0.out (Below.next hB b8)⟩
            · have dn2 : decide ((n : Int) < 2) = false := by simp; omega
              have dn2' : ¬ (n : Int) < 2 := by omega
              have H7 := H7b.out (by omega)
              have HH : Hid (∀ W, Calls Tryd.prog 7 #[.int .i64 (n : Int), .int .i64 2, .int .i64 (q : Int)] W fun e w' => e = .returned (.tuple #[.int .i64 (x2 : Int), .int .i64 0]) ∧ Below W.heap.size W w') := H7
              clear H7
              go_wp2_with (first
                | (go_at_call 7; refine C7.mono ?_; rintro e w8 ⟨rfl, b8⟩; clear C7; replace b8 := Below.next hB b8; have C7b := HH.out w8)
                | (go_at_call 7; refine C7b.mono ?_; rintro e w9 ⟨rfl, b9⟩; clear C7b; replace b9 := Below.next b8 b9))
              go_ret
              exact ⟨rfl, Below.next HB0.out b9⟩


theorem TopSpaces_any (p k n : Int) (l : List Int) (v : Value) (w : World) (hT : Tab w) (hF : Fd.Tab w) (hl : Sl w v l) (hll : l.length ≤ maxLen) :
    Calls Tryd.prog 4 #[.agg #[.int .i64 p, .int .i64 k, v], .int .i64 n] w fun e w' => e = .returned (.bool true) ∧ Below w.heap.size w w' := by
  have hv : ∃ a n c, v = .slice a n c := by obtain ⟨a, c, e, _⟩ := hl; exact ⟨a, _, c, e⟩
  obtain ⟨z, hz⟩ := Fd.fault_tot p k l
  have H12 : Hid (∀ W, Below w.heap.size w W → Calls Tryd.prog 12 #[.agg #[.int .i64 p, .int .i64 k, v]] W fun e w' => e = .returned (.int .i64 z) ∧ Below W.heap.size W w') := fun W hW => CheckF p k z l v W (hF.below hW) (hl.below hW) hll hz
  have H11 : Hid (∀ W, Calls Tryd.prog 11 #[.agg #[.int .i64 p, .int .i64 k, v]] W fun e w' => e = .returned (.int .i64 (Fd.ordZ p k)) ∧ Below W.heap.size W w') := fun W => Fd.size_any p k v W
  by_cases hc : n < 1 ∨ 3 < n ∨ Fd.ordZ p k < 2 ∨ 4 < Fd.ordZ p k ∨ (n = 3 ∧ 3 < Fd.ordZ p k) ∨ z ≠ 0
  · exact Sp_early p k n _ z v w hT hF hv hc H11 H12
  · obtain rfl : z = 0 := by omega
    obtain ⟨P, K, rfl, rfl, hG⟩ := Fd.good_of hz
    rw [hG.ord] at hc
    obtain ⟨N, rfl⟩ : ∃ N : Nat, n = N := ⟨n.toNat, by omega⟩
    exact Sp_ok P K N l v w hT ⟨hF, hl, hll, hG⟩ (by omega) (by omega) (by omega) (by omega) (by omega)

end Go.Proofs.YtgdkfbgehbdkjabDoor
